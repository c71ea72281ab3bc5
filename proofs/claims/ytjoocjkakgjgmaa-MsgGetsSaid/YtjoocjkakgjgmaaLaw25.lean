/- the document's example of layer 25 -/
import Derived.Test.YtjoocjkakgjgmaaMsgH
import Derived.Test.YtjoocjkakgjgmaaMsgD
set_option maxRecDepth 100000
set_option maxHeartbeats 20000000
namespace Go.Proofs.Ytjoocjkakgjgmaa.Law25
open Go.RowKit MsgM Msg

def ma : Ms := ⟨1, 0, 3, 5, ⟨#[]⟩, 0, 0, 0, 0, 0, [], [], []⟩
def mva : Mv := ⟨ma, none, 0, none, 0, none, 0⟩
theorem ma_may : ma.May := ⟨by decide, by decide, by decide, by decide, by decide, by decide, by decide, by decide, by decide, by decide, .inl rfl, by decide, fun n h => (by cases h), by decide, fun n h => (by cases h), by decide⟩
theorem ma_fits : Fits ma := ⟨by decide, by decide, by decide, by decide, by decide, by decide, by decide, by decide, by decide, by decide, fun n h => (by cases h), fun n h => (by cases h)⟩
theorem ma_lies (w : World) : Lies w mva := ⟨CellsAt.nil _ _, CellsAt.nil _ _, BytesAt.nil _ _, Nat.le_refl _, Nat.le_refl _, Nat.le_refl _, Nat.zero_le _, Nat.zero_le _, Nat.zero_le _⟩
theorem ma_text : ma.text.length = 29 := by decide +kernel
theorem ma_put : ma.put.length = 33 := by show (CrcM.seal_ ma.text).length = 33; rw [CrcM.seal_len, ma_text]
theorem wp_load_ms {o : Oper} {a : Act} {w : World} {K : Act → World → Prop} {Q : Exit → Act → World → Prop} (p : Operand) (ho : o.op = .load 26 p)
    (g : Nat) (hx : a.eval p = .pointer (some ⟨g, 0, none⟩)) (x : Mv) (hg : MsB w g x)
    (k : K (a.put o.dst (.agg #[.int .i64 x.m.K, .int .i64 x.m.F, .int .i64 x.m.T, .int .i64 x.m.B, .string x.m.s, .int .i64 x.m.A, .int .i64 x.m.E, .int .i64 x.m.M, .int .i64 x.m.S, .int .i64 x.m.W, .slice x.P x.m.who.length x.p, .slice x.Q x.m.names.length x.q, .slice x.D x.m.data.length x.d])) w) : o.wp Try.prog a w K Q := by
  obtain ⟨fs, hu⟩ := ms_under
  exact wp_load_row 26 p ho g hx 26 _ (0, 0) _ hg hu rfl ms_size k
theorem wpList_load_msw {ops : Array Oper} {rest : List Oper} {o : Oper} {a : Act} {w : World} {Q : Exit → Act → World → Prop} (hw : Region.wanted o (yielded ops a.tmps) = true) (p : Operand) (ho : o.op = .load 26 p)
    (g : Nat) (hx : a.eval p = .pointer (some ⟨g, 0, none⟩)) (x : Mv) (hg : MsB w g x)
    (k : wpList Try.prog ops Q rest (a.put o.dst (.agg #[.int .i64 x.m.K, .int .i64 x.m.F, .int .i64 x.m.T, .int .i64 x.m.B, .string x.m.s, .int .i64 x.m.A, .int .i64 x.m.E, .int .i64 x.m.M, .int .i64 x.m.S, .int .i64 x.m.W, .slice x.P x.m.who.length x.p, .slice x.Q x.m.names.length x.q, .slice x.D x.m.data.length x.d])) w) : wpList Try.prog ops Q (o :: rest) a w := by
  exact BigFrame.wpList_want hw fun _ hK => wp_load_ms p ho g hx x hg (hK _ _ k)
theorem tab_lt {w : World} {t : Nat} (h : Crc.Tab w t) : t < w.heap.size := cell_lt (h 0 (by omega))
theorem tab_keep {F : Nat → Prop} {w w' : World} {t : Nat} (h : Crc.Tab w t) (q : Keeps F w w') (hn : ¬ F t) : Crc.Tab w' t := fun i hi => q.cell (h i hi) hn
theorem alive_any (w : World) : Calls Try.prog 8 #[] w fun e w' => e = .returned (.bool true) ∧ Below w.heap.size w w' := by
  have CP := Lib.hid (fun t W ht => put_any t mva ma_fits W ht (ma_lies W))
  have e1 : putV mva.m = ma.put := putV_may ma_may
  have e2 : putE mva.m = 0 := putE_may ma_may
  rw [e1, e2] at CP
  have CZ := Lib.hid (fun W => size_any mva ma_fits W (ma_lies W))
  have e3 : sizeV mva.m = 33 := by rw [show mva.m = ma from rfl, sizeV_may ma_may]; exact congrArg (· + 4) ma_text
  rw [e3] at CZ
  have CG := Lib.hid (fun t A c W ht h h1 h2 => get_any t A ma.put c W ht h h1 h2 (by rw [ma_put]; omega))
  unfold RetGot at CG
  rw [(get_put ma_may).1, (get_put ma_may).2] at CG
  have CS := Lib.hid (fun W y hy => Msg.same_any y mva W hy (ma_lies W))
  have HPL := Lib.hid ma_put
  have hput := ma_put
  generalize ma.put = PB at *
  clear e1 e2 e3
  go_enter Try.func8, Try.ntmps8
  go_wp2_with fail
  refine (Crc.new_any w).mono ?_
  rintro e w1 ⟨t, rfl, ht, hb⟩
  have HT := Lib.hid ht
  have HB1 := Lib.hid hb
  have HM0 : Hid (MsB (w1.alloc (.cells #[.int .i64 0, .int .i64 0, .int .i64 0, .int .i64 0, .string ⟨#[]⟩, .int .i64 0, .int .i64 0, .int .i64 0, .int .i64 0, .int .i64 0, .slice none 0 0, .slice none 0 0, .slice none 0 0] 26)) w1.heap.size mv0) := Lib.hid (MsB.new w1 mv0)
  have HBA := Lib.hid (balloc w1 (.cells #[.int .i64 0, .int .i64 0, .int .i64 0, .int .i64 0, .string ⟨#[]⟩, .int .i64 0, .int .i64 0, .int .i64 0, .int .i64 0, .int .i64 0, .slice none 0 0, .slice none 0 0, .slice none 0 0] 26))
  clear ht hb
  go_wp2_with (first
    | ((with_reducible show wpList _ _ _ (_ :: _) _ _); refine wpList_store_ms rfl _ _ rfl w1.heap.size mva rfl rfl mv0 HM0.out ?_; intro w2 hr2 hk2; have HM2 := Lib.hid hr2; have HK2 := Lib.hid hk2; clear hr2 hk2)
    | ((with_reducible show wpList _ _ _ (_ :: _) _ _); refine wpList_load_ms rfl _ rfl w1.heap.size rfl mva HM2.out ?_))
  have HB2 : Hid (Below w.heap.size w w2) := Lib.hid (below_keeps (bstep HB1.out HBA.out) HK2.out (fun i e => by have := HB1.out.size; omega) (bstep HB1.out HBA.out).size)
  have HT2 : Hid (Crc.Tab w2 t) := Lib.hid (tab_keep (HT.out.below HBA.out) HK2.out (by have := tab_lt HT.out; omega))
  obtain ⟨p, hp⟩ : ∃ p, p = w1.heap.size := ⟨_, rfl⟩
  rw [← hp] at HM2
  first | rw [← hp] | skip
  clear hp HM0 HBA HK2 HB1 HT
  refine (CP.out t w2 HT2.out).mono ?_
  rintro e w3 ⟨X, d, rfl, x1, x2, x3, hb, -⟩
  have HX := Lib.hid x3
  have HT3 := Lib.hid (HT2.out.below hb)
  have HM3 := Lib.hid (HM2.out.below hb)
  have HB3 := Lib.hid (bstep HB2.out hb)
  rw [hput]
  have C := Lib.hid (CG.out t X d w3 HT3.out HX.out x1 x2)
  rw [hput] at C
  clear x3 hb HT2 HM2 HB2 CP CG x1 HPL hput
  go_wp2_with fail
  refine C.out.mono ?_
  rintro e w4 ⟨y, hy, rfl, hl, hb⟩
  have HY := Lib.hid hy; have HL := Lib.hid hl
  have HM4 := Lib.hid (HM3.out.below hb)
  have HB4 := Lib.hid (bstep HB3.out hb)
  have HN0 : Hid (MsB (w4.alloc (.cells #[.int .i64 0, .int .i64 0, .int .i64 0, .int .i64 0, .string ⟨#[]⟩, .int .i64 0, .int .i64 0, .int .i64 0, .int .i64 0, .int .i64 0, .slice none 0 0, .slice none 0 0, .slice none 0 0] 26)) w4.heap.size mv0) := Lib.hid (MsB.new w4 mv0)
  have HBN := Lib.hid (balloc w4 (.cells #[.int .i64 0, .int .i64 0, .int .i64 0, .int .i64 0, .string ⟨#[]⟩, .int .i64 0, .int .i64 0, .int .i64 0, .int .i64 0, .int .i64 0, .slice none 0 0, .slice none 0 0, .slice none 0 0] 26))
  clear hy hl hb C HT3 HX HM3 HB3
  have hpw : p ≠ w4.heap.size := by have := HM4.out.lt; omega
  go_wp2_with (first
    | ((with_reducible show wpList _ _ _ (_ :: _) _ _); refine wpList_store_ms rfl _ _ rfl w4.heap.size y rfl rfl mv0 HN0.out ?_; intro w5 hr5 hk5; have HN5 := Lib.hid hr5; have HK5 := Lib.hid hk5; have HM5 := Lib.hid ((HM4.out.below HBN.out).keep hk5 hpw); clear hr5 hk5)
    | ((with_reducible show wpList _ _ _ (_ :: _) _ _); refine wpList_load_msw rfl _ rfl p rfl mva HM5.out ?_))
  have HB5 : Hid (Below w.heap.size w w5) := Lib.hid (below_keeps (bstep HB4.out HBN.out) HK5.out (fun i e => by have := HB4.out.size; omega) (bstep HB4.out HBN.out).size)
  have HL5 : Hid (Lies w5 y) := Lib.hid (Lies.keep (HL.out.below HBN.out) HK5.out (fun h0 a e => by have := CellsAt.lt HL.out.who (by rw [intV_len]; exact h0) a e; omega) (fun h0 a e => by have := CellsAt.lt HL.out.names (by rw [LabM.strV_len]; exact h0) a e; omega) (fun h0 a e => by have := HL.out.data.lt h0 a e; omega))
  obtain ⟨g, hg⟩ : ∃ g, g = w4.heap.size := ⟨_, rfl⟩
  rw [← hg] at HN5
  first | rw [← hg] | skip
  clear hg HN0 HBN HK5 HM4 HB4 HL hpw
  refine (CZ.out w5).mono ?_
  rintro e w6 ⟨rfl, hb⟩
  have HN6 := Lib.hid (HN5.out.below hb)
  have HM6 := Lib.hid (HM5.out.below hb)
  have HB6 := Lib.hid (bstep HB5.out hb)
  have HL6 := Lib.hid (HL5.out.below hb)
  clear hb HN5 HM5 HB5 HL5 CZ
  go_wp2_with (first
    | ((with_reducible show wpList _ _ _ (_ :: _) _ _); refine wpList_load_msw rfl _ rfl p rfl mva HM6.out ?_)
    | ((with_reducible show wpList _ _ _ (_ :: _) _ _); refine wpList_load_msw rfl _ rfl g rfl y HN6.out ?_))
  have CC := Lib.hid (CS.out w6 y HL6.out)
  have hd : decide (y.m = mva.m) = true := decide_eq_true HY.out
  rw [hd] at CC
  refine CC.out.mono ?_
  rintro e w7 ⟨rfl, hb⟩
  have HB7 := Lib.hid (bstep HB6.out hb)
  clear hb CC CS hd HN6 HM6 HB6 HL6
  go_wp2
  go_ret
  exact ⟨rfl, HB7.out⟩
end Go.Proofs.Ytjoocjkakgjgmaa.Law25
