/- package msg: Get -/
import Derived.Test.YtjoocjkakgjgmaaMsgE
import Derived.Test.YtjoocjkakgjgmaaMsgG
import Derived.Test.YtjoocjkakgjgmaaEqual
set_option maxRecDepth 100000
set_option maxHeartbeats 20000000
namespace Go.Proofs.Ytjoocjkakgjgmaa.MsgM
open CrcM PackM
/-- what Get tells -/
def getV (b : List UInt8) : Ms := if good b = true then (if (said b).right = true ∧ (said b).put = b then said b else ms0) else ms0
def getE (b : List UInt8) : Int := if good b = true then (if (said b).right = true ∧ (said b).put = b then 0 else 3) else 4
theorem put_good (m : Ms) : good m.put = true := seal_good _
theorem get_sum {b : List UInt8} (h : good b = false) : getV b = ms0 ∧ getE b = 4 := ⟨if_neg (by rw [h]; simp), if_neg (by rw [h]; simp)⟩
theorem get_form {b : List UInt8} (h : good b = true) (k : ¬ ((said b).right = true ∧ (said b).put = b)) : getV b = ms0 ∧ getE b = 3 := by
  unfold getV getE
  rw [if_pos h, if_pos h, if_neg k, if_neg k]
  exact ⟨rfl, rfl⟩
theorem get_ok {b : List UInt8} (h : good b = true) (k : (said b).right = true ∧ (said b).put = b) : getV b = said b ∧ getE b = 0 := by
  unfold getV getE
  rw [if_pos h, if_pos h, if_pos k, if_pos k]
  exact ⟨rfl, rfl⟩
theorem said_put {m : Ms} (hm : m.May) : said m.put = m := (said_text hm _).1
theorem get_put {m : Ms} (hm : m.May) : getV m.put = m ∧ getE m.put = 0 := by
  have h := get_ok (put_good m) (by rw [said_put hm]; exact ⟨(right_iff m).2 hm, rfl⟩)
  rw [said_put hm] at h
  exact h
theorem get_not {b : List UInt8} (h : good b = true) (k : ∀ m : Ms, m.May → m.put ≠ b) : getV b = ms0 ∧ getE b = 3 := get_form h fun q => k _ ((right_iff _).1 q.1) q.2
theorem get_is {b : List UInt8} (h : getE b = 0) : (getV b).May ∧ (getV b).put = b := by
  unfold getE at h
  split at h
  · rename_i hg
    split at h
    · rename_i k
      rw [(get_ok hg k).1]
      exact ⟨(right_iff _).1 k.1, k.2⟩
    · cases h
  · cases h
theorem textL_size (b : List UInt8) (s : St) : (txt (textL b s)).size ≤ 4294967295 := by
  show (textL b s).toArray.size ≤ _
  have h1 : (textL b s).length ≤ ((numV b s 1 : Nat) : Int).toNat := rawL_len _ _ _
  have h2 := numV_lt b s 1
  simp
  omega
theorem numsTo_in (b : List UInt8) (s : St) (k : Nat) : ∀ n ∈ (numsTo b s k).1, 0 ≤ n ∧ n ≤ 4294967295 := by
  induction k with
  | zero => intro n h; cases h
  | succ k ih =>
    intro n h
    have h : n ∈ (numsTo b s k).1 ++ [((numV b (numsTo b s k).2 4 : Nat) : Int)] := h
    rw [List.mem_append, List.mem_singleton] at h
    rcases h with h | rfl
    · exact ih n h
    · have := numV_lt b (numsTo b s k).2 4; omega
theorem textsTo_in (b : List UInt8) (s : St) (k : Nat) : ∀ n ∈ (textsTo b s k).1, n.size ≤ 4294967295 := by
  induction k with
  | zero => intro n h; cases h
  | succ k ih =>
    intro n h
    have h : n ∈ (textsTo b s k).1 ++ [txt (textL b (textsTo b s k).2)] := h
    rw [List.mem_append, List.mem_singleton] at h
    rcases h with h | rfl
    · exact ih n h
    · exact textL_size _ _
end Go.Proofs.Ytjoocjkakgjgmaa.MsgM
namespace Go.Proofs.Ytjoocjkakgjgmaa.Msg
open Go.RowKit MsgM
open R07 (StrsAt Sane)

theorem said_fits (b : List UInt8) : Fits (said b) := by
  have h1 := PackM.numV_lt b (o1 b) 1
  have h2 := PackM.numV_lt b (o2 b) 2
  have h3 := PackM.numV_lt b (o3 b) 2
  have h4 := PackM.numV_lt b (o4 b) 4
  have h5 := textL_size b (o5 b)
  have h6 := PackM.numV_lt b (o6 b) 4
  have h7 := PackM.numV_lt b (o7 b) 4
  have h8 := PackM.numV_lt b (o8 b) 4
  have h9 := PackM.numV_lt b (o9 b) 2
  have h10 := PackM.numV_lt b (o10 b) 1
  refine ⟨?_, ?_, ?_, ?_, ?_, ?_, ?_, ?_, ?_, ?_, fun n hn => ?_, fun n hn => ?_⟩
  · show -9223372036854775808 ≤ ((PackM.numV b (o1 b) 1 : Nat) : Int) ∧ ((PackM.numV b (o1 b) 1 : Nat) : Int) ≤ 9223372036854775807; omega
  · show -9223372036854775808 ≤ ((PackM.numV b (o2 b) 2 : Nat) : Int) ∧ ((PackM.numV b (o2 b) 2 : Nat) : Int) ≤ 9223372036854775807; omega
  · show -9223372036854775808 ≤ ((PackM.numV b (o3 b) 2 : Nat) : Int) ∧ ((PackM.numV b (o3 b) 2 : Nat) : Int) ≤ 9223372036854775807; omega
  · show -9223372036854775808 ≤ ((PackM.numV b (o4 b) 4 : Nat) : Int) ∧ ((PackM.numV b (o4 b) 4 : Nat) : Int) ≤ 9223372036854775807; omega
  · show (txt (PackM.textL b (o5 b))).size ≤ 9223372036854775807; omega
  · show -9223372036854775808 ≤ ((PackM.numV b (o6 b) 4 : Nat) : Int) ∧ ((PackM.numV b (o6 b) 4 : Nat) : Int) ≤ 9223372036854775807; omega
  · show -9223372036854775808 ≤ ((PackM.numV b (o7 b) 4 : Nat) : Int) ∧ ((PackM.numV b (o7 b) 4 : Nat) : Int) ≤ 9223372036854775807; omega
  · show -9223372036854775808 ≤ ((PackM.numV b (o8 b) 4 : Nat) : Int) ∧ ((PackM.numV b (o8 b) 4 : Nat) : Int) ≤ 9223372036854775807; omega
  · show -9223372036854775808 ≤ ((PackM.numV b (o9 b) 2 : Nat) : Int) ∧ ((PackM.numV b (o9 b) 2 : Nat) : Int) ≤ 9223372036854775807; omega
  · show -9223372036854775808 ≤ ((PackM.numV b (o10 b) 1 : Nat) : Int) ∧ ((PackM.numV b (o10 b) 1 : Nat) : Int) ≤ 9223372036854775807; omega
  · have := numsTo_in b (o12 b) (whoN b) n hn; omega
  · have := textsTo_in b (o14 b) (namesN b) n hn; omega
def RetMs (w : World) (m : Ms) (e : Ending) (w' : World) : Prop :=
  ∃ y : Mv, y.m = m ∧ e = .returned (.agg #[.int .i64 y.m.K, .int .i64 y.m.F, .int .i64 y.m.T, .int .i64 y.m.B, .string y.m.s, .int .i64 y.m.A, .int .i64 y.m.E, .int .i64 y.m.M, .int .i64 y.m.S, .int .i64 y.m.W, .slice y.P y.m.who.length y.p, .slice y.Q y.m.names.length y.q, .slice y.D y.m.data.length y.d]) ∧ Lies w' y ∧ Below w.heap.size w w' ∧ From (w.heap.size + 1) y
theorem said_any (A : Option Addr) (b : List UInt8) (c : Nat) (w : World) (h : BytesAt w A b) (hbl : b.length ≤ 1048576) :
    Calls Try.prog 38 #[.slice A b.length c] w (RetMs w (said b)) := by
  have H := Lib.hid h
  have C0 := Lib.hid (fun W h => Pack.read_any A b c W h hbl)
  have C1 := Lib.hid (fun g A W h hA => saidBy_any g A b W h hbl hA)
  have HR0 : Hid (MsB (w.alloc (.cells #[.int .i64 0, .int .i64 0, .int .i64 0, .int .i64 0, .string ⟨#[]⟩, .int .i64 0, .int .i64 0, .int .i64 0, .int .i64 0, .int .i64 0, .slice none 0 0, .slice none 0 0, .slice none 0 0] 26)) w.heap.size mv0) := Lib.hid (MsB.new w mv0)
  have HB0 := Lib.hid (balloc w (.cells #[.int .i64 0, .int .i64 0, .int .i64 0, .int .i64 0, .string ⟨#[]⟩, .int .i64 0, .int .i64 0, .int .i64 0, .int .i64 0, .int .i64 0, .slice none 0 0, .slice none 0 0, .slice none 0 0] 26))
  clear h
  go_enter Try.func38, Try.ntmps38
  go_wp2_with fail
  obtain ⟨q, hq⟩ : ∃ q, q = w.heap.size := ⟨_, rfl⟩
  have HQ := Lib.hid hq
  rw [← hq] at HR0 ⊢
  clear hq
  generalize w.alloc (.cells #[.int .i64 0, .int .i64 0, .int .i64 0, .int .i64 0, .string ⟨#[]⟩, .int .i64 0, .int .i64 0, .int .i64 0, .int .i64 0, .int .i64 0, .slice none 0 0, .slice none 0 0, .slice none 0 0] 26) = W0 at *
  refine (C0.out W0 (H.out.below HB0.out)).mono ?_
  rintro e w1 ⟨g, A1, rfl, hr, hb, hg, hn⟩
  have HR1 := Lib.hid hr
  have HB1 := Lib.hid (bstep HB0.out hb)
  have HRq := Lib.hid (HR0.out.below hb)
  have HG : Hid (q < g ∧ W0.heap.size ≤ w1.heap.size ∧ q < W0.heap.size) := Lib.hid (by have := HR0.out.lt; have := hb.size; omega)
  have HN1 := Lib.hid hn
  have C := Lib.hid (C1.out g A1 w1 HR1.out (fun h0 a e => HR1.out.bytes.lt h0 a e))
  clear hr hb hg hn C0 C1 HR0 HB0
  go_wp2_with fail
  refine C.out.mono ?_
  rintro e w2 ⟨y, hy, rfl, hl, hk, hfr⟩
  have HY := Lib.hid hy; have HL := Lib.hid hl
  have HFR : Hid (From W0.heap.size y) := Lib.hid (hfr _ HG.out.2.1 (fun _ a e => HN1.out a e))
  have HRq2 := Lib.hid (HRq.out.keep hk (by have := HG.out; omega))
  have HB2 : Hid (Below w.heap.size w w2) := Lib.hid (below_keeps HB1.out hk (fun k e => by have h1 := HG.out; have h2 := HQ.out; omega) HB1.out.size)
  clear hy hl hk hfr HRq HB1 C
  go_wp2_with (refine wpList_store_ms rfl _ _ rfl q y rfl rfl mv0 HRq2.out ?_; intro w3 hr3 hk3; have HR3 := Lib.hid hr3; have HK3 := Lib.hid hk3; clear hr3 hk3)
  have hg := HG.out; have hq := HQ.out
  have hfr := HFR.out
  exact Go.bodyPost_ret (results_ms1 rfl _ _ q y rfl HR3.out) rfl ⟨y, HY.out, rfl, Lies.keep HL.out HK3.out (fun _ a e => by have := hfr.1 a e; omega) (fun _ a e => by have := hfr.2.1 a e; omega) (fun h0 a e => by have := hfr.2.2 h0 a e; omega), below_keeps HB2.out HK3.out (fun k e => by omega) HB2.out.size,
    ⟨fun a e => by have := hfr.1 a e; omega, fun a e => by have := hfr.2.1 a e; omega, fun h0 a e => by have := hfr.2.2 h0 a e; omega⟩⟩
def RetGot (w : World) (b : List UInt8) (e : Ending) (w' : World) : Prop :=
  ∃ y : Mv, y.m = getV b ∧ e = .returned (.tuple #[.agg #[.int .i64 y.m.K, .int .i64 y.m.F, .int .i64 y.m.T, .int .i64 y.m.B, .string y.m.s, .int .i64 y.m.A, .int .i64 y.m.E, .int .i64 y.m.M, .int .i64 y.m.S, .int .i64 y.m.W, .slice y.P y.m.who.length y.p, .slice y.Q y.m.names.length y.q, .slice y.D y.m.data.length y.d], .int .i64 (getE b)]) ∧ Lies w' y ∧ Below w.heap.size w w'
theorem get_any (t : Nat) (A : Option Addr) (b : List UInt8) (c : Nat) (w : World) (ht : Crc.Tab w t) (h : BytesAt w A b) (hc : b.length ≤ c) (hc2 : c ≤ maxLen) (hbl : b.length ≤ 1048576) :
    Calls Try.prog 16 #[.pointer (some ⟨t, 0, none⟩), .slice A b.length c] w (RetGot w b) := by
  have H := Lib.hid h; have HT := Lib.hid ht
  have CG := Lib.hid (fun W ht h => Crc.good_any t A b c W ht h hc hc2 (by omega))
  have CS := Lib.hid (fun W h => said_any A b c W h hbl)
  have CE := Lib.hid (fun X l d W h => Equal.equal_any X A l b d c W h)
  have HF := Lib.hid (said_fits b)
  have HR0 : Hid (MsB (w.alloc (.cells #[.int .i64 0, .int .i64 0, .int .i64 0, .int .i64 0, .string ⟨#[]⟩, .int .i64 0, .int .i64 0, .int .i64 0, .int .i64 0, .int .i64 0, .slice none 0 0, .slice none 0 0, .slice none 0 0] 26)) w.heap.size mv0) := Lib.hid (MsB.new w mv0)
  have HB0 := Lib.hid (balloc w (.cells #[.int .i64 0, .int .i64 0, .int .i64 0, .int .i64 0, .string ⟨#[]⟩, .int .i64 0, .int .i64 0, .int .i64 0, .int .i64 0, .int .i64 0, .slice none 0 0, .slice none 0 0, .slice none 0 0] 26))
  obtain ⟨q, hq⟩ : ∃ q, q = w.heap.size := ⟨_, rfl⟩
  have HQ := Lib.hid hq
  rw [← hq] at HR0
  have Hno : Hid (CrcM.good b = false → getV b = ms0 ∧ getE b = 4) := Lib.hid get_sum
  have Hfo : Hid (CrcM.good b = true → ¬ ((said b).right = true ∧ (said b).put = b) → getV b = ms0 ∧ getE b = 3) := Lib.hid get_form
  have Hok : Hid (CrcM.good b = true → ((said b).right = true ∧ (said b).put = b) → getV b = said b ∧ getE b = 0) := Lib.hid get_ok
  unfold RetGot
  generalize getV b = GV at *
  generalize getE b = GE at *
  generalize said b = R at *
  clear h ht hc hc2 hbl
  obtain ⟨bn, hbn⟩ : ∃ bn, bn = b.length := ⟨_, rfl⟩
  rw [← hbn] at CG CS CE ⊢
  clear hbn
  rcases hg : CrcM.good b with _ | _
  · obtain ⟨rfl, rfl⟩ := Hno.out hg
    rw [hg] at CG
    clear Hno Hfo Hok hg CS CE HF
    go_enter Try.func16, Try.ntmps16
    go_wp2_with fail
    rw [← hq]
    clear hq
    obtain ⟨W0, hW0⟩ : ∃ W0, W0 = w.alloc (.cells #[.int .i64 0, .int .i64 0, .int .i64 0, .int .i64 0, .string ⟨#[]⟩, .int .i64 0, .int .i64 0, .int .i64 0, .int .i64 0, .int .i64 0, .slice none 0 0, .slice none 0 0, .slice none 0 0] 26) := ⟨_, rfl⟩
    rw [← hW0] at HR0 HB0
    first | rw [← hW0] | skip
    clear hW0
    refine (CG.out W0 (HT.out.below HB0.out) (H.out.below HB0.out)).mono ?_
    rintro e w1 ⟨rfl, hb1⟩
    have HR1 := Lib.hid (HR0.out.below hb1)
    have HB1 := Lib.hid (bstep HB0.out hb1)
    clear hb1 CG HR0 HB0
    go_wp2_with (refine wpList_store_ms rfl _ _ rfl q mv0 rfl rfl mv0 HR1.out ?_; intro w3 hr3 hk3; have HR3 := Lib.hid hr3; have HK3 := Lib.hid hk3; clear hr3 hk3)
    exact Go.bodyPost_ret (results_ms2 rfl _ _ q mv0 rfl HR3.out (.int .i64 4) rfl) rfl ⟨mv0, rfl, rfl, lies0 _, below_keeps HB1.out HK3.out (fun k e => by have h2 := HQ.out; omega) HB1.out.size⟩
  · have Hfo2 := Lib.hid (Hfo.out hg); have Hok2 := Lib.hid (Hok.out hg)
    rw [hg] at CG
    clear Hno Hfo Hok hg
    go_enter Try.func16, Try.ntmps16
    go_wp2_with fail
    rw [← hq]
    clear hq
    obtain ⟨W0, hW0⟩ : ∃ W0, W0 = w.alloc (.cells #[.int .i64 0, .int .i64 0, .int .i64 0, .int .i64 0, .string ⟨#[]⟩, .int .i64 0, .int .i64 0, .int .i64 0, .int .i64 0, .int .i64 0, .slice none 0 0, .slice none 0 0, .slice none 0 0] 26) := ⟨_, rfl⟩
    rw [← hW0] at HR0 HB0
    first | rw [← hW0] | skip
    clear hW0
    refine (CG.out W0 (HT.out.below HB0.out) (H.out.below HB0.out)).mono ?_
    rintro e w1 ⟨rfl, hb1⟩
    have HR1 := Lib.hid (HR0.out.below hb1)
    have HB1 := Lib.hid (bstep HB0.out hb1)
    clear hb1 CG HR0 HB0
    go_wp2_with fail
    refine (CS.out w1 (H.out.below HB1.out)).mono ?_
    rintro e w2 ⟨y, hy, rfl, hl, hb2, hfr⟩
    have HY := Lib.hid hy; have HL := Lib.hid hl; have HFR := Lib.hid hfr
    have HR2 := Lib.hid (HR1.out.below hb2)
    have HB2 := Lib.hid (bstep HB1.out hb2)
    have HQ2 : Hid (q < w1.heap.size ∧ q < w2.heap.size ∧ w.heap.size ≤ w2.heap.size) := Lib.hid ⟨HR1.out.lt, HR2.out.lt, HB2.out.size⟩
    have HRp : Hid (MsB (w2.alloc (.cells #[.int .i64 0, .int .i64 0, .int .i64 0, .int .i64 0, .string ⟨#[]⟩, .int .i64 0, .int .i64 0, .int .i64 0, .int .i64 0, .int .i64 0, .slice none 0 0, .slice none 0 0, .slice none 0 0] 26)) w2.heap.size mv0) := Lib.hid (MsB.new w2 mv0)
    have HBp := Lib.hid (balloc w2 (.cells #[.int .i64 0, .int .i64 0, .int .i64 0, .int .i64 0, .string ⟨#[]⟩, .int .i64 0, .int .i64 0, .int .i64 0, .int .i64 0, .int .i64 0, .slice none 0 0, .slice none 0 0, .slice none 0 0] 26))
    clear hy hl hb2 hfr CS HR1 HB1
    go_wp2_with (first
      | (refine wpList_store_ms rfl _ _ rfl w2.heap.size y rfl rfl mv0 HRp.out ?_; intro w3 hr3 hk3; have HP3 := Lib.hid hr3; have HK3 := Lib.hid hk3; clear hr3 hk3)
      | (refine wpList_load_ms rfl _ rfl w2.heap.size rfl y HP3.out ?_))
    have HL3 : Hid (Lies w3 y) := Lib.hid (Lies.keep (HL.out.below HBp.out) HK3.out (fun h0 a e => by have := CellsAt.lt HL.out.who (by rw [intV_len]; exact h0) a e; omega) (fun h0 a e => by have := CellsAt.lt HL.out.names (by rw [LabM.strV_len]; exact h0) a e; omega) (fun h0 a e => by have := HL.out.data.lt h0 a e; omega))
    have HR3 := Lib.hid ((HR2.out.below HBp.out).keep HK3.out (by have := HQ2.out; omega))
    have HB3 : Hid (Below w.heap.size w w3) := Lib.hid (below_keeps (bstep HB2.out HBp.out) HK3.out (fun k e => by have := HQ2.out; omega) (bstep HB2.out HBp.out).size)
    obtain ⟨p, hp⟩ : ∃ p, p = w2.heap.size := ⟨_, rfl⟩
    rw [← hp] at HP3
    first | rw [← hp] | skip
    have HPQ : Hid (¬ p = q) := Lib.hid (by have := HQ2.out; omega)
    have hyf : Fits y.m := by rw [HY.out]; exact HF.out
    have CPX := Lib.hid (put_any t y hyf w3 (HT.out.below HB3.out) HL3.out)
    have HB0 : Hid (BytesAt w3 A b) := Lib.hid (H.out.below HB3.out)
    clear hp HK3 HRp HBp HR2 HB2 HL hyf HF
    rcases hv : y.m.right with _ | _
    · have C : Hid (Calls Try.prog 10 #[.pointer (some ⟨t, 0, none⟩), .agg #[.int .i64 y.m.K, .int .i64 y.m.F, .int .i64 y.m.T, .int .i64 y.m.B, .string y.m.s, .int .i64 y.m.A, .int .i64 y.m.E, .int .i64 y.m.M, .int .i64 y.m.S, .int .i64 y.m.W, .slice y.P y.m.who.length y.p, .slice y.Q y.m.names.length y.q, .slice y.D y.m.data.length y.d]] w3 (RetPut w3 [] 3)) := Lib.hid (by rw [← putV_not hv, ← putE_not hv]; exact CPX.out)
      obtain ⟨rfl, rfl⟩ := Hfo2.out (fun k => by rw [← HY.out, hv] at k; cases k.1)
      clear CPX hv Hfo2 Hok2 CE HY
      refine C.out.mono ?_
      rintro e w4 ⟨Z, dz, rfl, z1, z2, z3, hb4, -⟩
      have HR4 := Lib.hid (HR3.out.below hb4)
      have HB4 := Lib.hid (bstep HB3.out hb4)
      clear z3 hb4 HB3 HR3 C
      go_wp2_with (refine wpList_store_ms rfl _ _ rfl q mv0 rfl rfl mv0 HR4.out ?_; intro w5 hr5 hk5; have HS5 := Lib.hid hr5; have HK5 := Lib.hid hk5; clear hr5 hk5)
      exact Go.bodyPost_ret (results_ms2 rfl _ _ q mv0 rfl HS5.out (.int .i64 3) rfl) rfl ⟨mv0, rfl, rfl, lies0 _, below_keeps HB4.out HK5.out (fun k e => by have h2 := HQ.out; omega) HB4.out.size⟩
    · have hm := (right_iff _).1 hv
      have C : Hid (Calls Try.prog 10 #[.pointer (some ⟨t, 0, none⟩), .agg #[.int .i64 y.m.K, .int .i64 y.m.F, .int .i64 y.m.T, .int .i64 y.m.B, .string y.m.s, .int .i64 y.m.A, .int .i64 y.m.E, .int .i64 y.m.M, .int .i64 y.m.S, .int .i64 y.m.W, .slice y.P y.m.who.length y.p, .slice y.Q y.m.names.length y.q, .slice y.D y.m.data.length y.d]] w3 (RetPut w3 y.m.put 0)) := Lib.hid (by rw [← putE_may hm, ← putV_may hm]; exact CPX.out)
      have Hr : Hid (R.right = true) := Lib.hid (by rw [← HY.out]; exact hv)
      have HYP : Hid (y.m.put = R.put) := Lib.hid (by rw [HY.out])
      obtain ⟨PB, hPB⟩ : ∃ PB, PB = y.m.put := ⟨_, rfl⟩
      rw [← hPB] at C HYP
      clear CPX hv hm hPB
      refine C.out.mono ?_
      rintro e w4 ⟨Z, dz, rfl, z1, z2, z3, hb4, -⟩
      have HR4 := Lib.hid (HR3.out.below hb4)
      have HP4 := Lib.hid (HP3.out.below hb4)
      have HL4 := Lib.hid (HL3.out.below hb4)
      have HB4 := Lib.hid (bstep HB3.out hb4)
      have CEX := Lib.hid (CE.out Z PB dz w4 z3 (HB0.out.below hb4))
      clear z3 hb4 HB3 HR3 C CE HL3 HP3 HB0
      generalize hPn : PB.length = pn at *
      clear hPn
      go_wp2_with fail
      refine CEX.out.mono ?_
      rintro e w5 ⟨rfl, rfl⟩
      by_cases hq2 : PB = b
      · obtain ⟨rfl, rfl⟩ := Hok2.out ⟨Hr.out, by rw [← HYP.out]; exact hq2⟩
        have hd : decide (PB = b) = true := decide_eq_true hq2
        clear hq2 Hfo2 Hok2 Hr HYP CEX
        rw [hd]
        clear hd
        go_wp2_with (first
          | (refine wpList_load_ms rfl _ rfl p rfl y HP4.out ?_)
          | (refine wpList_store_ms rfl _ _ rfl q y rfl rfl mv0 HR4.out ?_; intro w5 hr5 hk5; have HS5 := Lib.hid hr5; have HK5 := Lib.hid hk5; clear hr5 hk5))
        have hfr := HFR.out; have hq2 := HQ2.out
        exact Go.bodyPost_ret (results_ms2 rfl _ _ q y rfl HS5.out (.int .i64 0) rfl) rfl ⟨y, HY.out, rfl, Lies.keep HL4.out HK5.out (fun _ a e => by have := hfr.1 a e; omega) (fun _ a e => by have := hfr.2.1 a e; omega) (fun h0 a e => by have := hfr.2.2 h0 a e; omega), below_keeps HB4.out HK5.out (fun k e => by have h2 := HQ.out; omega) HB4.out.size⟩
      · obtain ⟨rfl, rfl⟩ := Hfo2.out (fun k => hq2 (by rw [HYP.out]; exact k.2))
        have hd : decide (PB = b) = false := decide_eq_false hq2
        clear hq2 Hfo2 Hok2 Hr HYP CEX HY
        rw [hd]
        clear hd
        go_wp2_with (refine wpList_store_ms rfl _ _ rfl q mv0 rfl rfl mv0 HR4.out ?_; intro w5 hr5 hk5; have HS5 := Lib.hid hr5; have HK5 := Lib.hid hk5; clear hr5 hk5)
        exact Go.bodyPost_ret (results_ms2 rfl _ _ q mv0 rfl HS5.out (.int .i64 3) rfl) rfl ⟨mv0, rfl, rfl, lies0 _, below_keeps HB4.out HK5.out (fun k e => by have h2 := HQ.out; omega) HB4.out.size⟩
end Go.Proofs.Ytjoocjkakgjgmaa.Msg
