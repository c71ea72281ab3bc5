/- merged: SpcC, SpcD, SpcE -/
import Derived.Test.YtpljdjkmemojmaaMSL
import Derived.Test.YtpljdjkmemojmaaMPI

/- package space: New, Copy, runs, Free, Longest -/
set_option maxRecDepth 100000
namespace Go.Proofs.Ytpljdjkmemojmaa.Space
open Go.RowKit SpaceM Pile Pairs

def none_ (z : Nat) : List Bool := List.replicate z false
theorem zero_sp (w : World) : (zeroValue 47).run Try.prog w = .ok (.agg (arr [])) w := by kernel_rfl
theorem arr_len {f : List Bool} (h : f.length ≤ 256) : (arr f).size = 257 := by unfold arr; simp [pad_len h]
theorem arr_none (z : Nat) (hz : z ≤ 256) : (arr []).setIfInBounds 256 (.int .i64 (z : Nat)) = arr (none_ z) := by
  have e1 : pad [] = List.replicate 256 false := by unfold pad; simp
  have e2 : pad (none_ z) = List.replicate 256 false := by
    unfold pad none_
    rw [List.length_replicate, List.replicate_append_replicate]
    congr 1; omega
  unfold arr
  rw [e1, e2]
  apply Array.toList_inj.1
  rw [Array.toList_setIfInBounds]
  simp only [none_, List.length_replicate]
  rw [List.set_append_right _ _ (by simp)]
  simp
/-- slots that the call has made -/
def RetSp (w : World) (f : List Bool) (e : Ending) (w' : World) : Prop := ∃ s, e = .returned (.pointer (some ⟨s, 0, none⟩)) ∧ SpAt w' s f ∧ w.heap.size ≤ s ∧ Below w.heap.size w w'
theorem give_all (z : Nat) (h1 : 1 ≤ z) : may (none_ z) 0 (z : Nat) true = true ∧ act (none_ z) 0 (z : Nat) true = List.replicate z true := by
  have hm : may (none_ z) 0 (z : Nat) true = true := by
    refine (may_spec _ _ _ _).2 ⟨⟨by omega, by omega, by unfold none_; simp; omega, by unfold none_; simp⟩, fun j hj => ?_⟩
    unfold none_ fr
    simp [List.getD, List.getElem?_replicate]
    split <;> rfl
  refine ⟨hm, ?_⟩
  unfold act
  rw [if_pos hm, Int.toNat_natCast]
  refine ext (by rw [setAt_len]; unfold none_; simp) fun i hi => ?_
  rw [setAt_len] at hi
  rw [fr_setAt, if_pos hi]
  unfold none_ at hi
  rw [List.length_replicate] at hi
  rw [if_pos (by show (0 : Int).toNat ≤ i ∧ i < (0 : Int).toNat + z; simp; exact hi)]
  unfold fr
  simp [List.getD, hi]
theorem new_any (n : Int) (w : World) (_hn : In64 n) :
    Calls Try.prog 7 #[.int .i64 n] w (RetSp w (SpaceM.new n)) := by
  obtain ⟨z, hz⟩ : ∃ z, z = (if n < 1 then 1 else if 256 < n then 256 else n).toNat := ⟨_, rfl⟩
  have hnew : SpaceM.new n = List.replicate z true := by rw [hz]; rfl
  have h1 : 1 ≤ z ∧ z ≤ 256 := by
    rw [hz]
    by_cases c1 : n < 1
    · rw [if_pos c1]; decide
    · rw [if_neg c1]
      by_cases c2 : 256 < n
      · rw [if_pos c2]; decide
      · rw [if_neg c2]; omega
  rw [hnew]
  obtain ⟨m, hm⟩ : ∃ m, m = max n 1 := ⟨_, rfl⟩
  have hm2 : min m 256 = (z : Int) := by
    rw [hm, hz]
    by_cases c1 : n < 1
    · rw [if_pos c1, Int.max_eq_right (by omega)]; rfl
    · rw [if_neg c1, Int.max_eq_left (by omega)]
      by_cases c2 : 256 < n
      · rw [if_pos c2, Int.min_eq_right (by omega)]; rfl
      · rw [if_neg c2, Int.min_eq_left (by omega)]; omega
  have hm' := hm.symm
  have hZ := zero_sp
  have hset := arr_none z h1.2
  have hsz := arr_len (f := []) (by simp)
  have HS : Hid (SpAt (w.alloc (.cells (arr (none_ z)) 47)) w.heap.size (none_ z)) := Lib.hid ⟨heap_alloc_new w _, by unfold none_; simp; omega⟩
  have HBA := Lib.hid (balloc w (.cells (arr (none_ z)) 47))
  have hl : (none_ z).length = z := by unfold none_; simp
  have cs := HS.out.size
  rw [hl] at cs
  have hG := fun W h => give_any w.heap.size 0 (z : Nat) (none_ z) W h ⟨by decide, by decide⟩ ⟨by omega, by omega⟩
  rw [(give_all z h1.1).1, (give_all z h1.1).2] at hG
  have HG := Lib.hid hG
  generalize arr [] = az at *
  generalize arr (none_ z) = ar at *
  generalize none_ z = fz at *
  clear hz hnew h1 _hn hm hl hG
  go_enter Try.func7, Try.ntmps7
  go_wp2_with fail
  refine (HG.out _ HS.out).mono ?_
  rintro e w2 ⟨rfl, hs2, hk2⟩
  have HF : Hid (RetSp w (List.replicate z true) (.returned (.pointer (some ⟨w.heap.size, 0, none⟩))) w2) := Lib.hid ⟨_, rfl, hs2, Nat.le_refl _, below_keeps HBA.out hk2 (fun k e => by omega) (by simp)⟩
  clear hs2 hk2 HG HS
  go_wp2
  go_ret
  exact HF.out
/-- a whole load, a whole store -/
theorem sp_under : Try.prog.underlying 47 = some (.struct (Try.prog.fieldsOf 47)) := by kernel_rfl
theorem sp_size : (Try.prog.info? 47).map (·.size) = some 257 := by kernel_rfl
theorem arr_one (f : List Bool) : (arr f).all (·.oneCell') = true := by
  rw [Array.all_eq_true']
  intro x hx
  unfold arr at hx
  simp at hx
  rcases hx with (⟨_, rfl⟩ | ⟨_, rfl⟩) | rfl <;> rfl
theorem wpList_load_sp {ops : Array Oper} {rest : List Oper} {o : Oper} {a : Act} {w : World} {Q : Exit → Act → World → Prop} (hgd : o.guard = none) (x : Operand) (ho : o.op = .load 47 x)
    (g : Nat) (hx : a.eval x = .pointer (some ⟨g, 0, none⟩)) (f : List Bool) (hg : SpAt w g f)
    (k : wpList Try.prog ops Q rest (a.put o.dst (.agg (arr f))) w) : wpList Try.prog ops Q (o :: rest) a w :=
  wpList_load_row hgd 47 x ho g hx 47 _ (0, 0) _ hg.row sp_under rfl (by rw [sp_size, arr_len hg.len]) k
theorem wpList_store_sp {ops : Array Oper} {rest : List Oper} {o : Oper} {a : Act} {w : World} {Q : Exit → Act → World → Prop} (hgd : o.guard = none) (x y : Operand) (ho : o.op = .store 47 x y)
    (g : Nat) (f : List Bool) (hf : f.length ≤ 256) (hx : a.eval x = .pointer (some ⟨g, 0, none⟩)) (hy : a.eval y = .agg (arr f)) (f0 : List Bool) (hg : SpAt w g f0)
    (k : ∀ w', SpAt w' g f → Below g w w' → wpList Try.prog ops Q rest (a.put o.dst undef) w') : wpList Try.prog ops Q (o :: rest) a w :=
  wpList_store_row hgd 47 x y ho g _ hx hy 47 _ hg.row (by rw [sp_size, arr_len hf]) (by rw [arr_len hf, arr_len hg.len]) (arr_one f) (k _ ⟨setRow_heap w g _ _ _ (0, 0) hg.row, hf⟩ (below_setRow w g _))
theorem copy_any (s : Nat) (f : List Bool) (w : World) (h : SpAt w s f) :
    Calls Try.prog 19 #[.pointer (some ⟨s, 0, none⟩)] w (RetSp w f) := by
  have HZ : Hid (SpAt (w.alloc (.cells (arr []) 47)) w.heap.size []) := Lib.hid ⟨heap_alloc_new w _, by simp⟩
  have HBA := Lib.hid (balloc w (.cells (arr []) 47))
  have HS := Lib.hid h
  have hZ := zero_sp
  generalize hz : arr [] = az at *
  clear h hz
  go_enter Try.func19, Try.ntmps19
  go_wp2_with (first | (refine wpList_load_sp rfl _ rfl s rfl f HS.out ?_) | (refine wpList_store_sp rfl _ _ rfl w.heap.size f HS.out.len rfl rfl [] HZ.out ?_; intro w2 hs2 hb2; have HS2 := Lib.hid hs2; have HB2 := Lib.hid hb2; clear hs2 hb2))
  go_ret
  exact ⟨_, rfl, HS2.out, Nat.le_refl _, HBA.out.trans HB2.out⟩
theorem copy_nil (w : World) : Calls Try.prog 19 #[.pointer none] w fun e w' => e = .returned (.pointer none) ∧ w' = w := by
  go_enter Try.func19, Try.ntmps19
  go_wp2
  go_ret
  exact ⟨rfl, rfl⟩
theorem run_info : (Try.prog.info? 62).map (fun i => (i.zero, i.size, i.bytes)) = some (some (.agg #[.int .i64 0, .int .i64 0]), 2, 16) := by kernel_rfl
theorem run_info' : ∃ i, Try.prog.info? 62 = some i ∧ i.zero = some (.agg #[.int .i64 0, .int .i64 0]) ∧ i.size = 2 ∧ i.bytes = 16 := by
  obtain ⟨i0, h, a, b, c⟩ := info_parts run_info
  exact ⟨i0, h, a, b, c⟩
theorem long_till (f : List Bool) (a : Nat) : till (sub f a (f.length - a)) false = long f a := by
  unfold till sub long
  rw [List.take_of_length_le (by simp)]
  congr 2
  funext b
  cases b <;> rfl
theorem long_any (s a l : Nat) (f : List Bool) (w : World) (h : SpAt w s f) (ha : a ≤ l) (hl : f.length = l) :
    Calls Try.prog 28 #[.slice (some ⟨s, a, none⟩) (l - a) (256 - a)] w fun e w' => e = .returned (.int .i64 (long f a : Nat)) ∧ w' = w := by
  subst hl
  have := length_any (some ⟨s, a, none⟩) (sub f a (f.length - a)) (256 - a) w (h.bools (by omega)) (by rw [sub_len (by omega)]; have := h.len; omega)
  rw [sub_len (by omega), long_till] at this
  exact this
/-- the free runs, in a list of the call's own -/
def RetRuns (w : World) (l : List (Nat × Nat)) (e : Ending) (w' : World) : Prop := ∃ A c, e = .returned (.slice A l.length c) ∧ RunsAt w' A l ∧ Below w.heap.size w w'
theorem runs_nil (w : World) : Calls Try.prog 21 #[.pointer none] w fun e w' => e = .returned (.slice none 0 0) ∧ w' = w := by
  go_enter Try.func21, Try.ntmps21
  go_wp2
  go_ret
  exact ⟨rfl, rfl⟩
theorem runsTo_len (f : List Bool) (a : Nat) : ((runsTo f a).map two).length ≤ a := by
  rw [List.length_map]
  unfold runsTo
  rw [List.length_map]
  exact Nat.le_trans (List.length_filter_le _ _) (by simp)
/-- what is gathered where a run may begin -/
structure Along (w wr : World) (f : List Bool) (v : Value) (a : Nat) : Prop where
  own : OwnPr wr w.heap.size 62 v ((runsTo f a).map two)
  at_ : a = 0 ∨ fr f (a - 1) = false
  below : Below w.heap.size w wr
theorem Along.next {w wr : World} {f : List Bool} {v : Value} {a : Nat} (h : Along w wr f v a) (hm : long f a = 0) : Along w wr f v (a + 0 + 1) := by
  have hs := runsTo_step f a h.at_
  have he := long_end f a
  rw [hm] at hs he
  rw [if_neg (by omega), List.append_nil] at hs
  exact ⟨by rw [hs]; exact h.own, .inr (by rw [show a + 0 + 1 - 1 = a + 0 by omega]; exact he), h.below⟩
theorem Along.more {w wr w' : World} {f : List Bool} {v v' : Value} {a m : Nat} (h : Along w wr f v a) (hm : long f a = m) (h0 : 0 < m) (ho : OwnPr w' w.heap.size 62 v' ((runsTo f a).map two ++ [(((a : Nat) : Int), ((m : Nat) : Int))])) (hb : Below w.heap.size w w') : Along w w' f v' (a + m + 1) := by
  have hs := runsTo_step f a h.at_
  have he := long_end f a
  rw [hm] at hs he
  rw [if_pos h0] at hs
  exact ⟨by rw [hs, List.map_append]; exact ho, .inr (by rw [show a + m + 1 - 1 = a + m by omega]; exact he), hb⟩
theorem runs_any (s : Nat) (f : List Bool) (w : World) (h : SpAt w s f) :
    Calls Try.prog 21 #[.pointer (some ⟨s, 0, none⟩)] w (RetRuns w (runs f)) := by
  have HS := Lib.hid h
  have hl := h.len
  obtain ⟨l, hle⟩ : ∃ l, l = f.length := ⟨_, rfl⟩
  have HLE := Lib.hid hle
  rw [← hle] at hl
  obtain ⟨i0, hi, hz, hs1, hb1⟩ := run_info'
  have HI := Lib.hid (And.intro hi (And.intro hz (And.intro hs1 hb1)))
  clear h hle hi hz hs1 hb1
  go_enter Try.func21, Try.ntmps21
  go_wp2
  go_loopw [3, 4] (fun v i wr => ∃ a : Nat, i = .int .i64 a ∧ a ≤ l + 1 ∧ Hid (Along w wr f v a)) (fun _ i _ => l + 1 - (intOf i).toNat)
  case atStart => exact ⟨0, rfl, Nat.zero_le _, Lib.hid ⟨OwnPr.nil _ _ _, .inl rfl, Below.refl _ _⟩⟩
  case round =>
    obtain ⟨a, rfl, hk, HR⟩ := hrel
    rename World => wr
    have HSR := Lib.hid (HS.out.below HR.out.below)
    have cs := HSR.out.size
    rw [← HLE.out] at cs
    by_cases hlt : a < l
    · have hm : ∃ m, long f a = m ∧ a + m ≤ l := ⟨_, rfl, by rw [HLE.out]; exact long_le f a (by have := HLE.out; omega)⟩
      obtain ⟨m, hm, hml⟩ := hm
      have HM := Lib.hid hm
      have HC := Lib.hid (fun n => long_any s a l f (wr.drewN n) (HSR.out.below (bdraw _ _)) (by omega) HLE.out.symm)
      rw [hm] at HC
      have q1 : (a : Int) ≤ (l : Int) := by omega
      have q2 : (l : Int) ≤ 256 := by omega
      have q3 : a ≤ l := by omega
      clear hm
      go_wp2
      go_quiet ((go_at_call 28; exact Calls.quiet_of_same (HC.out _)))
      have HRW : Hid (Along w (wr.drewN nq) f u3 a) := Lib.hid ⟨HR.out.own.below (bdraw _ _), HR.out.at_, HR.out.below.trans ((bdraw wr nq).mono HR.out.below.size)⟩
      clear HR HSR HC cs
      generalize wr.drewN nq = W1 at *
      rcases Nat.eq_zero_or_pos m with h0 | h0
      · subst h0
        have HN := Lib.hid (HRW.out.next HM.out)
        clear HRW HM
        go_wp2
        go_roundw
        case rel => exact ⟨a + 0 + 1, by go_num, by omega, HN⟩
        case measure => simp [intOf] <;> omega
      · have HL := Lib.hid (PairsAt.lit W1 ((a : Nat), (m : Nat)) 62)
        have HB := Lib.hid (balloc W1 (.cells #[.int .i64 (a : Nat), .int .i64 (m : Nat)] 62))
        have HOW := Lib.hid (HRW.out.own.below HB.out)
        have HFB := Lib.hid (HRW.out.below.trans (HB.out.mono HRW.out.below.size))
        have hlen : ((runsTo f a).map two).length + 1 < 1099511627776 := by have := runsTo_len f a; omega
        have i1 : IntKind.i64.wrap ((a : Int) + (m : Int)) = (a : Int) + (m : Int) := IntWalk.i64_in _ (by omega)
        have i2 : IntKind.i64.wrap ((a : Int) + (m : Int) + 1) = (a : Int) + (m : Int) + 1 := IntWalk.i64_in _ (by omega)
        have HLEN := Lib.hid hlen
        have hpos : (0 : Int) < (m : Int) := by omega
        clear hlen
        go_wp2_with (at_builtin; refine wpList_append_pairs Try.underlying52 HI.out.1 HI.out.2.1 HI.out.2.2.1 HI.out.2.2.2 rfl rfl _ _ rfl w.heap.size u3 _ rfl HOW.out (some ⟨W1.heap.size, 0, none⟩) 1 1 [((a : Nat), (m : Nat))] rfl rfl HL.out HLEN.out (by omega) HFB.out.size ?_; intro v' w2 ha; have HN := Lib.hid (HRW.out.more HM.out h0 ha.own (ha.below HOW.out HFB.out (Nat.le_refl _) HFB.out.size)); clear ha)
        go_roundw
        case rel => exact ⟨a + m + 1, by go_num, by omega, HN⟩
        case measure => simp [intOf] <;> omega
    · have hr := runsTo_out f a (by have := HLE.out; omega)
      have ho := HR.out.own
      rw [hr] at ho
      obtain ⟨A, c, hv, _, _, hp, _⟩ := ho.pairs
      rw [List.length_map] at hv
      subst hv
      have HF : Hid (RetRuns w (runs f) (.returned (.slice A (runs f).length c)) wr) := Lib.hid ⟨A, c, rfl, hp, HR.out.below⟩
      clear hr ho hp HR HSR
      generalize runs f = rs at *
      go_wp2
      go_ret
      exact HF.out
end Go.Proofs.Ytpljdjkmemojmaa.Space

/- package space: Free, Longest, Take -/
set_option maxRecDepth 100000
namespace Go.Proofs.Ytpljdjkmemojmaa.Space
open Go.RowKit SpaceM Pile Pairs HeapM

theorem lens_take (l : List (Nat × Nat)) (k : Nat) (h : k < l.length) : lens (l.take (k + 1)) = lens (l.take k) ++ [l[k].2] := by
  unfold lens
  rw [List.take_succ_eq_append_getElem h, List.map_append]; rfl
theorem sum_take_le (l : List Nat) (k : Nat) : (l.take k).sum ≤ l.sum := by
  have : (l.take k ++ l.drop k).sum = l.sum := by rw [List.take_append_drop]
  rw [List.sum_append] at this
  omega
theorem count_le (f : List Bool) : count f ≤ f.length := by unfold count; exact List.length_filter_le _ _
theorem sums_le (f : List Bool) (k : Nat) : (lens ((runs f).take k)).sum ≤ f.length := by
  have h1 : lens ((runs f).take k) = (lens (runs f)).take k := by unfold lens; rw [List.map_take]
  rw [h1]
  exact Nat.le_trans (sum_take_le _ _) (by rw [runs_sum]; exact count_le f)
theorem most_le (f : List Bool) (k : Nat) (hl : f.length ≤ 256) : most (lens ((runs f).take k)) ≤ 256 := by
  rcases (most_spec (lens ((runs f).take k)) 0).2.2 with h | h
  · unfold most; omega
  · unfold lens at h
    rw [List.mem_map] at h
    obtain ⟨r, hr, e⟩ := h
    have := runs_fit (List.mem_of_mem_take hr)
    unfold most lens; omega
theorem most_app (l : List Nat) (x : Nat) : most (l ++ [x]) = max (most l) x := by unfold most; rw [List.foldl_append]; rfl
theorem free_nil (w : World) : Calls Try.prog 14 #[.pointer none] w fun e w' => e = .returned (.int .i64 0) ∧ w' = w := by
  have HR := Lib.hid (runs_nil w)
  go_enter Try.func14, Try.ntmps14
  go_wp2_with fail
  refine HR.out.mono ?_
  rintro e w1 ⟨rfl, rfl⟩
  go_wp2
  go_loopw [3, 9] (fun v i wr => v = .int .i64 0 ∧ i = .int .i64 0 ∧ wr = w1) (fun _ _ _ => 1)
  case atStart => exact ⟨rfl, rfl, rfl⟩
  case round =>
    obtain ⟨rfl, rfl, rfl⟩ := hrel
    go_wp2
    go_ret
    exact ⟨rfl, rfl⟩
theorem free_any (s : Nat) (f : List Bool) (w : World) (h : SpAt w s f) :
    Calls Try.prog 14 #[.pointer (some ⟨s, 0, none⟩)] w fun e w' => e = .returned (.int .i64 (count f : Nat)) ∧ Below w.heap.size w w' := by
  have HR := Lib.hid (runs_any s f w h)
  have HX : Hid (∀ k, (lens ((runs f).take k)).sum ≤ 256) := Lib.hid fun k => Nat.le_trans (sums_le f k) h.len
  have hnl := runs_len f
  have hl := h.len
  have hfin : (lens (runs f)).sum = count f := runs_sum f
  rw [← hfin]
  have HST : Hid (∀ k, (hk : k < (runs f).length) → (lens ((runs f).take (k + 1))).sum = (lens ((runs f).take k)).sum + (runs f)[k].2) := Lib.hid fun k hk => by rw [lens_take _ k hk, List.sum_append]; simp
  have HFU := Lib.hid (show (runs f).take (runs f).length = runs f from List.take_length)
  generalize runs f = rs at *
  clear h hfin
  go_enter Try.func14, Try.ntmps14
  go_wp2_with fail
  refine HR.out.mono ?_
  rintro e w1 ⟨A, c, rfl, hA, hb1⟩
  have HA := Lib.hid hA; have HB1 := Lib.hid hb1
  clear hA hb1 HR
  go_wp2
  go_loopw [3, 9] (fun v i wr => ∃ k x : Nat, i = .int .i64 k ∧ k ≤ rs.length ∧ v = .int .i64 x ∧ Hid (x = (lens (rs.take k)).sum ∧ Below w1.heap.size w1 wr)) (fun _ i _ => rs.length - (intOf i).toNat)
  case atStart => exact ⟨0, 0, rfl, Nat.zero_le _, rfl, Lib.hid ⟨rfl, Below.refl _ _⟩⟩
  case round =>
    obtain ⟨k, x, rfl, hk, rfl, HK⟩ := hrel
    rename World => wr
    by_cases hlt : k < rs.length
    · obtain ⟨b, o, rfl, e0, e1⟩ := (HA.out.below HK.out.2).at hlt
      have hst := HST.out k hlt
      rw [← HK.out.1] at hst
      have hxb := HX.out (k + 1)
      rw [hst] at hxb
      obtain ⟨y, hy⟩ : ∃ y, y = x + rs[k].2 := ⟨_, rfl⟩
      rw [← hy] at hst hxb
      have hyi : (x : Int) + (rs[k].2 : Nat) = (y : Int) := by omega
      have i1 : IntKind.i64.wrap ((x : Int) + (rs[k].2 : Nat)) = (y : Int) := by rw [hyi]; exact IntWalk.i64_in _ (by omega)
      have HN : Hid (y = (lens (rs.take (k + 1))).sum ∧ Below w1.heap.size w1 (wr.alloc (.cells #[.int .i64 (rs[k].1 : Nat), .int .i64 (rs[k].2 : Nat)] 62))) := Lib.hid ⟨hst.symm, HK.out.2.alloc HK.out.2.size _⟩
      clear hst hy
      generalize rs[k].1 = r1 at *
      generalize rs[k].2 = r2 at *
      go_wp2
      go_roundw
      case rel => exact ⟨k + 1, y, by go_num, by omega, by go_num, HN⟩
      case measure => simp [intOf] <;> omega
    · obtain rfl : k = rs.length := by omega
      have hx := HK.out.1
      rw [HFU.out] at hx
      have HXX := Lib.hid hx
      have HBF := Lib.hid (HB1.out.trans (HK.out.2.mono HB1.out.size))
      clear hx
      go_wp2
      go_ret
      exact ⟨by rw [← HXX.out]; rfl, HBF.out⟩
theorem longest_nil (w : World) : Calls Try.prog 16 #[.pointer none] w fun e w' => e = .returned (.int .i64 0) ∧ w' = w := by
  have HR := Lib.hid (runs_nil w)
  go_enter Try.func16, Try.ntmps16
  go_wp2_with fail
  refine HR.out.mono ?_
  rintro e w1 ⟨rfl, rfl⟩
  go_wp2
  go_loopw [3, 9] (fun v i wr => v = .int .i64 0 ∧ i = .int .i64 0 ∧ wr = w1) (fun _ _ _ => 1)
  case atStart => exact ⟨rfl, rfl, rfl⟩
  case round =>
    obtain ⟨rfl, rfl, rfl⟩ := hrel
    go_wp2
    go_ret
    exact ⟨rfl, rfl⟩
theorem longest_any (s : Nat) (f : List Bool) (w : World) (h : SpAt w s f) :
    Calls Try.prog 16 #[.pointer (some ⟨s, 0, none⟩)] w fun e w' => e = .returned (.int .i64 (SpaceM.longest f : Nat)) ∧ Below w.heap.size w w' := by
  have HR := Lib.hid (runs_any s f w h)
  have HX : Hid (∀ k, most (lens ((runs f).take k)) ≤ 256) := Lib.hid fun k => most_le f k h.len
  have hnl := runs_len f
  have hl := h.len
  have hfin : most (lens (runs f)) = SpaceM.longest f := runs_most f
  rw [← hfin]
  have HST : Hid (∀ k, (hk : k < (runs f).length) → most (lens ((runs f).take (k + 1))) = max (most (lens ((runs f).take k))) (runs f)[k].2) := Lib.hid fun k hk => by rw [lens_take _ k hk, most_app]
  have HFU := Lib.hid (show (runs f).take (runs f).length = runs f from List.take_length)
  generalize runs f = rs at *
  clear h hfin
  go_enter Try.func16, Try.ntmps16
  go_wp2_with fail
  refine HR.out.mono ?_
  rintro e w1 ⟨A, c, rfl, hA, hb1⟩
  have HA := Lib.hid hA; have HB1 := Lib.hid hb1
  clear hA hb1 HR
  go_wp2
  go_loopw [3, 9] (fun v i wr => ∃ k x : Nat, i = .int .i64 k ∧ k ≤ rs.length ∧ v = .int .i64 x ∧ Hid (x = most (lens (rs.take k)) ∧ Below w1.heap.size w1 wr)) (fun _ i _ => rs.length - (intOf i).toNat)
  case atStart => exact ⟨0, 0, rfl, Nat.zero_le _, rfl, Lib.hid ⟨rfl, Below.refl _ _⟩⟩
  case round =>
    obtain ⟨k, x, rfl, hk, rfl, HK⟩ := hrel
    rename World => wr
    by_cases hlt : k < rs.length
    · obtain ⟨b, o, rfl, e0, e1⟩ := (HA.out.below HK.out.2).at hlt
      have hst := HST.out k hlt
      rw [← HK.out.1] at hst
      have hxb := HX.out (k + 1)
      rw [hst] at hxb
      obtain ⟨y, hy⟩ : ∃ y, y = max x rs[k].2 := ⟨_, rfl⟩
      rw [← hy] at hst hxb
      have hyi : max (x : Int) (rs[k].2 : Nat) = (y : Int) := by rw [hy]; omega
      have i1 : y ≤ 256 := hxb
      have HN : Hid (y = most (lens (rs.take (k + 1))) ∧ Below w1.heap.size w1 (wr.alloc (.cells #[.int .i64 (rs[k].1 : Nat), .int .i64 (rs[k].2 : Nat)] 62))) := Lib.hid ⟨hst.symm, HK.out.2.alloc HK.out.2.size _⟩
      clear hst hy
      generalize rs[k].1 = r1 at *
      generalize rs[k].2 = r2 at *
      go_wp2
      go_roundw
      case rel => exact ⟨k + 1, y, by go_num, by omega, by go_num, HN⟩
      case measure => simp [intOf] <;> omega
    · obtain rfl : k = rs.length := by omega
      have hx := HK.out.1
      rw [HFU.out] at hx
      have HXX := Lib.hid hx
      have HBF := Lib.hid (HB1.out.trans (HK.out.2.mono HB1.out.size))
      clear hx
      go_wp2
      go_ret
      exact ⟨by rw [← HXX.out]; rfl, HBF.out⟩
end Go.Proofs.Ytpljdjkmemojmaa.Space

/- package space: Take -/
set_option maxRecDepth 100000
namespace Go.Proofs.Ytpljdjkmemojmaa.Space
open Go.RowKit SpaceM Pile Pairs HeapM

theorem find_hit {f : List Bool} {n : Int} {k : Nat} (hk : k < (runs f).length) (hno : ∀ r ∈ (runs f).take k, may f (r.1 : Nat) n false = false) (hit : may f ((runs f)[k].1 : Nat) n false = true) : find f n = some (runs f)[k].1 := by
  rw [find_runs]
  have e : runs f = (runs f).take k ++ (runs f)[k] :: (runs f).drop (k + 1) := by rw [← List.drop_eq_getElem_cons hk, List.take_append_drop]
  have h1 : ((runs f).take k).find? (fun r => may f (r.1 : Nat) n false) = none := by
    rw [List.find?_eq_none]
    intro r hr
    rw [hno r hr]; decide
  have h2 : (runs f).find? (fun r => may f (r.1 : Nat) n false) = some (runs f)[k] := by
    conv => lhs; rw [e]
    rw [List.find?_append, h1, List.find?_cons, hit]
    rfl
  rw [h2]; rfl
theorem find_miss {f : List Bool} {n : Int} (hno : ∀ r ∈ runs f, may f (r.1 : Nat) n false = false) : find f n = none := by
  rw [find_runs, List.find?_eq_none.2]
  · rfl
  · intro r hr
    rw [hno r hr]; decide
/-- what Take leaves, and tells -/
def RetTake (w : World) (s : Nat) (f : List Bool) (n : Int) (e : Ending) (w' : World) : Prop :=
  e = .returned (.tuple #[.int .i64 (tookAt f n : Nat), .bool (find f n).isSome]) ∧ SpAt w' s (taken f n) ∧ Keeps (fun k => k = s) w w'
theorem take_nil (n : Int) (w : World) : Calls Try.prog 9 #[.pointer none, .int .i64 n] w fun e w' => e = .returned (.tuple #[.int .i64 0, .bool false]) ∧ Below w.heap.size w w' := by
  have HR := Lib.hid (runs_nil w)
  have HH := Lib.hid (fun W => heapOf_any none 0 [] W (PairsAt.nil _ _) List.Pairwise.nil (by simp))
  go_enter Try.func9, Try.ntmps9
  go_wp2_with fail
  refine HR.out.mono ?_
  rintro e w1 ⟨rfl, rfl⟩
  go_wp2_with fail
  refine (HH.out _).mono ?_
  rintro e w2 ⟨p, v, rfl, hat, hb⟩
  obtain ⟨A, c, rfl, _⟩ := hat.form
  have hm := fun i => method_len i p A 0 c w2 hat.c0
  have HB := Lib.hid hb
  have HL := Lib.hid (len_any A 0 c w2)
  unfold box
  clear hat hb HR HH
  go_wp2
  go_loopw [9] (fun _ wr => wr = w2) (fun _ _ => 1)
  case atStart => exact rfl
  case round =>
    obtain rfl := hrel
    go_wp2_with fail
    refine HL.out.mono ?_
    rintro e w3 ⟨rfl, rfl⟩
    go_wp2
    go_ret2
    exact ⟨rfl, HB.out⟩
theorem keeps_below {F : Nat → Prop} {a w w' : World} {B : Nat} (h : Keeps F a w) (hb : Below B w w') (hB : a.heap.size ≤ B) : Keeps F a w' :=
  ⟨hb.os.trans h.os, hb.tape.trans h.tape, hb.output.trans h.output, Nat.le_trans h.size hb.size, fun k hk hn => (hb.block k (by omega)).trans (h.block k hk hn)⟩
theorem at_keep {F : Nat → Prop} {w w' : World} {p base : Nat} {v : Value} {L : List R} (h : Pile.At w p base v L) (q : Keeps F w w') (hp : ¬ F p) (ho : ∀ k, v.ownBlock = some k → ¬ F k) : Pile.At w' p base v L :=
  ⟨q.cell h.c0 hp, q.frozen h.c0 hp h.f0, h.own.keep q ho, h.ne, h.low, h.few⟩
/-- the first k runs are taken off, and none of them had enough -/
structure Taking (w wr : World) (s p base : Nat) (f : List Bool) (n : Int) (k : Nat) (v : Value) (L : List R) : Prop where
  at_ : Pile.At wr p base v L
  heap : Heap L
  perm : L.Perm ((runs f).drop k)
  no : ∀ r ∈ (runs f).take k, may f (r.1 : Nat) n false = false
  k : k ≤ (runs f).length
  sp : SpAt wr s f
  kp : Keeps (fun k => k = s) w wr
  low : s < base
  old : w.heap.size ≤ base
  size : base ≤ wr.heap.size
theorem Taking.len {w wr : World} {s p base : Nat} {f : List Bool} {n : Int} {k : Nat} {v : Value} {L : List R} (h : Taking w wr s p base f n k v L) : L.length = (runs f).length - k := by
  rw [h.perm.length_eq, List.length_drop]
/-- how many lie on the pile -/
def lenAt (p : Nat) (w : World) : Nat := match w.cell? ⟨p, 0, none⟩ with | some (.slice _ n _) => n | _ => 0
theorem Taking.lenAt {w wr : World} {s p base : Nat} {f : List Bool} {n : Int} {k : Nat} {v : Value} {L : List R} (h : Taking w wr s p base f n k v L) : lenAt p wr = L.length := by
  obtain ⟨A, c, hv, _⟩ := h.at_.form
  unfold Space.lenAt
  rw [h.at_.c0, hv]
theorem sorted_drop (f : List Bool) (k : Nat) : Sorted ((runs f).drop k) := List.Pairwise.sublist (List.drop_sublist _ _) (runs_sorted f)
theorem Taking.pop {w wr w' : World} {s p base : Nat} {f : List Bool} {n : Int} {k : Nat} {v v' : Value} {L L' : List R} (h : Taking w wr s p base f n k v L) (_hk : k < (runs f).length) (ha : Pile.At w' p base v' L') (hh : Heap L') (hp : L'.Perm ((runs f).drop (k + 1))) (hb : Below base wr w') :
    Pile.At w' p base v' L' ∧ Heap L' ∧ L'.Perm ((runs f).drop (k + 1)) ∧ SpAt w' s f ∧ Keeps (fun k => k = s) w w' ∧ base ≤ w'.heap.size :=
  ⟨ha, hh, hp, h.sp.belowK hb h.low, keeps_below h.kp hb h.old, Nat.le_trans h.size hb.size⟩
set_option maxHeartbeats 2000000 in
theorem take_any (s : Nat) (n : Int) (f : List Bool) (w : World) (h : SpAt w s f) (hn : In64 n) :
    Calls Try.prog 9 #[.pointer (some ⟨s, 0, none⟩), .int .i64 n] w (RetTake w s f n) := by
  have hs := h.lt
  have HR := Lib.hid (runs_any s f w h)
  have HS := Lib.hid h
  have hfl := h.len
  have hrl := runs_len f
  have HH := Lib.hid (fun A c W hA => heapOf_any A c (runs f) W hA (runs_sorted f) (by omega))
  have hin := hn
  have HIN := Lib.hid hin
  have hT := is_lying
  obtain ⟨N, hN⟩ : ∃ N, N = (runs f).length := ⟨_, rfl⟩
  have HN := Lib.hid hN
  rw [← hN] at HH
  have HRL := Lib.hid hrl; have HLO := Lib.hid hs
  clear h hin hn hN hrl hs
  go_enter Try.func9, Try.ntmps9
  go_wp2_with fail
  refine HR.out.mono ?_
  rintro e w1 ⟨A, c, rfl, hA, hb1⟩
  rw [← HN.out]
  have HA := Lib.hid hA; have HB1 := Lib.hid hb1
  clear hA hb1 HR
  go_wp2_with fail
  refine (HH.out A c w1 HA.out).mono ?_
  rintro e w2 ⟨p, v, rfl, hat, hb⟩
  have hT0 : Taking w w2 s p w1.heap.size f n 0 v (runs f) := ⟨hat, (show Sorted (runs f) from runs_sorted f).heap, by rw [List.drop_zero], fun r hr => by simp at hr, Nat.zero_le _, (HS.out.below HB1.out).below hb,
    keeps_below (.of_below _ HB1.out) hb HB1.out.size, by have := HB1.out.size; have := HLO.out; omega, HB1.out.size, hb.size⟩
  have HT0 := Lib.hid hT0
  unfold box
  clear hat hb HH HB1 HA hT0
  generalize w1.heap.size = base at *
  go_wp2
  go_loopw [9] (fun _ wr => ∃ k v L, Hid (Taking w wr s p base f n k v L)) (fun _ wr => lenAt p wr)
  case atStart => exact ⟨0, v, _, HT0⟩
  case round =>
    obtain ⟨k, v1, L, HT⟩ := hrel
    rename World => wr
    have hlen := HT.out.len
    obtain ⟨B, d, hv, _⟩ := HT.out.at_.form
    have c0 := HT.out.at_.c0
    subst hv
    have hm := fun i => method_len i p B L.length d wr c0
    have HL := Lib.hid (len_any B L.length d wr)
    by_cases hk : k < (runs f).length
    · have hpos : (0 : Int) < (L.length : Int) := by omega
      obtain ⟨r, hr⟩ : ∃ r, r = (runs f)[k] := ⟨_, rfl⟩
      have hd : (runs f).drop k = r :: (runs f).drop (k + 1) := by rw [hr]; exact List.drop_eq_getElem_cons hk
      have hp := HT.out.perm
      have hso := sorted_drop f k
      rw [hd] at hp hso
      have HP := Lib.hid (hpop_any p base _ L r _ wr HT.out.at_ HT.out.heap hp hso HT.out.size)
      have HK := Lib.hid hk
      have HLT : Hid (lenAt p wr = L.length) := Lib.hid HT.out.lenAt
      have HLE := Lib.hid hlen
      have HRR : Hid (∃ hk : k < (runs f).length, r = (runs f)[k]) := Lib.hid ⟨hk, hr⟩
      generalize L.length = l at *
      clear hr
      clear hd hp hso hk hlen
      go_wp2_with fail
      refine HL.out.mono ?_
      rintro e w3 ⟨rfl, rfl⟩
      clear hm c0 HL
      go_wp2_with fail
      refine HP.out.mono ?_
      rintro e w4 ⟨rfl, v4, L4, ha4, hh4, hp4, hb4⟩
      obtain ⟨k1, k2, k3, k4, k5, k6⟩ := HT.out.pop HK.out ha4 hh4 hp4 hb4
      have HQ := Lib.hid (And.intro k1 (And.intro k2 (And.intro k3 (And.intro k4 (And.intro k5 k6)))))
      have hmf := fun i W => method_first i r W
      have HF := Lib.hid (fun W => first_any r W)
      clear ha4 hh4 hp4 hb4 k1 k2 k3 k4 k5 k6 HP
      unfold val agg at *
      go_wp2_with fail
      refine (HF.out w4).mono ?_
      rintro e w5 ⟨rfl, hb5⟩
      obtain ⟨k1, k2, k3, k4, k5, k6⟩ := HQ.out
      have hs5 := k4.below hb5
      have HK5 := Lib.hid (keeps_below k5 hb5 k5.size)
      have HA5 := Lib.hid (k1.below hb5)
      have HB5 := Lib.hid (Nat.le_trans k6 hb5.size)
      have HH5 := Lib.hid (And.intro k2 k3)
      have hmem : r ∈ runs f := by obtain ⟨hk, e⟩ := HRR.out; rw [e]; exact List.getElem_mem hk
      have hrf := runs_fit hmem
      have hu := use_any s (r.1 : Nat) n f w5 hs5 ⟨by omega, by omega⟩ HIN.out
      clear k1 k2 k3 k4 k5 k6 hs5 hb5 HQ hmf HF hmem hrf
      rcases Bool.eq_false_or_eq_true (may f (r.1 : Nat) n false) with hm | hm
      · rw [hm] at hu
        have HM := Lib.hid hm
        have HU := Lib.hid hu
        clear hm hu
        go_wp2_with fail
        refine HU.out.mono ?_
        rintro e w6 ⟨rfl, hs6, hk6⟩
        have HFIN : Hid (RetTake w s f n (.returned (.tuple #[.int .i64 (r.1 : Nat), .bool true])) w6) := by
          obtain ⟨hk, e⟩ := HRR.out
          have hf := find_hit hk HT.out.no (by rw [← e]; exact HM.out)
          rw [← e] at hf
          refine Lib.hid ⟨by unfold tookAt; rw [hf]; rfl, ?_, HK5.out.trans hk6⟩
          unfold taken
          rw [hf]
          unfold act at hs6
          rw [HM.out, if_pos rfl] at hs6
          exact hs6
        clear hs6 hk6 HU
        go_wp2
        go_ret2
        exact HFIN.out
      · rw [hm] at hu
        have HM := Lib.hid hm
        have HU := Lib.hid hu
        clear hm hu
        go_wp2_with fail
        refine HU.out.mono ?_
        rintro e w6 ⟨rfl, hs6, hk6⟩
        have HN : Hid (Taking w w6 s p base f n (k + 1) v4 L4) := by
          unfold act at hs6
          rw [HM.out, if_neg (by decide)] at hs6
          have hlow := HT.out.low
          refine Lib.hid ⟨at_keep HA5.out hk6 (fun e => ?_) (fun j hj e => ?_), HH5.out.1, HH5.out.2, ?_, HK.out, hs6, HK5.out.trans hk6, hlow, HT.out.old, Nat.le_trans HB5.out hk6.size⟩
          · have := HA5.out.low; omega
          · have := (World.ownsRow.lt HA5.out.own j hj).1; omega
          · intro q hq
            obtain ⟨hk, e⟩ := HRR.out
            rw [List.take_succ_eq_append_getElem hk, List.mem_append, List.mem_singleton, ← e] at hq
            rcases hq with hq | rfl
            · exact HT.out.no q hq
            · exact HM.out
        have HME : Hid (lenAt p w6 < lenAt p w3) := by
          rw [HLT.out]
          have h1 := HN.out.lenAt
          have h2 := HN.out.len
          have h3 := HLE.out
          have h4 := HK.out
          exact Lib.hid (by omega)
        clear hs6 hk6 HU
        go_wp2
        go_roundw
        case rel => exact ⟨k + 1, v4, L4, HN⟩
        case measure => exact HME.out
    · have hk0 : k = (runs f).length := by have := HT.out.k; omega
      have hl0 : L.length = 0 := by omega
      have HFIN : Hid (RetTake w s f n (.returned (.tuple #[.int .i64 0, .bool false])) wr) := by
        have hno := HT.out.no
        rw [hk0, List.take_length] at hno
        have hf := find_miss hno
        refine Lib.hid ⟨by unfold tookAt; rw [hf]; rfl, ?_, HT.out.kp⟩
        unfold taken
        rw [hf]
        exact HT.out.sp
      rw [hl0] at HL hm
      clear hk0 hk hlen HT c0 hl0
      go_wp2_with fail
      refine HL.out.mono ?_
      rintro e w3 ⟨rfl, rfl⟩
      go_wp2
      go_ret2
      exact HFIN.out
end Go.Proofs.Ytpljdjkmemojmaa.Space
