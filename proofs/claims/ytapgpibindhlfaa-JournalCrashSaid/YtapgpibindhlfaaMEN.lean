/- merged: EntA, EntB, EntC, EntD, EntE, EntF -/
import Derived.Test.YtapgpibindhlfaaChs
import Derived.Test.YtapgpibindhlfaaPack
import Derived.Test.YtapgpibindhlfaaFlow
import Derived.Maps.OwnSet
import Derived.Maps.OwnOps
import Derived.Test.YtapgpibindhlfaaEqual
import Derived.Test.YtapgpibindhlfaaMSE

/- package entry: what is wrong with a change, or with all -/
set_option maxRecDepth 100000
namespace Go.Proofs.Ytapgpibindhlfaa.Entry
open Go.RowKit EntM

theorem most_any (w : World) : Calls Try.prog 81 #[] w fun e w' => e = .returned (.int .i64 32) ∧ w = w' := by
  go_enter Try.func81, Try.ntmps81
  go_wp2
  go_ret
  exact ⟨rfl, rfl⟩
theorem bodiesOf_any (A : Option Addr) (b : List UInt8) (c : Nat) (w : World) (hb : b.length ≤ 1048576) : Calls Try.prog 80 #[.slice A b.length c] w fun e w' => e = .returned (.int .i64 (bodies b : Nat)) ∧ w = w' := by
  have hq : (((b.length : Int) + 58 - 1) / 58) = (bodies b : Nat) := by unfold bodies; omega
  have HQ := Lib.hid hq
  clear hq
  go_enter Try.func80, Try.ntmps80
  go_wp2
  go_ret
  exact ⟨ret_int HQ.out, rfl⟩
theorem elsewhere_any (a : Int) (B : Option Addr) (n c : Nat) (d : List UInt8) (w : World) : Calls Try.prog 77 #[.agg #[.int .i64 a, .slice B n c]] w fun e w' => e = .returned (.bool (elsewhere ⟨a, d⟩)) ∧ Below w.heap.size w w' := by
  have hb := balloc w (.cells #[.int .i64 a, .slice B n c] 50)
  have HB := Lib.hid hb
  clear hb
  have hq : elsewhere ⟨a, d⟩ = decide (a ≠ 0 ∧ (a < 34 ∨ 511 < a)) := rfl
  rw [hq]
  clear hq
  by_cases h0 : a = 0
  · subst h0
    go_enter Try.func77, Try.ntmps77
    go_wp2
    go_ret
    exact ⟨rfl, HB.out⟩
  · have q0 : (a != 0) = true := by rw [bne_iff_ne]; exact h0
    by_cases h1 : a < 34
    · rw [decide_eq_true (show a ≠ 0 ∧ (a < 34 ∨ 511 < a) from ⟨h0, .inl h1⟩)]
      clear h0
      go_enter Try.func77, Try.ntmps77
      go_wp2
      go_ret
      exact ⟨rfl, HB.out⟩
    · by_cases h2 : 511 < a
      · rw [decide_eq_true (show a ≠ 0 ∧ (a < 34 ∨ 511 < a) from ⟨h0, .inr h2⟩)]
        clear h0
        go_enter Try.func77, Try.ntmps77
        go_wp2
        go_ret
        exact ⟨by first | rfl | exact ret_bool (decide_eq_true h2), HB.out⟩
      · rw [decide_eq_false (show ¬ (a ≠ 0 ∧ (a < 34 ∨ 511 < a)) from by omega)]
        clear h0
        go_enter Try.func77, Try.ntmps77
        go_wp2
        go_ret
        exact ⟨by first | rfl | exact ret_bool (decide_eq_false h2), HB.out⟩
theorem torn_any (a : Int) (B : Option Addr) (c : Nat) (d : List UInt8) (w : World) : Calls Try.prog 79 #[.agg #[.int .i64 a, .slice B d.length c]] w fun e w' => e = .returned (.bool (torn ⟨a, d⟩)) ∧ Below w.heap.size w w' := by
  have hq : torn ⟨a, d⟩ = decide (d.length ≠ 0 ∧ d.length ≠ 64) := rfl
  rw [hq]
  clear hq
  obtain ⟨n, hn⟩ : ∃ n, n = d.length := ⟨_, rfl⟩
  rw [← hn]
  have hb := balloc w (.cells #[.int .i64 a, .slice B n c] 50)
  have HB := Lib.hid hb
  clear hb hn
  by_cases h0 : n = 0
  · subst h0
    go_enter Try.func79, Try.ntmps79
    go_wp2
    go_ret
    exact ⟨rfl, HB.out⟩
  · have q0 : ((n : Int) != 0) = true := by rw [bne_iff_ne]; omega
    by_cases h1 : n = 64
    · subst h1
      clear q0 h0
      go_enter Try.func79, Try.ntmps79
      go_wp2
      go_ret
      exact ⟨rfl, HB.out⟩
    · have q1 : ((n : Int) != 64) = true := by rw [bne_iff_ne]; omega
      rw [decide_eq_true (show n ≠ 0 ∧ n ≠ 64 from ⟨h0, h1⟩)]
      clear h0 h1
      go_enter Try.func79, Try.ntmps79
      go_wp2
      go_ret
      exact ⟨rfl, HB.out⟩
/-- the first change of which a function of the program says so -/
theorem index_elsewhere
    (A : Option Addr) (l : List Ch) (c : Nat) (w : World) (h : ChsAt w A l) (hl : l.length ≤ 1048576) :
    Calls Try.prog 89 #[.slice A l.length c, .func (.func 77) #[] #[]] w fun e w' => (∃ r : Int, e = .returned (.int .i64 r) ∧ decide (0 ≤ r) = l.any elsewhere) ∧ Below w.heap.size w w' := by
  have H := Lib.hid h
  have HF : Hid (∀ (x : Ch) B c W, Calls Try.prog 77 #[.agg #[.int .i64 x.at_, .slice B x.data.length c]] W fun e w' => e = .returned (.bool (elsewhere x)) ∧ Below W.heap.size W w') := Lib.hid (fun x B c W => elsewhere_any x.at_ B x.data.length c x.data W)
  clear h
  obtain ⟨n, hn⟩ : ∃ n, n = l.length := ⟨_, rfl⟩
  have HN := Lib.hid hn
  rw [← hn] at hl ⊢
  clear hn
  go_enter Try.func89, Try.ntmps89
  go_wp2
  go_loopw [8] (fun i wr => ∃ k : Nat, k ≤ n ∧ i = .int .i64 k ∧ Below w.heap.size w wr ∧ ∀ j, (hj : j < l.length) → j < k → elsewhere l[j] = false)
    (fun i _ => n - (intOf i).toNat)
  case atStart => exact ⟨0, Nat.zero_le _, rfl, Below.refl _ _, fun j _ h => by omega⟩
  case round =>
    obtain ⟨k, hk, rfl, hb, hall⟩ := hrel
    rename World => w1
    have HALL := Lib.hid hall
    have HB := Lib.hid hb
    clear hall
    by_cases hlt : k < n
    · have hk2 : k < l.length := by rw [← HN.out]; exact hlt
      obtain ⟨b, o, B, d, hA, hx⟩ := H.out.below hb k hk2
      subst hA
      have e0 := hx.c0; have e1 := hx.c1
      clear hx hb
      have C := Lib.hid (fun W => HF.out l[k] B d W)
      have HX : Hid (∀ q, elsewhere l[k] = q → elsewhere l[k] = q) := Lib.hid fun _ h => h
      obtain ⟨q, hq⟩ : ∃ q, q = elsewhere l[k] := ⟨_, rfl⟩
      rw [← hq] at C
      have HQ := Lib.hid hq
      clear hq HX
      generalize l[k].data.length = m at *
      generalize l[k].at_ = a at *
      cases q
      · go_wp2_with fail
        refine (C.out _).mono ?_
        rintro e w2 ⟨rfl, hb2⟩
        have HB2 := Lib.hid (bstep HB.out hb2)
        clear hb2
        go_wp2
        go_roundw
        case rel =>
          refine ⟨k + 1, by omega, by go_num, HB2.out, fun j hj hjk => ?_⟩
          by_cases e : j = k
          · subst e; exact HQ.out.symm
          · exact HALL.out j hj (by omega)
        case measure => simp [intOf] <;> omega
      · go_wp2_with fail
        refine (C.out _).mono ?_
        rintro e w2 ⟨rfl, hb2⟩
        have HB2 := Lib.hid (bstep HB.out hb2)
        clear hb2
        go_wp2
        go_ret
        have ha : l.any elsewhere = true := List.any_eq_true.2 ⟨l[k], List.getElem_mem hk2, HQ.out.symm⟩
        exact ⟨⟨k, rfl, by rw [ha]; simp⟩, HB2.out⟩
    · obtain rfl : k = n := by omega
      go_wp2
      go_ret
      have ha : l.any elsewhere = false := any_false.2 fun x hx => by
        obtain ⟨j, hj, rfl⟩ := List.mem_iff_getElem.1 hx
        exact HALL.out j hj (by rw [HN.out]; exact hj)
      exact ⟨⟨-1, rfl, by rw [ha]; rfl⟩, HB.out⟩
theorem contains_elsewhere
    (A : Option Addr) (l : List Ch) (c : Nat) (w : World) (h : ChsAt w A l) (hl : l.length ≤ 1048576) :
    Calls Try.prog 58 #[.slice A l.length c, .func (.func 77) #[] #[]] w fun e w' => e = .returned (.bool (l.any elsewhere)) ∧ Below w.heap.size w w' := by
  have hC := index_elsewhere A l c w h hl
  clear h
  generalize l.any elsewhere = al at *
  have HC := Lib.hid hC
  clear hC
  go_enter Try.func58, Try.ntmps58
  go_wp2_with fail
  refine HC.out.mono ?_
  rintro e w' ⟨⟨r, rfl, hr⟩, hb⟩
  have HB := Lib.hid hb
  clear hb
  rcases al with _ | _
  · have h0 : ¬ 0 ≤ r := of_decide_eq_false hr
    clear hr
    go_wp2
    go_ret
    exact ⟨by first | (simp; done) | (simp; omega), HB.out⟩
  · have h0 : 0 ≤ r := of_decide_eq_true hr
    clear hr
    go_wp2
    go_ret
    exact ⟨by first | (simp; done) | (simp; omega), HB.out⟩
/-- the first change of which a function of the program says so -/
theorem index_torn
    (A : Option Addr) (l : List Ch) (c : Nat) (w : World) (h : ChsAt w A l) (hl : l.length ≤ 1048576) :
    Calls Try.prog 89 #[.slice A l.length c, .func (.func 79) #[] #[]] w fun e w' => (∃ r : Int, e = .returned (.int .i64 r) ∧ decide (0 ≤ r) = l.any torn) ∧ Below w.heap.size w w' := by
  have H := Lib.hid h
  have HF : Hid (∀ (x : Ch) B c W, Calls Try.prog 79 #[.agg #[.int .i64 x.at_, .slice B x.data.length c]] W fun e w' => e = .returned (.bool (torn x)) ∧ Below W.heap.size W w') := Lib.hid (fun x B c W => torn_any x.at_ B c x.data W)
  clear h
  obtain ⟨n, hn⟩ : ∃ n, n = l.length := ⟨_, rfl⟩
  have HN := Lib.hid hn
  rw [← hn] at hl ⊢
  clear hn
  go_enter Try.func89, Try.ntmps89
  go_wp2
  go_loopw [8] (fun i wr => ∃ k : Nat, k ≤ n ∧ i = .int .i64 k ∧ Below w.heap.size w wr ∧ ∀ j, (hj : j < l.length) → j < k → torn l[j] = false)
    (fun i _ => n - (intOf i).toNat)
  case atStart => exact ⟨0, Nat.zero_le _, rfl, Below.refl _ _, fun j _ h => by omega⟩
  case round =>
    obtain ⟨k, hk, rfl, hb, hall⟩ := hrel
    rename World => w1
    have HALL := Lib.hid hall
    have HB := Lib.hid hb
    clear hall
    by_cases hlt : k < n
    · have hk2 : k < l.length := by rw [← HN.out]; exact hlt
      obtain ⟨b, o, B, d, hA, hx⟩ := H.out.below hb k hk2
      subst hA
      have e0 := hx.c0; have e1 := hx.c1
      clear hx hb
      have C := Lib.hid (fun W => HF.out l[k] B d W)
      have HX : Hid (∀ q, torn l[k] = q → torn l[k] = q) := Lib.hid fun _ h => h
      obtain ⟨q, hq⟩ : ∃ q, q = torn l[k] := ⟨_, rfl⟩
      rw [← hq] at C
      have HQ := Lib.hid hq
      clear hq HX
      generalize l[k].data.length = m at *
      generalize l[k].at_ = a at *
      cases q
      · go_wp2_with fail
        refine (C.out _).mono ?_
        rintro e w2 ⟨rfl, hb2⟩
        have HB2 := Lib.hid (bstep HB.out hb2)
        clear hb2
        go_wp2
        go_roundw
        case rel =>
          refine ⟨k + 1, by omega, by go_num, HB2.out, fun j hj hjk => ?_⟩
          by_cases e : j = k
          · subst e; exact HQ.out.symm
          · exact HALL.out j hj (by omega)
        case measure => simp [intOf] <;> omega
      · go_wp2_with fail
        refine (C.out _).mono ?_
        rintro e w2 ⟨rfl, hb2⟩
        have HB2 := Lib.hid (bstep HB.out hb2)
        clear hb2
        go_wp2
        go_ret
        have ha : l.any torn = true := List.any_eq_true.2 ⟨l[k], List.getElem_mem hk2, HQ.out.symm⟩
        exact ⟨⟨k, rfl, by rw [ha]; simp⟩, HB2.out⟩
    · obtain rfl : k = n := by omega
      go_wp2
      go_ret
      have ha : l.any torn = false := any_false.2 fun x hx => by
        obtain ⟨j, hj, rfl⟩ := List.mem_iff_getElem.1 hx
        exact HALL.out j hj (by rw [HN.out]; exact hj)
      exact ⟨⟨-1, rfl, by rw [ha]; rfl⟩, HB.out⟩
theorem contains_torn
    (A : Option Addr) (l : List Ch) (c : Nat) (w : World) (h : ChsAt w A l) (hl : l.length ≤ 1048576) :
    Calls Try.prog 58 #[.slice A l.length c, .func (.func 79) #[] #[]] w fun e w' => e = .returned (.bool (l.any torn)) ∧ Below w.heap.size w w' := by
  have hC := index_torn A l c w h hl
  clear h
  generalize l.any torn = al at *
  have HC := Lib.hid hC
  clear hC
  go_enter Try.func58, Try.ntmps58
  go_wp2_with fail
  refine HC.out.mono ?_
  rintro e w' ⟨⟨r, rfl, hr⟩, hb⟩
  have HB := Lib.hid hb
  clear hb
  rcases al with _ | _
  · have h0 : ¬ 0 ≤ r := of_decide_eq_false hr
    clear hr
    go_wp2
    go_ret
    exact ⟨by first | (simp; done) | (simp; omega), HB.out⟩
  · have h0 : 0 ≤ r := of_decide_eq_true hr
    clear hr
    go_wp2
    go_ret
    exact ⟨by first | (simp; done) | (simp; omega), HB.out⟩
end Go.Proofs.Ytapgpibindhlfaa.Entry

/- package entry: whether two are of one sector; what is written; what is wrong -/
set_option maxRecDepth 100000
namespace Go.Proofs.Ytapgpibindhlfaa.Entry
open Go.RowKit EntM Go.Maps

def keysOf (l : List Ch) : List Lit := l.map fun c => .int .i64 c.at_
def setI (l : List Ch) : DataW Unit := setOf (.agg []) (keysOf l)
theorem setI_snoc (l : List Ch) (c : Ch) : setI (l ++ [c]) = (setI l).put (.int .i64 c.at_) (.agg []) := by
  unfold setI keysOf
  rw [List.map_append]
  exact setOf_snoc _ _ _
theorem at_wf {z : Int} (h : AtIn z) : (Lit.int .i64 z).wf = true := by
  unfold AtIn at h
  simp [Lit.wf, IntKind.min, IntKind.max, IntKind.signed, IntKind.bits]
  omega
theorem has_setI (l : List Ch) (a : Int) : has (setI l) (.int .i64 a) = l.any fun c => decide (c.at_ = a) := by
  unfold setI
  rw [has_setOf _ _ _ (fun x hx => by
    unfold keysOf at hx
    rw [List.mem_map] at hx
    obtain ⟨c, _, rfl⟩ := hx
    trivial)]
  unfold keysOf
  rw [List.any_map]
  congr 1
  funext c
  simp [Lit.sameKey]
theorem twice_yes {l : List Ch} {k : Nat} (h : k < l.length) (ha : ((l.take k).any fun c => decide (c.at_ = l[k].at_)) = true) : twiceAt l = true := by
  unfold twiceAt
  rw [decide_eq_true_eq]
  intro hn
  obtain ⟨c, hc, hd⟩ := List.any_eq_true.1 ha
  have hd := of_decide_eq_true hd
  rw [List.mem_take_iff_getElem] at hc
  obtain ⟨j, hj, rfl⟩ := hc
  rw [List.nodup_iff_pairwise_ne, List.pairwise_iff_getElem] at hn
  exact hn j k (by simp; omega) (by simpa using h) (by omega) (by simpa using hd)
theorem twice_no {l : List Ch} (h : ∀ k, (hk : k < l.length) → ((l.take k).any fun c => decide (c.at_ = l[k].at_)) = false) : twiceAt l = false := by
  unfold twiceAt
  rw [decide_eq_false_iff_not, Classical.not_not, List.nodup_iff_pairwise_ne, List.pairwise_iff_getElem]
  intro i j hi hj hij
  simp only [List.length_map] at hi hj
  have h1 := h j hj
  rw [List.any_eq_false] at h1
  have h2 := h1 l[i] (List.mem_take_iff_getElem.2 ⟨i, by omega, rfl⟩)
  simpa using h2
theorem anyTwice_any (A : Option Addr) (l : List Ch) (c : Nat) (w : World) (h : ChsAt w A l) (hl : l.length ≤ 1048576) :
    Calls Try.prog 78 #[.slice A l.length c] w fun e w' => e = .returned (.bool (twiceAt l)) ∧ Below w.heap.size w w' := by
  have H := Lib.hid h
  clear h
  obtain ⟨n, hn⟩ : ∃ n, n = l.length := ⟨_, rfl⟩
  have HN := Lib.hid hn
  rw [← hn] at hl ⊢
  clear hn
  have hmm := @run_makeMap Try.prog
  have hz : ∀ w, (zeroValue 127).run Try.prog w = .ok (.agg #[]) w := fun w => by kernel_rfl
  go_enter Try.func78, Try.ntmps78
  go_wp2
  have hm0 := World.ownsMap_made w Try.prog 3 (unitElem (H := Unit))
  have hb0 := balloc w (.map #[] 0)
  generalize w.alloc (.map #[] 0) = w0 at *
  obtain ⟨b, hb⟩ : ∃ b, b = w.heap.size := ⟨_, rfl⟩
  rw [← hb] at hm0 ⊢
  have HB := Lib.hid hb
  have HB0 := Lib.hid hb0
  have HM := Lib.hid hm0
  clear hb hb0 hmm hm0
  go_loopw [11] (fun i wr => ∃ k : Nat, k ≤ n ∧ i = .int .i64 k ∧ Below w.heap.size w wr ∧ wr.ownsMap Try.prog 3 (unitElem (H := Unit)) b k (setI (l.take k)) ∧ ∀ j, (hj : j < l.length) → j < k → ((l.take j).any fun c => decide (c.at_ = l[j].at_)) = false)
    (fun i _ => n - (intOf i).toNat)
  case atStart => exact ⟨0, Nat.zero_le _, rfl, HB0.out, HM.out, fun j _ h => by omega⟩
  case round =>
    obtain ⟨k, hk, rfl, hbw, hown, hall⟩ := hrel
    rename World => w1
    have HALL := Lib.hid hall
    have HBW := Lib.hid hbw
    clear hall
    by_cases hlt : k < n
    · have hk2 : k < l.length := by rw [← HN.out]; exact hlt
      obtain ⟨bb, o, B, d, hA, hx⟩ := H.out.below hbw k hk2
      subst hA
      have e0 := hx.c0; have e1 := hx.c1
      have hwf := at_wf hx.i0
      have hkey := keyOf_int_mk (P := Try.prog) (k := 3) Try.underlying3 hwf
      have hh := has_setI (l.take k) l[k].at_
      have hsn : setI (l.take (k + 1)) = (setI (l.take k)).put (.int .i64 l[k].at_) (.agg []) := by rw [List.take_succ_eq_append_getElem hk2, setI_snoc]
      have HS := Lib.hid hsn
      have hy : ((l.take k).any fun c => decide (c.at_ = l[k].at_)) = true → twiceAt l = true := fun ha => twice_yes hk2 ha
      have hno : ((l.take k).any fun c => decide (c.at_ = l[k].at_)) = false → ∀ j, (hj : j < l.length) → j < k + 1 → ((l.take j).any fun c => decide (c.at_ = l[j].at_)) = false := fun ha j hj hjk => by
        by_cases e : j = k
        · subst e; exact ha
        · exact HALL.out j hj (by omega)
      have HY := Lib.hid hy; have HNO := Lib.hid hno
      clear hx hbw hwf hsn hy hno
      generalize ((l.take k).any fun c => decide (c.at_ = l[k].at_)) = q at *
      generalize l[k].data.length = m at *
      generalize l[k].at_ = a at *
      cases q
      · go_wp2_with (first | (at_lookup; refine wpList_lookup_own_unit _ rfl _ _ 126 rfl 3 127 (int_keyed Try.underlying3) Try.underlying126 (hz _) b k _ rfl (hown.alloc _) _ _ rfl hkey ?_; rw [hh]) | (at_mapUpdate; refine wpList_mapUpdate_own _ rfl _ _ _ 126 rfl 3 127 (int_keyed Try.underlying3) Try.underlying126 unitElem b k _ rfl ((hown.alloc _).alloc _) (by unfold maxLen; omega) _ _ _ rfl rfl hkey _ [] unitElem_mk ?_; intro w3 hown3 hgrow3))
        have hb3 : Below w.heap.size w w3 := (bstep (bstep HBW.out (balloc w1 _)) (balloc _ _)).grown hgrow3 (by have := HBW.out.size; simp; omega) (fun j e => by injection e with e; have := HB.out; omega)
        have HB3 := Lib.hid hb3
        rw [← HS.out] at hown3
        have HO3 := Lib.hid hown3
        clear hown3 hgrow3 hb3 hown
        go_roundw
        case rel => exact ⟨k + 1, by omega, by go_num, HB3.out, HO3.out, HNO.out rfl⟩
        case measure => simp [intOf] <;> omega
      · go_wp2_with (first | (at_lookup; refine wpList_lookup_own_unit _ rfl _ _ 126 rfl 3 127 (int_keyed Try.underlying3) Try.underlying126 (hz _) b k _ rfl (hown.alloc _) _ _ rfl hkey ?_; rw [hh]))
        go_ret
        exact ⟨ret_bool (HY.out trivial).symm, bstep (bstep HBW.out (balloc w1 _)) (balloc _ _)⟩
    · obtain rfl : k = n := by omega
      clear hown
      go_wp2
      go_ret
      exact ⟨ret_bool (twice_no fun j hj => HALL.out j hj (by rw [HN.out]; exact hj)).symm, HBW.out⟩

/-- between a Writer's calls: what it holds, and that nothing else was written -/
structure Wrs (w0 w : World) (g : Nat) (v : Value) (l : List UInt8) : Prop where
  at_ : Pack.WAt w g g v l
  below : Below w0.heap.size w0 w
  first : w0.heap.size ≤ g
theorem Wrs.lt {w0 w : World} {g : Nat} {v : Value} {l : List UInt8} (h : Wrs w0 w g v l) : g ≤ w.heap.size := by have := h.at_.lt; omega
theorem Wrs.next {w0 w w' : World} {g : Nat} {v : Value} {l m : List UInt8} {e : Ending} (h : Wrs w0 w g v l) (k : Pack.WPost w g g v m e w') : e = .returned (.tuple #[]) ∧ ∃ v', Wrs w0 w' g v' m := by
  obtain ⟨he, v', h1, q1, _⟩ := k
  have hf := h.first
  exact ⟨he, v', h1, Pack.below_w h.at_ h.below q1 (by omega) (by omega) h.below.size, hf⟩
theorem Wrs.step {w0 w w' : World} {g : Nat} {v : Value} {l : List UInt8} (h : Wrs w0 w g v l) (hb : Below w.heap.size w w') : Wrs w0 w' g v l :=
  ⟨h.at_.below hb, bstep h.below hb, h.first⟩
theorem Wrs.start {w0 w : World} (hb : Below w0.heap.size w0 w) (t : TypeId) : Wrs w0 (w.alloc (.cells #[.slice none 0 0] t)) w.heap.size (.slice none 0 0) [] :=
  ⟨Pack.WAt.start w t, bstep hb (balloc _ _), hb.size⟩
/-- what of a caller's memory a Writer's call leaves -/
theorem Wrs.chs {w0 w : World} {g : Nat} {v : Value} {m : List UInt8} (h : Wrs w0 w g v m) {A : Option Addr} {l : List Ch} (hA : ChsAt w0 A l) : ChsAt w A l := hA.below h.below
/-- and a change's own block beside it -/
structure WrsB (w0 w : World) (g p : Nat) (v : Value) (l : List UInt8) (a : Int) (B : Option Addr) (n d : Nat) : Prop where
  wr : Wrs w0 w g v l
  np : p ≠ g
  nv : v.ownBlock ≠ some p
  c0 : w.cell? ⟨p, 0, none⟩ = some (.int .i64 a)
  c1 : w.cell? ⟨p, 1, none⟩ = some (.slice B n d)
theorem WrsB.next {w0 w w' : World} {g p : Nat} {v : Value} {l m : List UInt8} {a : Int} {B : Option Addr} {n d : Nat} {e : Ending} (h : WrsB w0 w g p v l a B n d) (k : Pack.WPost w g g v m e w') : e = .returned (.tuple #[]) ∧ ∃ v', WrsB w0 w' g p v' m a B n d := by
  obtain ⟨he, v', h1⟩ := h.wr.next k
  obtain ⟨_, v2, k1, q1, k3⟩ := k
  have hn : ¬ (p = g ∨ v.ownBlock = some p) := fun e => by
    rcases e with e | e
    · exact h.np e
    · exact h.nv e
  refine ⟨he, v2, ⟨k1, Pack.below_w h.wr.at_ h.wr.below q1 (by have := h.wr.first; omega) (by have := h.wr.first; omega) h.wr.below.size, h.wr.first⟩, h.np, ?_, q1.cell h.c0 hn, q1.cell h.c1 hn⟩
  rcases k3 with k3 | ⟨j, k3, hj⟩
  · rw [k3]; exact h.nv
  · rw [k3]; intro e; injection e with e; have := cell_lt h.c0; simp only at this; omega
theorem WrsB.start {w0 w : World} {g : Nat} {v : Value} {l : List UInt8} (h : Wrs w0 w g v l) (a : Int) (B : Option Addr) (n d : Nat) (t : TypeId) : WrsB w0 (w.alloc (.cells #[.int .i64 a, .slice B n d] t)) g w.heap.size v l a B n d :=
  ⟨h.step (balloc _ _), by have := h.at_.lt; omega, fun e => by have := (h.at_.own.lt _ e).2; omega, by simp, by simp⟩
theorem written_any (A : Option Addr) (l : List Ch) (c : Nat) (w : World) (h : ChsAt w A l) (hl : l.length ≤ 15000) (hd : ∀ x ∈ l, okData x.data) :
    Calls Try.prog 53 #[.slice A l.length c] w (RetNew w (text l)) := by
  have H := Lib.hid h
  have HM : Hid (∀ k, (textTo l k).length ≤ 1048576) := Lib.hid fun k => by have := textTo_most l hd k; omega
  have HI := Lib.hid (ChsAt.in_ h)
  have HD := Lib.hid hd
  clear h hd
  obtain ⟨n, hn⟩ : ∃ n, n = l.length := ⟨_, rfl⟩
  have HN := Lib.hid hn
  rw [← hn] at hl ⊢
  have hz : textTo l 0 = PackM.numB 2 (n : Int) := by rw [hn]; exact textTo_zero l
  have ha : textTo l n = text l := by rw [hn]; exact textTo_all l
  have HZ := Lib.hid hz; have HA := Lib.hid ha
  clear hn hz ha
  go_enter Try.func53, Try.ntmps53
  go_wp2_with fail
  have HS := Lib.hid (Wrs.start (Below.refl _ w) 114)
  generalize w.alloc (.cells #[.slice none 0 0] 114) = w1 at *
  obtain ⟨g, hg⟩ : ∃ g, g = w.heap.size := ⟨_, rfl⟩
  rw [← hg] at HS ⊢
  clear hg
  have C1 := Lib.hid (Pack.wnum_any g g (.slice none 0 0) [] 2 n w1 HS.out.at_ (by simp) HS.out.lt (by omega))
  rw [List.nil_append, ← HZ.out] at C1
  refine C1.out.mono ?_
  rintro e w2 k
  obtain ⟨rfl, v2, h2⟩ := HS.out.next k
  have H2 := Lib.hid h2
  clear h2 k C1 HS
  go_wp2
  go_loopw [11] (fun i wr => ∃ k : Nat, ∃ v, k ≤ n ∧ i = .int .i64 k ∧ Wrs w wr g v (textTo l k))
    (fun i _ => n - (intOf i).toNat)
  case atStart => exact ⟨0, v2, Nat.zero_le _, rfl, H2.out⟩
  case round =>
    obtain ⟨k, v, hk, rfl, hw⟩ := hrel
    rename World => w3
    have HW := Lib.hid hw
    by_cases hlt : k < n
    · have hk2 : k < l.length := by rw [← HN.out]; exact hlt
      obtain ⟨bb, o, B, d, hAe, hx0⟩ := H.out k hk2
      subst hAe
      have hx := hx0.below hw.below
      have e0 := hx.c0; have e1 := hx.c1
      have HB := Lib.hid hx0.bytes
      have hi0 := hx.i0
      unfold AtIn at hi0
      have HSU := Lib.hid (textTo_succ l k hk2)
      have HDK := Lib.hid (HD.out l[k] (List.getElem_mem hk2))
      have HMK := Lib.hid (HM.out k); have HMS := Lib.hid (HM.out (k + 1))
      clear hx hx0 hw
      obtain ⟨x, hxx⟩ : ∃ x, x = l[k] := ⟨_, rfl⟩
      rw [← hxx] at e0 e1 hi0 HB HSU HDK
      clear hxx
      obtain ⟨a, dd⟩ := x
      simp only at e0 e1 hi0 HB HDK
      have HGO : Hid (∀ wr v', Wrs w wr g v' (textTo l (k + 1)) → ∃ k2 : Nat, ∃ v, k2 ≤ n ∧ Value.int .i64 ((k : Int) + 1) = .int .i64 k2 ∧ Wrs w wr g v (textTo l k2)) := Lib.hid fun wr v' h => ⟨k + 1, v', by omega, by go_num, h⟩
      generalize textTo l (k + 1) = T2 at *
      generalize textTo l k = T at *
      have HW3 := Lib.hid (WrsB.start HW.out a B dd.length d 50)
      go_wp2_with fail
      obtain ⟨p, hp⟩ : ∃ p, p = w3.heap.size := ⟨_, rfl⟩
      rw [← hp] at HW3 ⊢
      generalize w3.alloc (.cells #[.int .i64 a, .slice B dd.length d] 50) = w4 at *
      clear hp HW e0 e1
      have C1 := Lib.hid (Pack.wnum_any g g v T 2 a w4 HW3.out.wr.at_ HMK.out HW3.out.wr.lt hi0)
      refine C1.out.mono ?_
      rintro e w5 k1
      obtain ⟨rfl, v5, h5⟩ := HW3.out.next k1
      have H5 := Lib.hid h5
      have c1 := h5.c1
      have HL5 : Hid ((T ++ PackM.numB 2 a).length ≤ 1048576) := Lib.hid (by
        have h1 := HMS.out; rw [HSU.out, List.length_append] at h1
        have h2 := item_len (⟨a, dd⟩ : Ch)
        rw [List.length_append, PackM.numB_len, show PackM.wid 2 = 2 from rfl]; omega)
      clear h5 k1 C1 HW3 hi0
      by_cases hdd : dd = []
      · subst hdd
        have ht : T2 = T ++ PackM.numB 2 a ++ PackM.numB 1 0 := by rw [HSU.out, item_bare rfl, numB1_zero, List.append_assoc]
        have HT := Lib.hid ht
        clear ht HSU
        generalize T ++ PackM.numB 2 a = T1 at *
        have C2 := Lib.hid (Pack.wnum_any g g v5 T1 1 0 w5 H5.out.wr.at_ HL5.out H5.out.wr.lt (by omega))
        rw [← HT.out] at C2
        go_wp2_with fail
        refine C2.out.mono ?_
        rintro e w6 k1
        obtain ⟨rfl, v6, h6⟩ := H5.out.next k1
        have HR := Lib.hid (HGO.out w6 v6 h6.wr)
        clear h6 k1 C2 H5 HGO c1
        go_wp2
        go_roundw
        case rel => exact HR.out
        case measure => simp [intOf] <;> omega
      · have hq : ((dd.length : Int) == 0) = false := by
          have : dd.length ≠ 0 := fun e => hdd (List.eq_nil_of_length_eq_zero e)
          simp; omega
        have ht : T2 = T ++ PackM.numB 2 a ++ PackM.numB 1 1 ++ dd := by rw [HSU.out, item_given (c := ⟨a, dd⟩) hdd, numB1_one]; simp
        have HT := Lib.hid ht
        have HL6 : Hid ((T ++ PackM.numB 2 a ++ PackM.numB 1 1).length ≤ 1048576 ∧ dd.length ≤ 1048576) := Lib.hid (by
          have h1 := HMS.out; rw [ht, List.length_append] at h1; omega)
        clear ht HSU hdd
        generalize T ++ PackM.numB 2 a = T1 at *
        have C2 := Lib.hid (Pack.wnum_any g g v5 T1 1 1 w5 H5.out.wr.at_ HL5.out H5.out.wr.lt (by omega))
        generalize T1 ++ PackM.numB 1 1 = T3 at *
        go_wp2_with fail
        refine C2.out.mono ?_
        rintro e w6 k1
        obtain ⟨rfl, v6, h6⟩ := H5.out.next k1
        have H6 := Lib.hid h6
        have C3 := Lib.hid (Pack.wraw_any g g v6 T3 B dd d w6 h6.wr.at_ HL6.out.1 h6.wr.lt (HB.out.below h6.wr.below) HL6.out.2)
        clear c1
        have c1 := h6.c1
        rw [← HT.out] at C3
        clear h6 k1 C2 H5 hq
        go_wp2_with fail
        refine C3.out.mono ?_
        rintro e w7 k1
        obtain ⟨rfl, v7, h7⟩ := H6.out.next k1
        have HR := Lib.hid (HGO.out w7 v7 h7.wr)
        clear h7 k1 C3 H6 HGO c1
        go_wp2
        go_roundw
        case rel => exact HR.out
        case measure => simp [intOf] <;> omega
    · obtain rfl : k = n := by omega
      clear hw
      rw [HA.out] at HW
      have C5 := Lib.hid (Pack.wbytes_any g g v (text l) w3 HW.out.at_ (by have := HM.out k; rw [HA.out] at this; omega))
      go_wp2_with fail
      refine C5.out.mono ?_
      rintro e w6 ⟨X, d, rfl, g1, g2, g3, hb, hn⟩
      have G3 := Lib.hid g3; have HNN := Lib.hid hn
      clear g3 hn
      go_wp2
      go_ret
      exact ⟨X, d, rfl, g1, g2, G3.out, bstep HW.out.below hb, HNN.out.mono HW.out.below.size⟩
end Go.Proofs.Ytapgpibindhlfaa.Entry

/- package entry: Check, head, what bodies say, whether sectors are the first of some -/
set_option maxRecDepth 100000
namespace Go.Proofs.Ytapgpibindhlfaa.Entry
open Go.RowKit EntM

theorem check_any (A : Option Addr) (l : List Ch) (c : Nat) (w : World) (h : ChsAt w A l) (hl : l.length ≤ 15000) :
    Calls Try.prog 52 #[.slice A l.length c] w fun e w' => e = .returned (.int .i64 (checkV l)) ∧ Below w.heap.size w w' := by
  have C1 := Lib.hid (fun W h => contains_elsewhere A l c W h (by omega))
  have C2 := Lib.hid (fun W h => anyTwice_any A l c W h (by omega))
  have C3 := Lib.hid (fun W h => contains_torn A l c W h (by omega))
  have C4 := Lib.hid (fun W h hd => written_any A l c W h hl hd)
  have HD : Hid (l.any torn = false → ∀ x ∈ l, okData x.data) := Lib.hid fun h x hx => (torn_iff x).1 (any_false.1 h x hx)
  have HM : Hid (l.any torn = false → (text l).length ≤ 1048576) := Lib.hid fun h => by have := text_most l (HD.out h); omega
  have HV : Hid (checkV l = if l.any elsewhere then 2 else if twiceAt l then 5 else if l.any torn then 3 else if 32 < bodies (text l) then 11 else 0) := Lib.hid rfl
  have C5 := Lib.hid (fun X d W h => bodiesOf_any X (text l) d W h)
  have H := Lib.hid h
  clear h
  obtain ⟨q1, hq1⟩ : ∃ q, q = l.any elsewhere := ⟨_, rfl⟩
  obtain ⟨q2, hq2⟩ : ∃ q, q = twiceAt l := ⟨_, rfl⟩
  obtain ⟨q3, hq3⟩ : ∃ q, q = l.any torn := ⟨_, rfl⟩
  rw [← hq1] at C1 HV; rw [← hq2] at C2 HV; rw [← hq3] at C3 HD HM HV
  clear hq1 hq2 hq3
  generalize checkV l = r at *
  generalize text l = T at *
  cases q1
  · cases q2
    · cases q3
      · have hr := HV.out
        simp only [Bool.false_eq_true, if_false] at hr
        have HR := Lib.hid hr
        have HT := Lib.hid (HM.out rfl)
        have C6 := Lib.hid (fun W h => C4.out W h (HD.out rfl))
        clear hr HV HM C4 HD
        go_enter Try.func52, Try.ntmps52
        go_wp2_with fail
        refine (C1.out w H.out).mono ?_
        rintro e w1 ⟨rfl, hb1⟩
        have HB1 := Lib.hid hb1
        clear hb1 C1
        go_wp2_with fail
        refine (C2.out w1 (H.out.below HB1.out)).mono ?_
        rintro e w2 ⟨rfl, hb2⟩
        have HB2 := Lib.hid (bstep HB1.out hb2)
        clear hb2 C2 HB1
        go_wp2_with fail
        refine (C3.out w2 (H.out.below HB2.out)).mono ?_
        rintro e w3 ⟨rfl, hb3⟩
        have HB3 := Lib.hid (bstep HB2.out hb3)
        clear hb3 C3 HB2
        go_wp2_with fail
        refine (C6.out w3 (H.out.below HB3.out)).mono ?_
        rintro e w4 ⟨X, d, rfl, -, -, -, hb4, -⟩
        have HB4 := Lib.hid (bstep HB3.out hb4)
        clear hb4 C6 HB3
        go_wp2_with fail
        refine (C5.out X d w4 HT.out).mono ?_
        rintro e w5 ⟨rfl, rfl⟩
        go_wp2_with fail
        refine (most_any w4).mono ?_
        rintro e w5 ⟨rfl, rfl⟩
        by_cases h32 : 32 < bodies T
        · have hr := HR.out
          rw [if_pos h32] at hr
          subst hr
          have hz : (32 : Int) < (bodies T : Nat) := by omega
          clear h32 HR C5
          go_wp2
          go_ret
          exact ⟨rfl, HB4.out⟩
        · have hr := HR.out
          rw [if_neg h32] at hr
          subst hr
          have hz : ¬ (32 : Int) < (bodies T : Nat) := by omega
          clear h32 HR C5
          go_wp2
          go_ret
          exact ⟨rfl, HB4.out⟩
      · have hr : r = 3 := HV.out
        subst hr
        clear HV HM HD C4 C5
        go_enter Try.func52, Try.ntmps52
        go_wp2_with fail
        refine (C1.out w H.out).mono ?_
        rintro e w1 ⟨rfl, hb1⟩
        have HB1 := Lib.hid hb1
        clear hb1 C1
        go_wp2_with fail
        refine (C2.out w1 (H.out.below HB1.out)).mono ?_
        rintro e w2 ⟨rfl, hb2⟩
        have HB2 := Lib.hid (bstep HB1.out hb2)
        clear hb2 C2 HB1
        go_wp2_with fail
        refine (C3.out w2 (H.out.below HB2.out)).mono ?_
        rintro e w3 ⟨rfl, hb3⟩
        have HB3 := Lib.hid (bstep HB2.out hb3)
        clear hb3 C3 HB2
        go_wp2
        go_ret
        exact ⟨rfl, HB3.out⟩
    · have hr : r = 5 := HV.out
      subst hr
      clear HV HM HD C3 C4 C5
      go_enter Try.func52, Try.ntmps52
      go_wp2_with fail
      refine (C1.out w H.out).mono ?_
      rintro e w1 ⟨rfl, hb1⟩
      have HB1 := Lib.hid hb1
      clear hb1 C1
      go_wp2_with fail
      refine (C2.out w1 (H.out.below HB1.out)).mono ?_
      rintro e w2 ⟨rfl, hb2⟩
      have HB2 := Lib.hid (bstep HB1.out hb2)
      clear hb2 C2 HB1
      go_wp2
      go_ret
      exact ⟨rfl, HB2.out⟩
  · have hr : r = 2 := HV.out
    subst hr
    clear HV HM HD C2 C3 C4 C5
    go_enter Try.func52, Try.ntmps52
    go_wp2_with fail
    refine (C1.out w H.out).mono ?_
    rintro e w1 ⟨rfl, hb1⟩
    have HB1 := Lib.hid hb1
    clear hb1 C1
    go_wp2
    go_ret
    exact ⟨rfl, HB1.out⟩

/-- the head of a text -/
theorem head_is (b : List UInt8) (hb : bodies b ≤ 255) : PackM.numB 1 106 ++ PackM.numB 1 (bodies b : Nat) ++ PackM.numB 2 (b.length : Nat) ++ PackM.numB 4 (CrcM.sum b : Nat) = head_ b := by
  have h1 : PackM.numB 1 106 = [106] := by decide
  have h2 : PackM.numB 1 (bodies b : Nat) = [UInt8.ofNat (bodies b)] := by
    unfold PackM.numB
    rw [show PackM.wid 1 = 1 from rfl, Int.toNat_natCast]
    unfold PackM.be
    simp [PackM.be]
    rw [Nat.mod_eq_of_lt (by omega)]
  rw [h1, h2]
  unfold head_ PackM.numB
  rw [show PackM.wid 2 = 2 from rfl, show PackM.wid 4 = 4 from rfl, Int.toNat_natCast, Int.toNat_natCast]
  simp
theorem head_any (t : Nat) (A : Option Addr) (b : List UInt8) (c : Nat) (w : World) (ht : Crc.Tab w t) (h : BytesAt w A b) (hc : b.length ≤ c) (hc2 : c ≤ maxLen) (hb : bodies b ≤ 255) :
    Calls Try.prog 55 #[.pointer (some ⟨t, 0, none⟩), .slice A b.length c] w (RetNew w (head_ b)) := by
  have hbl : b.length ≤ 14790 := by unfold bodies at hb; omega
  have HH := Lib.hid (head_is b hb)
  have HL := Lib.hid (head_len b)
  have CB := Lib.hid (fun W => bodiesOf_any A b c W (by omega))
  have CS := Lib.hid (fun X W (hT : Crc.Tab W t) h => Crc.sum_any t X [b] 1 W hT h (by simp) (fun i hi => by simp at hi; subst hi; simp; omega))
  have HLT := Lib.hid (CrcM.sum_lt b)
  rw [show [b].flatten = b from by simp] at CS
  have H := Lib.hid h; have HT := Lib.hid ht
  have HR : Hid (∀ W, BytesAt W A b → RowsAt (W.alloc (.cells #[.slice A b.length c] 23)) (some ⟨W.heap.size, 0, none⟩) [b]) := Lib.hid fun W hW => RowsAt.lit1 hW hc hc2
  clear h ht
  generalize hsm : CrcM.sum b = S at *
  clear hsm
  generalize head_ b = hd at *
  obtain ⟨n, hn⟩ : ∃ n, n = b.length := ⟨_, rfl⟩
  rw [← hn] at HH HR CB hbl ⊢
  have HN := Lib.hid hn
  clear hn
  generalize bodies b = m at *
  go_enter Try.func55, Try.ntmps55
  go_wp2_with fail
  have HS := Lib.hid (Wrs.start (Below.refl _ w) 114)
  generalize w.alloc (.cells #[.slice none 0 0] 114) = w1 at *
  obtain ⟨g, hg⟩ : ∃ g, g = w.heap.size := ⟨_, rfl⟩
  rw [← hg] at HS ⊢
  clear hg
  have L1 : (PackM.numB 1 106).length = 1 := PackM.numB_len _ _
  have L2 : (PackM.numB 1 106 ++ PackM.numB 1 (m : Nat)).length = 2 := by rw [List.length_append, PackM.numB_len, PackM.numB_len]; rfl
  have L3 : (PackM.numB 1 106 ++ PackM.numB 1 (m : Nat) ++ PackM.numB 2 (n : Nat)).length = 4 := by rw [List.length_append, L2, PackM.numB_len]; rfl
  have C1 := Lib.hid (fun W v h => Pack.wnum_any g g v [] 1 106 W h (by simp))
  have C2 := Lib.hid (fun W v h => Pack.wnum_any g g v (PackM.numB 1 106) 1 (m : Nat) W h (by omega))
  have C3 := Lib.hid (fun W v h => Pack.wnum_any g g v (PackM.numB 1 106 ++ PackM.numB 1 (m : Nat)) 2 (n : Nat) W h (by omega))
  have C4 := Lib.hid (fun W v h => Pack.wnum_any g g v (PackM.numB 1 106 ++ PackM.numB 1 (m : Nat) ++ PackM.numB 2 (n : Nat)) 4 (S : Nat) W h (by omega))
  have C5 := Lib.hid (fun W v h => Pack.wbytes_any g g v hd W h (by have := HL.out; omega))
  rw [List.nil_append] at C1
  rw [HH.out] at C4
  clear L1 L2 L3 HH
  generalize PackM.numB 1 106 ++ PackM.numB 1 (m : Nat) ++ PackM.numB 2 (n : Nat) = T3 at *
  generalize PackM.numB 1 106 ++ PackM.numB 1 (m : Nat) = T2 at *
  generalize PackM.numB 1 106 = T1 at *
  refine (C1.out w1 _ HS.out.at_ HS.out.lt (by omega)).mono ?_
  rintro e w2 k
  obtain ⟨rfl, v2, h2⟩ := HS.out.next k
  have H2 := Lib.hid h2
  clear h2 k C1 HS
  go_wp2_with fail
  refine (CB.out w2).mono ?_
  rintro e w3 ⟨rfl, rfl⟩
  go_wp2_with fail
  refine (C2.out w2 _ H2.out.at_ H2.out.lt (by omega)).mono ?_
  rintro e w3 k
  obtain ⟨rfl, v3, h3⟩ := H2.out.next k
  have H3 := Lib.hid h3
  clear h3 k C2 H2 CB
  go_wp2_with fail
  refine (C3.out w3 _ H3.out.at_ H3.out.lt (by omega)).mono ?_
  rintro e w4 k
  obtain ⟨rfl, v4, h4⟩ := H3.out.next k
  have H4 := Lib.hid h4
  clear h4 k C3 H3
  go_wp2_with fail
  refine (CS.out _ _ (HT.out.below (bstep H4.out.below (balloc _ _))) (HR.out w4 (H.out.below H4.out.below))).mono ?_
  rintro e w5 ⟨rfl, hb5⟩
  have H5 := Lib.hid (H4.out.step (bstep (balloc w4 (.cells #[.slice A n c] 23)) hb5))
  have hsl := HLT.out
  have hw : IntKind.i64.wrap (S : Int) = S := IntWalk.i64_in _ (by omega)
  clear hb5 H4 CS HR
  go_wp2_with fail
  refine (C4.out w5 _ H5.out.at_ H5.out.lt (by omega)).mono ?_
  rintro e w6 k
  obtain ⟨rfl, v6, h6⟩ := H5.out.next k
  have H6 := Lib.hid h6
  clear h6 k C4 H5
  go_wp2_with fail
  refine (C5.out w6 _ H6.out.at_).mono ?_
  rintro e w7 ⟨X, d, rfl, g1, g2, g3, hb, hn⟩
  have G3 := Lib.hid g3; have HNN := Lib.hid hn
  clear g3 hn
  go_wp2
  go_ret
  exact ⟨X, d, rfl, g1, g2, G3.out, bstep H6.out.below hb, HNN.out.mono H6.out.below.size⟩
end Go.Proofs.Ytapgpibindhlfaa.Entry

/- package entry: the text that sectors' bodies have; what a text says; whether sectors are the first of some -/
set_option maxRecDepth 100000
namespace Go.Proofs.Ytapgpibindhlfaa.Entry
open Go.RowKit EntM SupM

theorem rows_tail {w : World} {b o : Nat} {s : List UInt8} {rest : List (List UInt8)} (h : RowsAt w (some ⟨b, o, none⟩) (s :: rest)) : RowsAt w (some ⟨b, o + 1, none⟩) rest := fun i hi => by
  obtain ⟨b2, o2, v, hA, hc, hs⟩ := h (i + 1) (by simp; omega)
  injection hA with hA; injection hA with h1 h2; subst h1; subst h2
  exact ⟨b, o + 1, v, rfl, by rw [show o + 1 + i = o + (i + 1) from by omega]; exact hc, by simpa using hs⟩
/-- the pieces of the first k bodies -/
def flatTo (rest : List (List UInt8)) (k : Nat) : List UInt8 := ((rest.take k).map piece_).flatten
theorem flatTo_succ (rest : List (List UInt8)) (k : Nat) (h : k < rest.length) : flatTo rest (k + 1) = flatTo rest k ++ piece_ rest[k] := by
  unfold flatTo; rw [List.take_succ_eq_append_getElem h, List.map_append, List.flatten_append]; simp only [List.map_cons, List.map_nil, List.flatten_cons, List.flatten_nil, List.append_nil]
theorem flatTo_len (rest : List (List UInt8)) (k : Nat) : (flatTo rest k).length ≤ 58 * k := by
  induction k with
  | zero => simp [flatTo]
  | succ k ih =>
    by_cases h : k < rest.length
    · rw [flatTo_succ rest k h, List.length_append]; have := piece_len rest[k]; omega
    · have : flatTo rest (k + 1) = flatTo rest k := by unfold flatTo; rw [List.take_of_length_le (by omega), List.take_of_length_le (by omega)]
      rw [this]; omega
theorem flatTo_all (s : List UInt8) (rest : List (List UInt8)) : flatTo rest (min (hnum s) rest.length) = textIn (s :: rest) := by
  unfold flatTo textIn
  rw [← List.take_eq_take_min]
/-- what is asked of the sizes of sectors: those whose bytes are read are not too long -/
def Fit (ss : List (List UInt8)) : Prop := ∀ s rest, ss = s :: rest → s.length ≤ 1048576 ∧ ∀ i, (hi : i < rest.length) → i < hnum s → rest[i].length ≤ 1048576
set_option maxHeartbeats 1000000 in
theorem textIn_any (A : Option Addr) (ss : List (List UInt8)) (c : Nat) (w : World) (h : RowsAt w A ss) (hc : ss.length ≤ c) (hc2 : c ≤ maxLen) (hl : ss.length ≤ 1048576) (hf : Fit ss) :
    Calls Try.prog 64 #[.slice A ss.length c] w (RetNew w (textIn ss)) := by
  rcases ss with _ | ⟨s, rest⟩
  · have C5 := Lib.hid (fun W g v h => Pack.wbytes_any g g v [] W h (by simp))
    clear h hc hc2 hl hf
    go_enter Try.func64, Try.ntmps64
    go_wp2_with fail
    have HS := Lib.hid (Wrs.start (Below.refl _ w) 114)
    refine (C5.out _ _ _ HS.out.at_).mono ?_
    rintro e w7 ⟨X, d, rfl, g1, g2, g3, hb, hn⟩
    have G3 := Lib.hid g3; have HNN := Lib.hid hn
    clear g3 hn
    go_wp2
    go_ret
    exact ⟨X, d, rfl, g1, g2, G3.out, bstep HS.out.below hb, HNN.out.mono HS.out.below.size⟩
  · obtain ⟨hs0, hrow⟩ := hf s rest rfl
    obtain ⟨b, o, B, d, hA, e0, hd1, hd2, hB⟩ := h.row (i := 0) (by simp)
    subst hA
    rw [Nat.add_zero] at e0
    simp only [List.getElem_cons_zero] at e0 hd1 hB
    have HT := Lib.hid (rows_tail h)
    have HBY := Lib.hid hB
    have HROW := Lib.hid hrow
    have HALL := Lib.hid (flatTo_all s rest)
    have hm := hnum_lt s
    have C0 := Lib.hid (fun W h => Pack.read_any B s d W h hs0)
    have C1 := Lib.hid (fun W g X h => Pack.rraw_any g X s ⟨0, false⟩ 1 W h (by omega) hs0)
    have C2 := Lib.hid (fun W g X h => Pack.rnum_any g X s (PackM.rawS s ⟨0, false⟩ 1) 1 W h hs0)
    rw [show PackM.numV s (PackM.rawS s ⟨0, false⟩ 1) 1 = hnum s from rfl] at C2
    generalize textIn (s :: rest) = R at *
    clear hf h hB hrow
    simp only [List.length_cons] at hc hl ⊢
    obtain ⟨n, hn⟩ : ∃ n, n = rest.length := ⟨_, rfl⟩
    have HN := Lib.hid hn
    rw [← hn] at hc hl HALL ⊢
    clear hn
    obtain ⟨sn, hsn⟩ : ∃ sn, sn = s.length := ⟨_, rfl⟩
    rw [← hsn] at e0 hd1 C0
    clear hsn
    generalize hnum s = hm2 at *
    obtain ⟨m, hmm⟩ : ∃ m, m = min hm2 n := ⟨_, rfl⟩
    have hm1 : m ≤ hm2 := by omega
    have hm3 : m ≤ n := by omega
    have hmi : min (hm2 : Int) (n : Int) = (m : Int) := by omega
    rw [← hmm] at HALL
    clear hmm
    by_cases hcap : c = 1
    · have hn0 : n = 0 := by omega
      have hm0 : m = 0 := by omega
      subst hn0
      subst hm0
      subst hcap
      have hmi0 : min (hm2 : Int) 0 = 0 := by omega
      clear hmi HROW HT
      have HS := Lib.hid (Wrs.start (Below.refl _ w) 114)
      have E0 := e0
      clear e0
      have e0 := ((balloc w (.cells #[.slice none 0 0] 114)).cell (p := ⟨b, o, none⟩) (cell_lt E0)).trans E0
      have HBY1 := Lib.hid (HBY.out.alloc (.cells #[.slice none 0 0] 114))
      clear E0
      go_enter Try.func64, Try.ntmps64
      go_wp2_with fail
      generalize w.alloc (.cells #[.slice none 0 0] 114) = w1 at *
      obtain ⟨g, hg⟩ : ∃ g, g = w.heap.size := ⟨_, rfl⟩
      rw [← hg] at HS ⊢
      clear hg
      have C5 := Lib.hid (fun W v h => Pack.wbytes_any g g v (flatTo rest 0) W h (by have := flatTo_len rest 0; omega))
      have HS0 := Lib.hid HS.out
      refine (C0.out w1 HBY1.out).mono ?_
      rintro e w2 ⟨g2, X, rfl, hr, hb, hg2, hnx⟩
      have HR2 := Lib.hid hr
      have HW2 := Lib.hid (HS.out.step hb)
      have HG2 := Lib.hid hg2
      have HB2 := Lib.hid hb
      clear hr hb hg2 hnx C0 HS e0 HBY1
      go_wp2_with fail
      refine (C1.out w2 g2 X HR2.out).mono ?_
      rintro e w3 ⟨Y, d3, rfl, -, -, -, -, k1, k2⟩
      have HR3 := Lib.hid k1
      have hb3 : Below w1.heap.size w1 w3 := below_grow HB2.out k2 HG2.out HB2.out.size
      have HB3 := Lib.hid hb3
      have HW3 : Hid (Wrs w w3 g (.slice none 0 0) []) := Lib.hid (HS0.out.step hb3)
      clear k1 k2 hb3 HR2 HW2 HB2 C1
      go_wp2_with fail
      refine (C2.out w3 g2 X HR3.out).mono ?_
      rintro e w4 ⟨rfl, k1, k2⟩
      have hb4 : Below w1.heap.size w1 w4 := below_grow HB3.out k2 HG2.out HB3.out.size
      have HW4 : Hid (Wrs w w4 g (.slice none 0 0) []) := Lib.hid (HS0.out.step hb4)
      clear k1 k2 hb4 HR3 HW3 HB3 C2 HS0 HG2
      go_wp2
      go_loopw [29] (fun i wr => i = .int .i64 0 ∧ Wrs w wr g (.slice none 0 0) (flatTo rest 0))
        (fun i _ => 0 - (intOf i).toNat)
      case atStart => exact ⟨rfl, HW4.out⟩
      case round =>
        obtain ⟨rfl, hw⟩ := hrel
        rename World => w5
        have HW := Lib.hid hw
        clear hw
        go_wp2_with fail
        refine (C5.out _ _ HW.out.at_).mono ?_
        rintro e w7 ⟨X, d, rfl, g1, g2, g3, hb, hn⟩
        have G3 := Lib.hid g3; have HNN := Lib.hid hn
        clear g3 hn
        rw [HALL.out] at g1 G3 ⊢
        go_wp2
        go_ret
        exact ⟨X, d, rfl, g1, g2, G3.out, bstep HW.out.below hb, HNN.out.mono HW.out.below.size⟩
    · have hcap1 : 1 < c := by omega
      have HS := Lib.hid (Wrs.start (Below.refl _ w) 114)
      have E0 := e0
      clear e0
      have e0 := ((balloc w (.cells #[.slice none 0 0] 114)).cell (p := ⟨b, o, none⟩) (cell_lt E0)).trans E0
      have HBY1 := Lib.hid (HBY.out.alloc (.cells #[.slice none 0 0] 114))
      clear E0
      go_enter Try.func64, Try.ntmps64
      go_wp2_with fail
      generalize w.alloc (.cells #[.slice none 0 0] 114) = w1 at *
      obtain ⟨g, hg⟩ : ∃ g, g = w.heap.size := ⟨_, rfl⟩
      rw [← hg] at HS ⊢
      clear hg
      have C5 := Lib.hid (fun W v k h (hk : k ≤ 255) => Pack.wbytes_any g g v (flatTo rest k) W h (by have := flatTo_len rest k; omega))
      have HS0 := Lib.hid HS.out
      refine (C0.out w1 HBY1.out).mono ?_
      rintro e w2 ⟨g2, X, rfl, hr, hb, hg2, hnx⟩
      have HR2 := Lib.hid hr
      have HW2 := Lib.hid (HS.out.step hb)
      have HG2 := Lib.hid hg2
      have HB2 := Lib.hid hb
      clear hr hb hg2 hnx C0 HS e0 HBY1
      go_wp2_with fail
      refine (C1.out w2 g2 X HR2.out).mono ?_
      rintro e w3 ⟨Y, d3, rfl, -, -, -, -, k1, k2⟩
      have HR3 := Lib.hid k1
      have hb3 : Below w1.heap.size w1 w3 := below_grow HB2.out k2 HG2.out HB2.out.size
      have HB3 := Lib.hid hb3
      have HW3 : Hid (Wrs w w3 g (.slice none 0 0) []) := Lib.hid (HS0.out.step hb3)
      clear k1 k2 hb3 HR2 HW2 HB2 C1
      go_wp2_with fail
      refine (C2.out w3 g2 X HR3.out).mono ?_
      rintro e w4 ⟨rfl, k1, k2⟩
      have hb4 : Below w1.heap.size w1 w4 := below_grow HB3.out k2 HG2.out HB3.out.size
      have HW4 : Hid (Wrs w w4 g (.slice none 0 0) []) := Lib.hid (HS0.out.step hb4)
      clear k1 k2 hb4 HR3 HW3 HB3 C2 HS0 HG2
      go_wp2
      go_loopw [29] (fun i wr => ∃ k : Nat, ∃ v, k ≤ m ∧ i = .int .i64 k ∧ Wrs w wr g v (flatTo rest k))
        (fun i _ => m - (intOf i).toNat)
      case atStart => exact ⟨0, _, Nat.zero_le _, rfl, HW4.out⟩
      case round =>
        obtain ⟨k, v, hk, rfl, hw⟩ := hrel
        rename World => w5
        have HW := Lib.hid hw
        by_cases hlt : k < m
        · have hkr : k < rest.length := by rw [← HN.out]; omega
          obtain ⟨b2, o2, D, q, hAe, f0, q1, q2, hD⟩ := (HT.out.below hw.below).row hkr
          injection hAe with hAe; injection hAe with h1 h2
          subst h1; subst h2
          have hrl := HROW.out k hkr (by omega)
          have HSU := Lib.hid (flatTo_succ rest k hkr)
          have HFL := Lib.hid (flatTo_len rest k)
          have HD := Lib.hid hD
          clear hw hD
          obtain ⟨r, hr⟩ : ∃ r, r = rest[k] := ⟨_, rfl⟩
          rw [← hr] at f0 q1 hrl HSU HD
          clear hr
          have D0 := Lib.hid (Pack.read_any D r q w5 HD.out hrl)
          have D1 := Lib.hid (fun W g X h => Pack.rraw_any g X r ⟨0, false⟩ 2 W h (by omega) hrl)
          have D2 := Lib.hid (fun W g X h => Pack.rraw_any g X r (PackM.rawS r ⟨0, false⟩ 2) 58 W h (by omega) hrl)
          rw [show PackM.rawL r (PackM.rawS r ⟨0, false⟩ 2) 58 = piece_ r from rfl] at D2
          have HPL := Lib.hid (piece_len r)
          have HGO : Hid (∀ wr v', Wrs w wr g v' (flatTo rest (k + 1)) → ∃ k2 : Nat, ∃ v, k2 ≤ m ∧ Value.int .i64 ((k : Int) + 1) = .int .i64 k2 ∧ Wrs w wr g v (flatTo rest k2)) := Lib.hid fun wr v' h => ⟨k + 1, v', by omega, by go_num, h⟩
          generalize flatTo rest (k + 1) = T2 at *
          generalize flatTo rest k = T at *
          generalize PackM.rawS r ⟨0, false⟩ 2 = s1 at *
          generalize PackM.rawS r s1 58 = s2 at *
          obtain ⟨rn, hrn⟩ : ∃ rn, rn = r.length := ⟨_, rfl⟩
          rw [← hrn] at f0 q1 D0
          clear hrn hrl
          go_wp2_with fail
          refine D0.out.mono ?_
          rintro e w6 ⟨g3, X3, rfl, hr3, hb3, hg3, -⟩
          have HR3 := Lib.hid hr3; have HB3 := Lib.hid hb3; have HG3 := Lib.hid hg3
          clear hr3 hb3 hg3 D0 f0 q1 q2
          go_wp2_with fail
          refine (D1.out w6 g3 X3 HR3.out).mono ?_
          rintro e w7 ⟨Y, d3, rfl, -, -, -, -, k1, k2⟩
          have HR4 := Lib.hid k1
          have HB4 := Lib.hid (below_grow HB3.out k2 HG3.out HB3.out.size)
          clear k1 k2 D1 HB3 HR3
          go_wp2_with fail
          refine (D2.out w7 g3 X3 HR4.out).mono ?_
          rintro e w8 ⟨Y2, d4, rfl, y1, y2, y3, -, k1, k2⟩
          have hb8 := below_grow HB4.out k2 HG3.out HB4.out.size
          have HW8 := Lib.hid (HW.out.step hb8)
          have HY := Lib.hid y1
          clear k1 k2 D2 HB4 HR4 hb8 y1
          have D3 := Lib.hid (Pack.wraw_any g g v T Y2 (piece_ r) d4 w8 HW8.out.at_ (by have := HFL.out; omega) HW8.out.lt HY.out (by have := HPL.out; omega))
          rw [← HSU.out] at D3
          generalize (piece_ r).length = pn at *
          go_wp2_with fail
          refine D3.out.mono ?_
          rintro e w9 k1
          obtain ⟨rfl, v9, h9⟩ := HW8.out.next k1
          have HR := Lib.hid (HGO.out w9 v9 h9)
          clear h9 k1 D3 HGO HW8 HY HW
          go_wp2
          go_roundw
          case rel => exact HR.out
          case measure => simp [intOf] <;> omega
        · obtain rfl : k = m := by omega
          clear hw
          go_wp2_with fail
          refine (C5.out _ v k HW.out.at_ (by omega)).mono ?_
          rintro e w7 ⟨X, d, rfl, g1, g2, g3, hb, hn⟩
          have G3 := Lib.hid g3; have HNN := Lib.hid hn
          clear g3 hn
          rw [HALL.out] at g1 G3 ⊢
          go_wp2
          go_ret
          exact ⟨X, d, rfl, g1, g2, G3.out, bstep HW.out.below hb, HNN.out.mono HW.out.below.size⟩
end Go.Proofs.Ytapgpibindhlfaa.Entry

/- package entry: what a text says, whatever it is; whether sectors are the first of some -/
set_option maxRecDepth 100000
namespace Go.Proofs.Ytapgpibindhlfaa.Entry
open Go.RowKit EntM SupM

/-- blocks that no change's bytes may lie in: the reader's own, and all old ones but the text's -/
def GS (w0 : World) (g : Nat) (A : Option Addr) (j : Nat) : Prop := j = g ∨ (j < w0.heap.size ∧ ∀ a, A = some a → j ≠ a.block)
/-- where a reading of changes is: k of them told, the reader's block, the bytes it reads -/
structure Rdg (w0 w : World) (g : Nat) (A : Option Addr) (b : List UInt8) (k : Nat) (v : Value) : Prop where
  own : OwnC w w0.heap.size (GS w0 g A) v (saidTo b k).1
  rd : Pack.RdAt w g A b (saidTo b k).2
  keeps : Keeps (fun j => j = g ∨ w0.heap.size ≤ j) w0 w
  good : ∀ j, j < k → (saidTo b j).2.bad = false
theorem Rdg.kept {w0 w : World} {g : Nat} {A : Option Addr} {b : List UInt8} {k : Nat} {v : Value} (h : Rdg w0 w g A b k v) : Keeps (fun j => j = g) w0 w :=
  h.keeps.mono fun j hj hf => by
    rcases hf with hf | hf
    · exact hf
    · omega
theorem stp_yes (b : List UInt8) (l : List Ch) (s : PackM.St) (h : PackM.numV b (PackM.numS b s 2) 1 = 1) : stp b (l, s) = (l ++ [⟨(PackM.numV b s 2 : Nat), PackM.rawL b (PackM.numS b (PackM.numS b s 2) 1) 64⟩], PackM.rawS b (PackM.numS b (PackM.numS b s 2) 1) 64) := if_pos h
theorem stp_no (b : List UInt8) (l : List Ch) (s : PackM.St) (h : ¬ PackM.numV b (PackM.numS b s 2) 1 = 1) : stp b (l, s) = (l ++ [⟨(PackM.numV b s 2 : Nat), []⟩], PackM.numS b (PackM.numS b s 2) 1) := if_neg h
theorem lit_cells (W : World) (a : Int) (u : Value) (t : TypeId) : (W.alloc (.cells #[.int .i64 a, u] t)).cell? ⟨W.heap.size, 0, none⟩ = some (.int .i64 a) ∧ (W.alloc (.cells #[.int .i64 a, u] t)).cell? ⟨W.heap.size, 1, none⟩ = some u := ⟨by simp, by simp⟩
theorem rawL_nil (s : PackM.St) (n : Int) : PackM.rawL [] s n = [] := by unfold PackM.rawL; split <;> simp
/-- in the middle of a round: a change's own block beside it -/
structure Rdm (w0 w : World) (g : Nat) (A : Option Addr) (b : List UInt8) (s : PackM.St) (l : List Ch) (v : Value) (p : Nat) (a : Int) (u : Value) : Prop where
  own : OwnC w w0.heap.size (fun j => GS w0 g A j ∨ j = p) v l
  rd : Pack.RdAt w g A b s
  keeps : Keeps (fun j => j = g ∨ w0.heap.size ≤ j) w0 w
  c0 : w.cell? ⟨p, 0, none⟩ = some (.int .i64 a)
  c1 : w.cell? ⟨p, 1, none⟩ = some u
  f1 : w.frozen? ⟨p, 1, none⟩ = false
  low : w0.heap.size ≤ p
  np : v.ownBlock ≠ some p
theorem Rdm.next {w0 w w' : World} {g : Nat} {A : Option Addr} {b : List UInt8} {s s' : PackM.St} {l : List Ch} {v : Value} {p : Nat} {a : Int} {u : Value} (h : Rdm w0 w g A b s l v p a u) (hg : g < w0.heap.size) (k1 : Pack.RdAt w' g A b s') (k2 : w.grownBy w' (some g)) : Rdm w0 w' g A b s' l v p a u := by
  have q : Keeps (fun j => j = g) w w' := .grow k2 rfl
  have hp : ¬ p = g := by have := h.low; omega
  exact ⟨h.own.keep q (fun _ e => .inl (.inl e)), k1, h.keeps.trans (.grow k2 (.inl rfl)), q.cell h.c0 hp, q.cell h.c1 hp, q.frozen h.c1 hp h.f1, h.low, h.np⟩
theorem Rdm.start {w0 w : World} {g : Nat} {A : Option Addr} {b : List UInt8} {s : PackM.St} {l : List Ch} {v : Value} (h1 : OwnC w w0.heap.size (GS w0 g A) v l) (h2 : Pack.RdAt w g A b s) (h3 : Keeps (fun j => j = g ∨ w0.heap.size ≤ j) w0 w) (a : Int) (u : Value) (t : TypeId) :
    Rdm w0 (w.alloc (.cells #[.int .i64 a, u] t)) g A b s l v w.heap.size a u :=
  ⟨(h1.more (G' := fun j => GS w0 g A j ∨ j = w.heap.size) fun k hk => by rcases hk with hk | hk; exact .inl hk; exact .inr (by omega)).below (balloc _ _), h2.below (balloc _ _), h3.trans (.of_below _ (balloc _ _)), by simp, by simp, by simp, h3.size, fun e => by have := (h1.lt _ e).2; omega⟩
/-- what a round's end gives: the change behind the others, and the reader as it was -/
theorem Rdm.done {w0 w w1 w' : World} {g : Nat} {A : Option Addr} {b : List UInt8} {s : PackM.St} {l l' : List Ch} {v v' : Value} {p : Nat} {a : Int} {u : Value} (h : Rdm w0 w g A b s l v p a u) (hg : g < w0.heap.size) (hA : 0 < b.length → ∀ a, A = some a → a.block < w0.heap.size)
    (hq : Keeps (fun j => w0.heap.size ≤ j) w w1) (hgr : w1.grownBy w' v.ownBlock) (_ho : OwnC w' w0.heap.size (fun j => GS w0 g A j ∨ j = p) v' l') : OwnC w' w0.heap.size (GS w0 g A) v' l' ∧ Pack.RdAt w' g A b s ∧ Keeps (fun j => j = g ∨ w0.heap.size ≤ j) w0 w' := by
  have q2 : Keeps (fun j => w0.heap.size ≤ j) w1 w' := ⟨hgr.os, hgr.tape, hgr.output, hgr.size, fun k hk hn => hgr.block k hk (fun e => hn (h.own.lt _ e.symm).1)⟩
  have q := hq.trans q2
  exact ⟨_ho.more fun k hk => .inl (.inl hk), h.rd.keep q (by omega) (fun h0 a e => by have := hA h0 a e; omega), h.keeps.trans (q.mono fun _ _ h => .inr h)⟩
set_option maxHeartbeats 4000000 in
theorem said_new (g : Nat) (A : Option Addr) (b : List UInt8) (w : World) (h : Pack.RdAt w g A b ⟨0, false⟩) (hbl : b.length ≤ 1048576) :
    Calls Try.prog 65 #[.func (.func 66) #[.pointer (some ⟨g, 0, none⟩)] #[], .func (.func 67) #[.pointer (some ⟨g, 0, none⟩)] #[], .func (.func 68) #[.pointer (some ⟨g, 0, none⟩)] #[]] w fun e w' =>
      ∃ l bad X c, e = .returned (.slice X l.length c) ∧ l.length ≤ c ∧ c ≤ maxLen ∧ ChsAt w' X l ∧ Said b l bad ∧ Keeps (fun j => j = g) w w' ∧ OwnC w' w.heap.size (GS w g A) (.slice X l.length c) l := by
  have hgl := h.lt
  have C0 := Lib.hid (Pack.rnum_any g A b ⟨0, false⟩ 2 w h hbl)
  have HNE := Lib.hid (h.ne)
  have HAL : Hid (0 < b.length → ∀ a, A = some a → a.block < w.heap.size) := Lib.hid fun h0 a e => h.bytes.lt h0 a e
  have HSD : Hid (∀ k, k ≤ PackM.numV b st0 2 → (∀ j, j < k → (saidTo b j).2.bad = false) → (k = PackM.numV b st0 2 ∨ (saidTo b k).2.bad = true) → Said b (saidTo b k).1 (saidTo b k).2.bad) := Lib.hid fun k h1 h2 h3 => ⟨k, rfl, rfl, h1, h2, h3⟩
  have hn : PackM.numV b st0 2 < 65536 := by
    have h1 := PackM.val_lt (PackM.rawL b st0 (PackM.wid 2))
    have h2 := PackM.rawL_len b st0 (PackM.wid 2)
    refine Nat.lt_of_lt_of_le h1 (Nat.le_trans (Nat.pow_le_pow_right (by omega) h2) (by decide))
  rw [show PackM.numV b ⟨0, false⟩ 2 = PackM.numV b st0 2 from rfl, show PackM.numS b ⟨0, false⟩ 2 = (saidTo b 0).2 from rfl] at C0
  obtain ⟨n, hnn⟩ : ∃ n, n = PackM.numV b st0 2 := ⟨_, rfl⟩
  rw [← hnn] at C0 HSD hn
  clear hnn h
  go_enter Try.func65, Try.ntmps65
  go_wp2_with fail
  refine C0.out.mono ?_
  rintro e w1 ⟨rfl, k1, k2⟩
  have HR0 : Hid (Rdg w w1 g A b 0 (.slice none 0 0)) := Lib.hid ⟨OwnC.nil _ _ _, k1, .grow k2 (.inl rfl), fun j hj => absurd hj (by omega)⟩
  clear k1 k2 C0
  go_wp2
  go_loopw [7] (fun v wr => ∃ (k : Nat) (X : Option Addr) (c : Nat), k ≤ n ∧ v = .slice X k c ∧ Rdg w wr g A b k (.slice X k c))
    (fun v _ => match v with | .slice _ m _ => n - m | _ => 0)
  case atStart => exact ⟨0, none, 0, Nat.zero_le _, rfl, HR0.out⟩
  case round =>
    obtain ⟨k, X, c, hk, rfl, hr⟩ := hrel
    rename World => w2
    have HR := Lib.hid hr
    by_cases hlt : k < n
    · have CG := Lib.hid (Pack.good_any g A b (saidTo b k).2 w2 hr.rd)
      obtain ⟨bad, hbad⟩ : ∃ q, q = (saidTo b k).2.bad := ⟨_, rfl⟩
      rw [← hbad] at CG
      have HBAD := Lib.hid hbad
      clear hbad hr
      cases bad
      · have HGO : Hid (∀ j, j < k + 1 → (saidTo b j).2.bad = false) := Lib.hid fun j hj => by
          by_cases e : j = k
          · subst e; exact HBAD.out.symm
          · exact HR.out.good j (by omega)
        have HST : Hid (saidTo b (k + 1) = stp b (saidTo b k)) := Lib.hid rfl
        have HSL := Lib.hid (saidTo_len b k)
        go_wp2_with fail
        refine CG.out.mono ?_
        rintro e w3 ⟨rfl, hq⟩
        have HQ := Lib.hid (bquiet hq)
        have HOW := Lib.hid (HR.out.own.below HQ.out)
        have HRD := Lib.hid (HR.out.rd.below HQ.out)
        have HKP : Hid (Keeps (fun j => j = g ∨ w.heap.size ≤ j) w w3) := Lib.hid (HR.out.keeps.trans (.of_below _ HQ.out))
        clear hq CG HR HQ HBAD
        have hst := HST.out
        have HKE : Hid (∀ wr (v : Value), OwnC wr w.heap.size (GS w g A) v (saidTo b (k + 1)).1 → Pack.RdAt wr g A b (saidTo b (k + 1)).2 → Keeps (fun j => j = g ∨ w.heap.size ≤ j) w wr → Rdg w wr g A b (k + 1) v) := Lib.hid fun wr v h1 h2 h3 => ⟨h1, h2, h3, HGO.out⟩
        generalize saidTo b (k + 1) = S1 at *
        generalize saidTo b k = S0 at *
        obtain ⟨l, s⟩ := S0
        simp only at HOW HRD HSL hst
        have hay : PackM.numV b (PackM.numS b s 2) 1 = 1 → S1 = (l ++ [⟨(PackM.numV b s 2 : Nat), PackM.rawL b (PackM.numS b (PackM.numS b s 2) 1) 64⟩], PackM.rawS b (PackM.numS b (PackM.numS b s 2) 1) 64) := fun h => hst.trans (stp_yes b l s h)
        have han : ¬ PackM.numV b (PackM.numS b s 2) 1 = 1 → S1 = (l ++ [⟨(PackM.numV b s 2 : Nat), []⟩], PackM.numS b (PackM.numS b s 2) 1) := fun h => hst.trans (stp_no b l s h)
        have HAY := Lib.hid hay; have HAN := Lib.hid han
        have hai := PackM.numV_lt b s 2
        have C1 := Lib.hid (Pack.rnum_any g A b s 2 w3 HRD.out hbl)
        have C2 := Lib.hid (fun W h => Pack.rnum_any g A b (PackM.numS b s 2) 1 W h hbl)
        have C3 := Lib.hid (fun W h => Pack.rraw_any g A b (PackM.numS b (PackM.numS b s 2) 1) 64 W h (by omega) hbl)
        have HNIL : Hid (0 < (PackM.rawL b (PackM.numS b (PackM.numS b s 2) 1) 64).length → 0 < b.length) := Lib.hid fun h0 => by
          rcases b with _ | ⟨x, b⟩
          · rw [rawL_nil] at h0; simp at h0
          · simp
        clear hst hay han
        generalize PackM.rawL b (PackM.numS b (PackM.numS b s 2) 1) 64 = D at *
        generalize PackM.rawS b (PackM.numS b (PackM.numS b s 2) 1) 64 = s3 at *
        generalize PackM.numV b (PackM.numS b s 2) 1 = f at *
        generalize PackM.numS b (PackM.numS b s 2) 1 = s2 at *
        generalize PackM.numS b s 2 = s1 at *
        generalize PackM.numV b s 2 = a at *
        have HAI : Hid (AtIn ((a : Nat) : Int)) := Lib.hid (by unfold AtIn; omega)
        clear hai
        go_wp2_with fail
        refine C1.out.mono ?_
        rintro e w4 ⟨rfl, k1, k2⟩
        have q : Keeps (fun j => j = g) w3 w4 := .grow k2 rfl
        have HM0 := Lib.hid (Rdm.start (HOW.out.keep q (fun _ e => .inl e)) k1 (HKP.out.trans (.grow k2 (.inl rfl))) (a : Nat) (.slice none 0 0) 50)
        clear k1 k2 q C1 HOW HRD HKP
        go_wp2_with fail
        obtain ⟨p, hp⟩ : ∃ p, p = w4.heap.size := ⟨_, rfl⟩
        rw [← hp] at HM0 ⊢
        generalize w4.alloc (.cells #[.int .i64 (a : Nat), .slice none 0 0] 50) = w5 at *
        clear hp
        refine (C2.out w5 HM0.out.rd).mono ?_
        rintro e w6 ⟨rfl, k1, k2⟩
        have HM1 := Lib.hid (HM0.out.next hgl k1 k2)
        clear k1 k2 HM0 C2
        by_cases hf : f = 1
        · subst hf
          have hs1 := HAY.out rfl
          subst hs1
          simp only at HKE
          clear HAY HAN HST
          go_wp2_with fail
          refine (C3.out w6 HM1.out.rd).mono ?_
          rintro e w7 ⟨Y, d, rfl, y1, y2, y3, y4, k1, k2⟩
          have HM2 := Lib.hid (HM1.out.next hgl k1 k2)
          have hg6 : w.heap.size ≤ w6.heap.size := HM1.out.keeps.size
          have hyl : 0 < D.length → ∀ x, Y = some x → x.block < w.heap.size ∨ w6.heap.size ≤ x.block := fun h0 x e => by
            rcases y4 h0 x e with ⟨a0, e0, h1⟩ | h1
            · exact .inl (by rw [h1]; exact HAL.out (HNIL.out h0) _ e0)
            · exact .inr h1
          have hyg : 0 < D.length → ∀ x, Y = some x → x.block ≠ g := fun h0 x e => by
            rcases y4 h0 x e with ⟨a0, e0, h1⟩ | h1
            · rw [h1]; exact HNE.out (HNIL.out h0) _ e0
            · omega
          have hp6 := cell_lt HM1.out.c0
          simp only at hp6
          have hplow := HM1.out.low
          have hown6 := HM1.out.own.lt
          have c1 := HM2.out.c1; have f1 := HM2.out.f1; have c0 := HM2.out.c0
          have qs : Keeps (fun j => j = p) w7 (w7.setCell ⟨p, 1, none⟩ (.slice Y D.length d)) := .set _ _ _ _ rfl
          have hb8 : BytesAt (w7.setCell ⟨p, 1, none⟩ (.slice Y D.length d)) Y D := y1.far' _ _ fun h0 x e => by
            rcases hyl h0 x e with h1 | h1 <;> (simp only; omega)
          have HB9 := Lib.hid (hb8.alloc (.cells #[.int .i64 (a : Nat), .slice Y D.length d] 50))
          have hg7 : g < w7.heap.size := HM2.out.rd.lt
          have hp7 : p < w7.heap.size := cell_lt HM2.out.c0
          have e7 : (w7.setCell ⟨p, 1, none⟩ (.slice Y D.length d)).heap.size = w7.heap.size := by simp
          have hlit := lit_cells (w7.setCell ⟨p, 1, none⟩ (.slice Y D.length d)) (a : Nat) (.slice Y D.length d) 50
          rw [e7] at hlit
          have HO := Lib.hid ((HM2.out.own.keep qs (fun j e => .inr e)).below (balloc _ (.cells #[.int .i64 (a : Nat), .slice Y D.length d] 50)))
          have HC0 : Hid (((w7.setCell ⟨p, 1, none⟩ (.slice Y D.length d)).alloc (.cells #[.int .i64 (a : Nat), .slice Y D.length d] 50)).cell? ⟨w7.heap.size, 0, none⟩ = some (.int .i64 (a : Nat))) := Lib.hid hlit.1
          have HC1 : Hid (((w7.setCell ⟨p, 1, none⟩ (.slice Y D.length d)).alloc (.cells #[.int .i64 (a : Nat), .slice Y D.length d] 50)).cell? ⟨w7.heap.size, 1, none⟩ = some (.slice Y D.length d)) := Lib.hid hlit.2
          have HNEW : Hid (0 < D.length → ∀ x, Y = some x → (Value.slice X k c).ownBlock ≠ some x.block ∧ ¬ (GS w g A x.block ∨ x.block = p)) := Lib.hid fun h0 x e => by
            have h3 := hyg h0 x e
            rcases y4 h0 x e with ⟨a0, e0, h1⟩ | h1
            · have h5 := HAL.out (HNIL.out h0) _ e0
              exact ⟨fun e => by have := (hown6 _ e).1; omega, fun h => by
                rcases h with (h | h) | h
                · exact h3 h
                · exact h.2 a0 e0 h1
                · omega⟩
            · exact ⟨fun e => by have := (hown6 _ e).2; omega, fun h => by
                rcases h with (h | h) | h
                · exact h3 h
                · have := h.1; omega
                · omega⟩
          have HGS : Hid (∀ j, (GS w g A j ∨ j = p) → j < ((w7.setCell ⟨p, 1, none⟩ (.slice Y D.length d)).alloc (.cells #[.int .i64 (a : Nat), .slice Y D.length d] 50)).heap.size) := Lib.hid fun j hj => by
            have e8 : ((w7.setCell ⟨p, 1, none⟩ (.slice Y D.length d)).alloc (.cells #[.int .i64 (a : Nat), .slice Y D.length d] 50)).heap.size = w7.heap.size + 1 := by simp
            rcases hj with (hj | hj) | hj
            · omega
            · have := hj.1; omega
            · omega
          have HBS : Hid (w.heap.size ≤ ((w7.setCell ⟨p, 1, none⟩ (.slice Y D.length d)).alloc (.cells #[.int .i64 (a : Nat), .slice Y D.length d] 50)).heap.size) := Lib.hid (by
            have e8 : ((w7.setCell ⟨p, 1, none⟩ (.slice Y D.length d)).alloc (.cells #[.int .i64 (a : Nat), .slice Y D.length d] 50)).heap.size = w7.heap.size + 1 := by simp
            omega)
          have HDONE : Hid (∀ (v' : Value) (w' : World), OwnC w' w.heap.size (fun j => GS w g A j ∨ j = p) v' (l ++ [⟨(a : Nat), D⟩]) → ((w7.setCell ⟨p, 1, none⟩ (.slice Y D.length d)).alloc (.cells #[.int .i64 (a : Nat), .slice Y D.length d] 50)).grownBy w' (Value.slice X k c).ownBlock → Rdg w w' g A b (k + 1) v') := Lib.hid fun v' w' h1 h2 => by
            obtain ⟨m1, m2, m3⟩ := HM2.out.done hgl HAL.out (.trans (qs.mono fun j _ e => by subst e; exact hplow) (.of_below _ (balloc _ _))) h2 h1
            exact HKE.out w' v' m1 m2 m3
          clear y1 y4 hyl hyg hp6 hown6 qs hb8 hg7 hp7 e7 hg6 HM1 HNIL C3
          clear hlit
          go_wp2_with (at_builtin; refine wpList_append_ch rfl _ _ rfl w.heap.size (fun j => GS w g A j ∨ j = p) _ l rfl HO.out _ 1 ⟨(a : Nat), D⟩ Y d rfl HC0.out HC1.out y2 y3 HB9.out HAI.out HNEW.out HGS.out (by rw [HSL.out]; omega) HBS.out ?_; intro v' w10 hown' hgrow' _; obtain ⟨X', c', hv', _, _, _, _⟩ := hown'.chs; rw [List.length_append, HSL.out, List.length_singleton] at hv'; subst hv'; have HD := Lib.hid (HDONE.out _ _ hown' hgrow'); clear hown' hgrow')
          go_roundw
          case rel => exact ⟨k + 1, X', c', by omega, rfl, HD.out⟩
          case measure => simp <;> omega
        · have hs1 := HAN.out hf
          subst hs1
          simp only at HKE
          have hq : (((f : Nat) : Int) == 1) = false := by simp; omega
          have c1 := HM1.out.c1; have f1 := HM1.out.f1; have c0 := HM1.out.c0
          have hown6 := HM1.out.own.lt
          have hplow := HM1.out.low
          have hg7 : g < w6.heap.size := HM1.out.rd.lt
          have hp7 : p < w6.heap.size := cell_lt HM1.out.c0
          have HB9 := Lib.hid (BytesAt.nil (w6.alloc (.cells #[.int .i64 (a : Nat), .slice none 0 0] 50)) none)
          have HO := Lib.hid (HM1.out.own.below (balloc _ (.cells #[.int .i64 (a : Nat), .slice none 0 0] 50)))
          have HC0 : Hid ((w6.alloc (.cells #[.int .i64 (a : Nat), .slice none 0 0] 50)).cell? ⟨w6.heap.size, 0, none⟩ = some (.int .i64 (a : Nat))) := Lib.hid (by simp)
          have HC1 : Hid ((w6.alloc (.cells #[.int .i64 (a : Nat), .slice none 0 0] 50)).cell? ⟨w6.heap.size, 1, none⟩ = some (.slice none 0 0)) := Lib.hid (by simp)
          have HNEW : Hid (0 < ([] : List UInt8).length → ∀ x, (none : Option Addr) = some x → (Value.slice X k c).ownBlock ≠ some x.block ∧ ¬ (GS w g A x.block ∨ x.block = p)) := Lib.hid fun h0 => by simp at h0
          have HGS : Hid (∀ j, (GS w g A j ∨ j = p) → j < (w6.alloc (.cells #[.int .i64 (a : Nat), .slice none 0 0] 50)).heap.size) := Lib.hid fun j hj => by
            have e8 : (w6.alloc (.cells #[.int .i64 (a : Nat), .slice none 0 0] 50)).heap.size = w6.heap.size + 1 := by simp
            rcases hj with (hj | hj) | hj
            · omega
            · have := hj.1; omega
            · omega
          have HBS : Hid (w.heap.size ≤ (w6.alloc (.cells #[.int .i64 (a : Nat), .slice none 0 0] 50)).heap.size) := Lib.hid (by simp; omega)
          have HDONE : Hid (∀ (v' : Value) (w' : World), OwnC w' w.heap.size (fun j => GS w g A j ∨ j = p) v' (l ++ [⟨(a : Nat), []⟩]) → (w6.alloc (.cells #[.int .i64 (a : Nat), .slice none 0 0] 50)).grownBy w' (Value.slice X k c).ownBlock → Rdg w w' g A b (k + 1) v') := Lib.hid fun v' w' h1 h2 => by
            obtain ⟨m1, m2, m3⟩ := HM1.out.done hgl HAL.out (.of_below _ (balloc _ _)) h2 h1
            exact HKE.out w' v' m1 m2 m3
          clear HAY HAN HST hown6 hg7 hp7 HNIL C3 hf
          go_wp2_with (at_builtin; refine wpList_append_ch rfl _ _ rfl w.heap.size (fun j => GS w g A j ∨ j = p) _ l rfl HO.out _ 1 ⟨(a : Nat), []⟩ none 0 rfl HC0.out HC1.out (Nat.le_refl _) (Nat.zero_le _) HB9.out HAI.out HNEW.out HGS.out (by rw [HSL.out]; omega) HBS.out ?_; intro v' w10 hown' hgrow' _; obtain ⟨X', c', hv', _, _, _, _⟩ := hown'.chs; rw [List.length_append, HSL.out, List.length_singleton] at hv'; subst hv'; have HD := Lib.hid (HDONE.out _ _ hown' hgrow'); clear hown' hgrow')
          go_roundw
          case rel => exact ⟨k + 1, X', c', by omega, rfl, HD.out⟩
          case measure => simp <;> omega
      · go_wp2_with fail
        refine CG.out.mono ?_
        rintro e w3 ⟨rfl, hq⟩
        have HQ := Lib.hid (bquiet hq)
        clear hq CG
        go_wp2
        go_ret
        have ho := HR.out.own.below HQ.out
        obtain ⟨X', c', hv, h1, h2, h3, _⟩ := ho.chs
        injection hv with e1 e2 e3
        subst e1; subst e3
        exact ⟨_, true, X, c, by rw [saidTo_len]; rfl, h1, h2, h3, by have := HSD.out k (by omega) HR.out.good (.inr HBAD.out.symm); rw [← HBAD.out] at this; exact this, HR.out.kept.trans (.of_below _ HQ.out), by rw [saidTo_len]; exact ho⟩
    · obtain rfl : k = n := by omega
      clear hr
      go_wp2
      go_ret
      obtain ⟨X', c', hv, h1, h2, h3, _⟩ := HR.out.own.chs
      injection hv with e1 e2 e3
      subst e1; subst e3
      exact ⟨_, _, X, c, by rw [saidTo_len]; rfl, h1, h2, h3, HSD.out k (by omega) HR.out.good (.inl rfl), HR.out.kept, by rw [saidTo_len]; exact HR.out.own⟩
theorem said_any (g : Nat) (A : Option Addr) (b : List UInt8) (w : World) (h : Pack.RdAt w g A b ⟨0, false⟩) (hbl : b.length ≤ 1048576) :
    Calls Try.prog 65 #[.func (.func 66) #[.pointer (some ⟨g, 0, none⟩)] #[], .func (.func 67) #[.pointer (some ⟨g, 0, none⟩)] #[], .func (.func 68) #[.pointer (some ⟨g, 0, none⟩)] #[]] w fun e w' =>
      ∃ l bad X c, e = .returned (.slice X l.length c) ∧ l.length ≤ c ∧ c ≤ maxLen ∧ ChsAt w' X l ∧ Said b l bad ∧ Keeps (fun j => j = g) w w' := by
  refine (said_new g A b w h hbl).mono ?_
  rintro e w' ⟨l, bad, X, c, h1, h2, h3, h4, h5, h6, _⟩
  exact ⟨l, bad, X, c, h1, h2, h3, h4, h5, h6⟩
end Go.Proofs.Ytapgpibindhlfaa.Entry

/- package entry: whether sectors are the first of some -/
set_option maxRecDepth 100000
namespace Go.Proofs.Ytapgpibindhlfaa.Entry
open Go.RowKit EntM

theorem rows_take {w : World} {A : Option Addr} {m : List (List UInt8)} (h : RowsAt w A m) (k : Nat) : RowsAt w A (m.take k) := fun i hi => by
  have hi' : i < m.length := by simp at hi; omega
  obtain ⟨b, o, v, hA, hc, hs⟩ := h i hi'
  exact ⟨b, o, v, hA, hc, by rw [List.getElem_take]; exact hs⟩
theorem equalFunc_any (A B : Option Addr) (m1 m2 : List (List UInt8)) (c d : Nat) (w : World) (h1 : RowsAt w A m1) (h2 : RowsAt w B m2) (hl : m1.length ≤ 1048576) (he : m1.length = m2.length) :
    Calls Try.prog 92 #[.slice A m1.length c, .slice B m2.length d, .func (.func 93) #[] #[]] w fun e w' => e = .returned (.bool (decide (m1 = m2))) ∧ w = w' := by
  have H1 := Lib.hid h1; have H2 := Lib.hid h2; have HE := Lib.hid he
  have HNO : Hid (∀ k, (hk : k < m1.length) → (hk2 : k < m2.length) → m1[k] ≠ m2[k] → decide (m1 = m2) = false) := Lib.hid fun k hk hk2 hne => decide_eq_false fun e => hne (by subst e; rfl)
  have HYES : Hid (m1.take m1.length = m2.take m1.length → decide (m1 = m2) = true) := Lib.hid fun h => decide_eq_true (by
    rw [List.take_length, he, List.take_length] at h; exact h)
  clear h1 h2
  obtain ⟨n, hn⟩ : ∃ n, n = m1.length := ⟨_, rfl⟩
  have HN := Lib.hid hn
  rw [← he, ← hn]
  rw [← hn] at hl
  clear hn he
  generalize decide (m1 = m2) = q at *
  go_enter Try.func92, Try.ntmps92
  go_wp2
  go_loopw [17] (fun i wr => ∃ k : Nat, k ≤ n ∧ i = .int .i64 k ∧ w = wr ∧ m1.take k = m2.take k)
    (fun i _ => n - (intOf i).toNat)
  case atStart => exact ⟨0, Nat.zero_le _, rfl, rfl, by rw [List.take_zero, List.take_zero]⟩
  case round =>
    obtain ⟨k, hk, rfl, rfl, ht⟩ := hrel
    have HT := Lib.hid ht
    clear ht
    by_cases hlt : k < n
    · have hk1 : k < m1.length := by rw [← HN.out]; exact hlt
      have hk2 : k < m2.length := by rw [← HE.out, ← HN.out]; exact hlt
      obtain ⟨b1, o1, X, cx, hA, e1, l1, l1', p1⟩ := H1.out.row hk1
      obtain ⟨b2, o2, Y, cy, hB, e2, l2, l2', p2⟩ := H2.out.row hk2
      subst hA; subst hB
      have HQ := Lib.hid (HNO.out k hk1 hk2)
      have HG : Hid (m1[k] = m2[k] → m1.take (k + 1) = m2.take (k + 1)) := Lib.hid fun e => by
        rw [List.take_succ_eq_append_getElem hk1, List.take_succ_eq_append_getElem hk2, HT.out, e]
      have C := Lib.hid (Equal.equal_any X Y m1[k] m2[k] cx cy w p1 p2)
      clear p1 p2 HT
      generalize m1[k] = x at *
      generalize m2[k] = y at *
      by_cases hxy : x = y
      · have hd : decide (x = y) = true := decide_eq_true hxy
        rw [hd] at C
        have hf := HG.out hxy
        have HF := Lib.hid hf
        clear hd hxy hf
        go_wp2_with fail
        refine C.out.mono ?_
        rintro e w2 ⟨rfl, rfl⟩
        go_wp2
        go_roundw
        case rel => exact ⟨k + 1, by omega, by go_num, by first | trivial | rfl, HF.out⟩
        case measure => simp [intOf] <;> omega
      · have hd : decide (x = y) = false := decide_eq_false hxy
        rw [hd] at C
        have hf := HQ.out hxy
        have HF := Lib.hid hf
        clear hd hxy hf
        go_wp2_with fail
        refine C.out.mono ?_
        rintro e w2 ⟨rfl, rfl⟩
        go_wp2
        go_ret
        exact ⟨ret_bool HF.out.symm, rfl⟩
    · obtain rfl : k = n := by omega
      have hf := HYES.out (by rw [← HN.out]; exact HT.out)
      have HF := Lib.hid hf
      clear hf
      go_wp2
      go_ret
      exact ⟨ret_bool HF.out.symm, rfl⟩
/-- told sectors, some at least, are the first of all -/
def firstB (p ss : List (List UInt8)) : Bool := decide (0 < p.length ∧ p <+: ss)
theorem firstB_len {p ss : List (List UInt8)} (h : ¬ p.length ≤ ss.length) : firstB p ss = false := decide_eq_false fun k => h k.2.length_le
theorem firstB_take {p ss : List (List UInt8)} (h0 : 0 < p.length) (_h : p.length ≤ ss.length) : firstB p ss = decide (p = ss.take p.length) := by
  unfold firstB
  rw [Bool.eq_iff_iff, decide_eq_true_eq, decide_eq_true_eq, List.prefix_iff_eq_take]
  exact ⟨fun h => h.2, fun h => ⟨h0, h⟩⟩
theorem areFirst_any (A B : Option Addr) (p ss : List (List UInt8)) (c d : Nat) (w : World) (h1 : RowsAt w A p) (h2 : RowsAt w B ss) (hl : p.length ≤ 1048576) (_hl2 : ss.length ≤ 1048576) (hd : ss.length ≤ d) (hd2 : d ≤ maxLen) :
    Calls Try.prog 69 #[.slice A p.length c, .slice B ss.length d] w fun e w' => e = .returned (.bool (firstB p ss)) ∧ w = w' := by
  have HD2 := Lib.hid hd2
  clear hd2
  by_cases h0 : 0 < p.length
  · by_cases hle : p.length ≤ ss.length
    · have C := Lib.hid (equalFunc_any A B p (ss.take p.length) c d w h1 (rows_take h2 _) hl (by rw [List.length_take]; omega))
      rw [show (ss.take p.length).length = p.length from by rw [List.length_take]; omega, ← firstB_take h0 hle] at C
      clear h1 h2
      generalize firstB p ss = q at *
      generalize p.length = n at *
      generalize ss.length = m at *
      go_enter Try.func69, Try.ntmps69
      go_wp2_with fail
      refine C.out.mono ?_
      rintro e w2 ⟨rfl, rfl⟩
      go_wp2
      go_ret
      exact ⟨rfl, rfl⟩
    · rw [firstB_len hle]
      clear h1 h2
      generalize p.length = n at *
      generalize ss.length = m at *
      go_enter Try.func69, Try.ntmps69
      go_wp2
      go_ret
      exact ⟨by first | rfl | (exact ret_bool (by simp; omega)), rfl⟩
  · have h0' : p.length = 0 := by omega
    have hf : firstB p ss = false := decide_eq_false fun k => h0 k.1
    rw [hf, h0']
    clear h1 h2 hf h0'
    generalize ss.length = m at *
    go_enter Try.func69, Try.ntmps69
    go_wp2
    go_ret
    exact ⟨by first | rfl | (exact ret_bool (by simp)), rfl⟩
end Go.Proofs.Ytapgpibindhlfaa.Entry
