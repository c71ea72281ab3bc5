/- merged: RebA, RebB, RebC, RebD, RebE, Equal, RebF, Rebuild -/
import Derived.Test.YtofhklimofdepaaMP
import Derived.Test.YtofhklimofdepaaMB
import Derived.Test.YtofhklimofdepaaLagr
import Derived.Test.YtofhklimofdepaaFlow
import Derived.Test.YtofhklimofdepaaStore
import Derived.Test.YtofhklimofdepaaMS
import Derived.Laws.EntriesVeiled
import Derived.Test.YtofhklimofdepaaMats

/- package rebuild: what may be wrong, closure by closure -/
set_option maxRecDepth 100000
namespace Go.Proofs.Ytofhklimofdepaa.Rebuild
open Go.RowKit PlanM StripeM DealM RebM Plan

theorem twice_any (A : Option Addr) (l : List UInt8) (c : Nat) (w : World) (h : BytesAt w A l) (hl : l.length ≤ 1099511627776) :
    Calls Try.prog 71 #[.slice A l.length c] w (Says w (.bool (!(LagrM.unl l)))) := by
  have hz := Lagr.zero_seen
  go_enter Try.func71, Try.ntmps71
  go_wp2
  clear hz
  go_loopw [8] (fun i wr => ∃ k : Nat, k ≤ l.length ∧ i = .int .i64 k ∧ (l.take k).Nodup ∧ Lagr.SeenAt wr w.heap.size (l.take k) ∧ Below w.heap.size w wr ∧ w.heap.size < wr.heap.size)
    (fun i _ => l.length - (intOf i).toNat)
  case atStart => exact ⟨0, Nat.zero_le _, rfl, List.nodup_nil, Lagr.SeenAt.start w, balloc _ _, by simp⟩
  case round =>
    obtain ⟨k, hk, rfl, hnd, hs, hb, hz⟩ := hrel
    by_cases hlt : k < l.length
    · obtain ⟨b, o, hA, e⟩ := h.below hb k hlt
      subst hA
      have hc := hs.at_ l[k].toNat l[k].toNat_lt
      have hf := hs.fr l[k].toNat
      have hst := hs.step hlt
      have h1 := LagrM.nodup_step hlt hnd
      have h2 := LagrM.unl_seen hlt
      have hbb : (0 : Int) ≤ (l[k].toNat : Int) ∧ (l[k].toNat : Int) < 256 := u8_wf _
      have H1 := Lib.hid h1; have H2 := Lib.hid h2; have HST := Lib.hid hst
      clear h1 h2 hst hs hnd h
      generalize LagrM.seen (l.take k) l[k].toNat = v at *
      cases v
      · have hn := H1.out rfl
        have HN := Lib.hid hn
        clear hn
        go_wp2
        go_roundw
        case rel => exact ⟨k + 1, by omega, by go_num, HN.out, HST.out, hb.setCell (Nat.le_refl _) _, by simpa using hz⟩
        case measure => simp [intOf] <;> omega
      · have hn := H2.out rfl
        have HN := Lib.hid hn
        clear hn
        go_wp2
        go_ret
        exact ⟨ret_bool (by rw [HN.out]; rfl), hb⟩
    · obtain rfl : k = l.length := by omega
      rw [List.take_length] at hnd
      have hu := (LagrM.unl_iff l).2 hnd
      have HU := Lib.hid hu
      clear hu hnd hs
      go_wp2
      go_ret
      exact ⟨ret_bool (by rw [HU.out]; rfl), hb⟩

/-- a cell holds this -/
structure Cel (w : World) (g : Nat) (v : Value) : Prop where
  mk ::
  c : w.cell? ⟨g, 0, none⟩ = some v
theorem Cel.below {w w' : World} {g : Nat} {v : Value} (h : Cel w g v) (hb : Below w.heap.size w w') : w'.cell? ⟨g, 0, none⟩ = some v := (hb.cell (p := ⟨g, 0, none⟩) (cell_lt h.c)).trans h.c

/-- is one of them no custodian? -/
def noIs (p : P) (who : List Int) : Bool := who.any fun i => !(p.isA i)
theorem noIs_yes {p : P} {who : List Int} {i : Nat} (hi : i < who.length) (h : p.isA who[i] = false) : noIs p who = true := by
  unfold noIs
  rw [List.any_eq_true]
  exact ⟨who[i], List.getElem_mem hi, by rw [h]; rfl⟩
theorem noIs_no {p : P} {who : List Int} (h : ∀ i, (hi : i < who.length) → p.isA who[i] = true) : noIs p who = false := by
  unfold noIs
  rw [List.any_eq_false]
  intro x hx
  obtain ⟨i, hi, rfl⟩ := List.mem_iff_getElem.mp hx
  rw [h i hi]; simp
theorem is1_any (g : Nat) (p : P) (i : Int) (w : World) (hp : p.In) (hi : In64 i) (hs : Six w g p) :
    Calls Try.prog 68 #[.int .i64 i, .pointer (some ⟨g, 0, none⟩)] w (Says w (.bool (!(p.isA i)))) := by
  have hI := fun V => Plan.is_any p i V hp hi
  generalize p.isA i = v at *
  clear hp
  obtain ⟨pN, pT, pL, pW, pS, pR⟩ := p
  unfold P.val at hI
  have HI := Lib.hid hI
  have c0 := hs.c0; have c1 := hs.c1; have c2 := hs.c2; have c3 := hs.c3; have c4 := hs.c4; have c5 := hs.c5
  simp only at c0 c1 c2 c3 c4 c5
  clear hs hI
  go_enter Try.func68, Try.ntmps68
  go_wp2_with fail
  refine (HI.out _).mono ?_
  rintro e w1 ⟨rfl, hb1⟩
  clear c0 c1 c2 c3 c4 c5
  cases v
  all_goals
    go_wp2
    go_ret
    exact ⟨rfl, hb1⟩

theorem indexI_any (A : Option Addr) (who : List Int) (c g : Nat) (p : P) (w : World) (hp : p.In) (hs : Six w g p) (h : IntsAt w A who) (hm : who.length ≤ 1048576) (hi : ∀ x ∈ who, In64 x) :
    Calls Try.prog 89 #[.slice A who.length c, .func (.func 68) #[] #[.pointer (some ⟨g, 0, none⟩)]] w fun e w' => (∃ r : Int, e = .returned (.int .i64 r) ∧ decide (0 ≤ r) = noIs p who) ∧ Below w.heap.size w w' := by
  have HS := Lib.hid hs; have H := Lib.hid h
  have HC := Lib.hid (fun i V (hi : In64 i) (hs : Six V g p) => is1_any g p i V hp hi hs)
  have HI := Lib.hid hi
  clear hs h hi hp
  go_enter Try.func89, Try.ntmps89
  go_wp2
  go_loopw [8] (fun i wr => ∃ k : Nat, k ≤ who.length ∧ i = .int .i64 k ∧ Below w.heap.size w wr ∧ ∀ j, (hj : j < who.length) → j < k → p.isA who[j] = true)
    (fun i _ => who.length - (intOf i).toNat)
  case atStart => exact ⟨0, Nat.zero_le _, rfl, Below.refl _ _, fun j _ h => by omega⟩
  case round =>
    obtain ⟨k, hk, rfl, hb, hall⟩ := hrel
    rename World => wr
    have HALL := Lib.hid hall; have HB := Lib.hid hb
    clear hall hb
    by_cases hlt : k < who.length
    · obtain ⟨b, o, rfl, e0⟩ := (H.out.below HB.out).at hlt
      have hin := HI.out who[k] (List.getElem_mem hlt)
      have hC := HC.out who[k] wr hin (HS.out.below HB.out)
      obtain ⟨v, hv⟩ : ∃ v, v = p.isA who[k] := ⟨_, rfl⟩
      rw [← hv] at hC
      have HV := Lib.hid hv; have HC2 := Lib.hid hC
      clear hv hC hin
      cases v
      · go_wp2_with fail
        refine HC2.out.mono ?_
        rintro e w' ⟨rfl, hb'⟩
        go_wp2
        go_ret
        exact ⟨⟨k, rfl, by rw [noIs_yes hlt HV.out.symm]; simp⟩, bstep HB.out hb'⟩
      · go_wp2_with fail
        refine HC2.out.mono ?_
        rintro e w' ⟨rfl, hb'⟩
        go_wp2
        go_roundw
        case rel =>
          refine ⟨k + 1, by omega, by go_num, bstep HB.out hb', fun j hj hjk => ?_⟩
          by_cases e : j = k
          · subst e; exact HV.out.symm
          · exact HALL.out j hj (by omega)
        case measure => simp [intOf] <;> omega
    · obtain rfl : k = who.length := by omega
      go_wp2
      go_ret
      exact ⟨⟨-1, rfl, by rw [noIs_no fun i hi => HALL.out i hi hi]; rfl⟩, HB.out⟩

theorem containsI_any (A : Option Addr) (who : List Int) (c g : Nat) (p : P) (w : World) (hp : p.In) (hs : Six w g p) (h : IntsAt w A who) (hm : who.length ≤ 1048576) (hi : ∀ x ∈ who, In64 x) :
    Calls Try.prog 67 #[.slice A who.length c, .func (.func 68) #[] #[.pointer (some ⟨g, 0, none⟩)]] w (Says w (.bool (noIs p who))) := by
  have hC := indexI_any A who c g p w hp hs h hm hi
  clear hs h hp hi
  generalize noIs p who = al at *
  have HC := Lib.hid hC
  clear hC
  go_enter Try.func67, Try.ntmps67
  go_wp2_with fail
  refine HC.out.mono ?_
  rintro e w' ⟨⟨r, rfl, hr⟩, hb⟩
  rcases al with _ | _
  · have h0 : ¬ 0 ≤ r := of_decide_eq_false hr
    clear hr
    go_wp2
    go_ret
    exact ⟨by first | (simp; done) | (simp; omega), hb⟩
  · have h0 : 0 ≤ r := of_decide_eq_true hr
    clear hr
    go_wp2
    go_ret
    exact ⟨by first | (simp; done) | (simp; omega), hb⟩

/-- is each of n bytes? -/
def allN (n : Int) (sh : List (List UInt8)) : Bool := sh.all fun s => decide ((s.length : Int) = n)
theorem allN_no {m : List (List UInt8)} {n : Int} {i : Nat} (hi : i < m.length) (h : ¬ (m[i].length : Int) = n) : allN n m = false := by
  unfold allN
  rw [List.all_eq_false]
  exact ⟨m[i], List.getElem_mem hi, by simpa using h⟩
theorem allN_yes {m : List (List UInt8)} {n : Int} (h : ∀ i, (hi : i < m.length) → (m[i].length : Int) = n) : allN n m = true := by
  unfold allN
  refine List.all_eq_true.mpr fun r hr => ?_
  obtain ⟨i, hi, rfl⟩ := List.mem_iff_getElem.mp hr
  exact decide_eq_true (h i hi)
theorem have1_any (B : Option Addr) (n c g : Nat) (L : Int) (w : World) (hs : w.cell? ⟨g, 0, none⟩ = some (.int .i64 L)) :
    Calls Try.prog 93 #[.slice B n c, .pointer (some ⟨g, 0, none⟩)] w fun e w' => e = .returned (.bool (!(decide ((n : Int) = L)))) ∧ w = w' := by
  by_cases h : (n : Int) = L
  · subst h
    rw [decide_eq_true rfl]
    go_enter Try.func93, Try.ntmps93
    go_wp2
    go_ret
    exact ⟨rfl, rfl⟩
  · rw [decide_eq_false h]
    go_enter Try.func93, Try.ntmps93
    go_wp2
    go_ret
    exact ⟨by simp [h], rfl⟩
theorem indexR_any (A : Option Addr) (m : List (List UInt8)) (c g : Nat) (L : Int) (w : World) (hs : w.cell? ⟨g, 0, none⟩ = some (.int .i64 L)) (h : RowsAt w A m) (hm : m.length ≤ 1048576) :
    Calls Try.prog 101 #[.slice A m.length c, .func (.func 93) #[] #[.pointer (some ⟨g, 0, none⟩)]] w fun e w' => (∃ r : Int, e = .returned (.int .i64 r) ∧ decide (0 ≤ r) = !(allN L m)) ∧ w = w' := by
  have H := Lib.hid h
  have HC := Lib.hid (fun B n c => have1_any B n c g L w hs)
  clear hs h
  go_enter Try.func101, Try.ntmps101
  go_wp2
  go_loopw [8] (fun i wr => ∃ k : Nat, k ≤ m.length ∧ i = .int .i64 k ∧ w = wr ∧ ∀ j, (hj : j < m.length) → j < k → (m[j].length : Int) = L)
    (fun i _ => m.length - (intOf i).toNat)
  case atStart => exact ⟨0, Nat.zero_le _, rfl, rfl, fun j _ h => by omega⟩
  case round =>
    obtain ⟨k, hk, rfl, rfl, hall⟩ := hrel
    have HALL := Lib.hid hall
    clear hall
    by_cases hlt : k < m.length
    · obtain ⟨b, o, B, d, rfl, e0, hd1, hd2, _⟩ := H.out.row hlt
      obtain ⟨n, hn⟩ : ∃ n, n = m[k].length := ⟨_, rfl⟩
      rw [← hn] at e0 hd1
      have HN := Lib.hid hn
      clear hn
      have hC := HC.out B n d
      by_cases hnl : (n : Int) = L
      · rw [decide_eq_true hnl] at hC
        have HC2 := Lib.hid hC
        have HNL := Lib.hid hnl
        clear hC hnl
        go_wp2_with fail
        refine HC2.out.mono ?_
        rintro e w' ⟨rfl, rfl⟩
        go_wp2
        go_roundw
        case rel =>
          refine ⟨k + 1, by omega, by go_num, by first | trivial | rfl, fun j hj hjk => ?_⟩
          by_cases e : j = k
          · subst e; rw [← HN.out]; exact HNL.out
          · exact HALL.out j hj (by omega)
        case measure => simp [intOf] <;> omega
      · rw [decide_eq_false hnl] at hC
        have HC2 := Lib.hid hC
        have HNL := Lib.hid hnl
        clear hC hnl
        go_wp2_with fail
        refine HC2.out.mono ?_
        rintro e w' ⟨rfl, rfl⟩
        go_wp2
        go_ret
        exact ⟨⟨k, rfl, by rw [allN_no hlt (by rw [← HN.out]; exact HNL.out)]; simp⟩, rfl⟩
    · obtain rfl : k = m.length := by omega
      go_wp2
      go_ret
      exact ⟨⟨-1, rfl, by rw [allN_yes fun i hi => HALL.out i hi hi]; rfl⟩, rfl⟩
theorem containsR_any (A : Option Addr) (m : List (List UInt8)) (c g : Nat) (L : Int) (w : World) (hs : w.cell? ⟨g, 0, none⟩ = some (.int .i64 L)) (h : RowsAt w A m) (hm : m.length ≤ 1048576) :
    Calls Try.prog 92 #[.slice A m.length c, .func (.func 93) #[] #[.pointer (some ⟨g, 0, none⟩)]] w fun e w' => e = .returned (.bool (!(allN L m))) ∧ w = w' := by
  have hC := indexR_any A m c g L w hs h hm
  clear hs h
  generalize allN L m = al at *
  have HC := Lib.hid hC
  clear hC
  go_enter Try.func92, Try.ntmps92
  go_wp2_with fail
  refine HC.out.mono ?_
  rintro e w' ⟨⟨r, rfl, hr⟩, rfl⟩
  rcases al with _ | _
  · have h0 : 0 ≤ r := of_decide_eq_true hr
    clear hr
    go_wp2
    go_ret
    exact ⟨by first | (simp; done) | (simp; omega), rfl⟩
  · have h0 : ¬ 0 ≤ r := of_decide_eq_false hr
    clear hr
    go_wp2
    go_ret
    exact ⟨by first | (simp; done) | (simp; omega), rfl⟩
theorem allHave_any (A : Option Addr) (m : List (List UInt8)) (c : Nat) (L : Int) (w : World) (h : RowsAt w A m) (hm : m.length ≤ 1048576) :
    Calls Try.prog 75 #[.int .i64 L, .slice A m.length c] w (Says w (.bool (allN L m))) := by
  have hb := balloc w (.cells #[.int .i64 L] 3)
  have HC := Lib.hid (containsR_any A m c w.heap.size L (w.alloc (.cells #[.int .i64 L] 3)) (by simp) (h.below hb) hm)
  clear h
  generalize allN L m = al at *
  go_enter Try.func75, Try.ntmps75
  go_wp2_with fail
  refine HC.out.mono ?_
  rintro e w' ⟨rfl, rfl⟩
  cases al
  all_goals
    go_wp2
    go_ret
    exact ⟨rfl, hb⟩

theorem w1_any (g : Nat) (p : P) (w : World) (hp : p.In) (hs : Six w g p) :
    Calls Try.prog 64 #[.pointer (some ⟨g, 0, none⟩)] w (Says w (.bool (!p.right))) := by
  have hI := fun V => Plan.right_any p V hp
  generalize p.right = v at *
  clear hp
  obtain ⟨pN, pT, pL, pW, pS, pR⟩ := p
  unfold P.val at hI
  have HI := Lib.hid hI
  have c0 := hs.c0; have c1 := hs.c1; have c2 := hs.c2; have c3 := hs.c3; have c4 := hs.c4; have c5 := hs.c5
  simp only at c0 c1 c2 c3 c4 c5
  clear hs hI
  go_enter Try.func64, Try.ntmps64
  go_wp2_with fail
  refine (HI.out _).mono ?_
  rintro e w1 ⟨rfl, hb1⟩
  clear c0 c1 c2 c3 c4 c5
  cases v
  all_goals
    go_wp2
    go_ret
    exact ⟨rfl, hb1⟩
theorem w2_any (g : Nat) (size : Int) (w : World) (hs : w.cell? ⟨g, 0, none⟩ = some (.int .i64 size)) :
    Calls Try.prog 65 #[.pointer (some ⟨g, 0, none⟩)] w (Says w (.bool (decide (size < 0) || decide (240 < size)))) := by
  by_cases h1 : size < 0
  · go_enter Try.func65, Try.ntmps65
    go_wp2
    go_ret
    exact ⟨by simp [h1], Below.refl _ _⟩
  · by_cases h2 : 240 < size
    · go_enter Try.func65, Try.ntmps65
      go_wp2
      go_ret
      exact ⟨by simp, Below.refl _ _⟩
    · go_enter Try.func65, Try.ntmps65
      go_wp2
      go_ret
      exact ⟨by simp [h1, h2], Below.refl _ _⟩
theorem w3_any (A : Option Addr) (who : List Int) (c gw g : Nat) (p : P) (w : World) (hp : p.In) (hw : w.cell? ⟨gw, 0, none⟩ = some (.slice A who.length c)) (hs : Six w g p) (h : IntsAt w A who) (hm : who.length ≤ 1048576) (hi : ∀ x ∈ who, In64 x) :
    Calls Try.prog 66 #[.pointer (some ⟨gw, 0, none⟩), .pointer (some ⟨g, 0, none⟩)] w (Says w (.bool (noIs p who))) := by
  have HC := Lib.hid (containsI_any A who c g p w hp hs h hm hi)
  clear hs h hp hi
  generalize noIs p who = al at *
  go_enter Try.func66, Try.ntmps66
  go_wp2_with fail
  refine HC.out.mono ?_
  rintro e w' ⟨rfl, hb⟩
  go_wp2
  go_ret
  exact ⟨rfl, hb⟩
theorem w4_any (A : Option Addr) (who : List Int) (c gw : Nat) (w : World) (hw : w.cell? ⟨gw, 0, none⟩ = some (.slice A who.length c)) (h : IntsAt w A who) (hm : who.length ≤ 1048576) (hc : who.length ≤ c) (hc2 : c ≤ maxLen) (hi : ∀ x ∈ who, In64 x) :
    Calls Try.prog 70 #[.pointer (some ⟨gw, 0, none⟩)] w (Says w (.bool (!(LagrM.unl (points who))))) := by
  have HC := Lib.hid ((Plan.points_any A who c w h hm hc hc2 hi).mono fun _ _ h => RetOwn.new h)
  have HT := Lib.hid (fun X d V (h : BytesAt V X (points who)) => twice_any X (points who) d V h (by rw [points_len]; omega))
  clear h hi hc2 hc
  generalize points who = ps at *
  go_enter Try.func70, Try.ntmps70
  go_wp2_with fail
  refine HC.out.mono ?_
  rintro e w1 ⟨X, d, rfl, _, _, hX, hb1, _⟩
  have C := HT.out X d w1 hX
  clear hX hw
  generalize LagrM.unl ps = u at *
  go_wp2_with fail
  refine C.mono ?_
  rintro e w2 ⟨rfl, hb2⟩
  go_wp2
  go_ret
  exact ⟨rfl, bstep hb1 hb2⟩
theorem w5_any (A : Option Addr) (n c gw g : Nat) (p : P) (w : World) (hp : p.In) (hw : w.cell? ⟨gw, 0, none⟩ = some (.slice A n c)) (hs : Six w g p) :
    Calls Try.prog 72 #[.pointer (some ⟨gw, 0, none⟩), .pointer (some ⟨g, 0, none⟩)] w (Says w (.bool (decide ((n : Int) < p.needA)))) := by
  have hI := fun V => Plan.need_any p V hp
  generalize p.needA = v at *
  clear hp
  have HS := Lib.hid hs
  obtain ⟨pN, pT, pL, pW, pS, pR⟩ := p
  unfold P.val at hI
  have HI := Lib.hid hI
  have HW := Lib.hid (Cel.mk hw)
  clear hs hI hw
  go_enter Try.func72, Try.ntmps72
  go_wp2_with fail
  --FLOW5--
  refine Drawn.wp_region_flowL 6 [Drawn.SP.is (.slice A n c), Drawn.SP.is (.int .i64 (n : Nat)), Drawn.SP.is (.agg #[.int .i64 pN, .int .i64 pT, .int .i64 pL, .int .i64 pW, .int .i64 pS, .int .i64 pR]), Drawn.SP.is (.int .i64 v), Drawn.SP.is (.bool (decide ((n : Int) < v))), Drawn.SP.is (.bool (decide ((n : Int) < v)))] (by kernel_rfl) (by kernel_rfl) ?_ ?_
  · intro i hi a w1 hb hev hdep
    rcases (show i = 0 ∨ i = 1 ∨ i = 2 ∨ i = 3 ∨ i = 4 ∨ i = 5 by omega) with rfl | rfl | rfl | rfl | rfl | rfl
    · have e0 : a.tmps[0]?.getD undef = .pointer (some ⟨gw, 0, none⟩) := hev 0 rfl
      refine Drawn.wpOp_flow 3 rfl rfl rfl ?_
      have c0 := (HS.out.below hb).c0; have c1 := (HS.out.below hb).c1; have c2 := (HS.out.below hb).c2; have c3 := (HS.out.below hb).c3; have c4 := (HS.out.below hb).c4; have c5 := (HS.out.below hb).c5
      simp only at c0 c1 c2 c3 c4 c5
      have d0 := HW.out.below hb
      clear hev hdep hb
      go_simp
      exact ⟨_, rfl, rfl, Below.refl _ _⟩
    · have d0 : a.tmps[3]?.getD undef = .slice A n c := hdep 0 rfl
      refine Drawn.wpOp_flow 4 rfl rfl rfl ?_
      clear hev hdep hb
      go_simp
      exact ⟨_, rfl, rfl, Below.refl _ _⟩
    · have e1 : a.tmps[1]?.getD undef = .pointer (some ⟨g, 0, none⟩) := hev 1 rfl
      refine Drawn.wpOp_flow 5 rfl rfl rfl ?_
      have c0 := (HS.out.below hb).c0; have c1 := (HS.out.below hb).c1; have c2 := (HS.out.below hb).c2; have c3 := (HS.out.below hb).c3; have c4 := (HS.out.below hb).c4; have c5 := (HS.out.below hb).c5
      simp only at c0 c1 c2 c3 c4 c5
      have d0 := HW.out.below hb
      clear hev hdep hb
      go_simp
      exact ⟨_, rfl, rfl, Below.refl _ _⟩
    · have d2 : a.tmps[5]?.getD undef = .agg #[.int .i64 pN, .int .i64 pT, .int .i64 pL, .int .i64 pW, .int .i64 pS, .int .i64 pR] := hdep 2 rfl
      refine Drawn.wpOp_flow 6 rfl rfl rfl ?_
      clear hev hdep
      go_simp
      refine (HI.out w1).mono ?_
      rintro e w' ⟨rfl, hb'⟩
      exact ⟨_, rfl, rfl, hb'⟩
    · have d1 : a.tmps[4]?.getD undef = .int .i64 (n : Nat) := hdep 1 rfl
      have d3 : a.tmps[6]?.getD undef = .int .i64 v := hdep 3 rfl
      refine Drawn.wpOp_flow 7 rfl rfl rfl ?_
      clear hev hdep hb
      go_simp
      exact ⟨_, rfl, rfl, Below.refl _ _⟩
    · have d4 : a.tmps[7]?.getD undef = .bool (decide ((n : Int) < v)) := hdep 4 rfl
      refine Drawn.wpOp_flow 2 rfl rfl rfl ?_
      clear hev hdep hb
      go_simp
      exact ⟨_, rfl, rfl, Below.refl _ _⟩
  · intro xq w1 hb hxq
    have vq0 : xq 0 = .slice A n c := hxq 0 (by omega)
    have vq1 : xq 1 = .int .i64 (n : Nat) := hxq 1 (by omega)
    have vq2 : xq 2 = .agg #[.int .i64 pN, .int .i64 pT, .int .i64 pL, .int .i64 pW, .int .i64 pS, .int .i64 pR] := hxq 2 (by omega)
    have vq3 : xq 3 = .int .i64 v := hxq 3 (by omega)
    have vq4 : xq 4 = .bool (decide ((n : Int) < v)) := hxq 4 (by omega)
    have vq5 : xq 5 = .bool (decide ((n : Int) < v)) := hxq 5 (by omega)
    show Exit.then _ _ Exit.normal (Drawn.acts _ [(2, some (xq 5)), (7, some (xq 4)), (6, some (xq 3)), (5, some (xq 2)), (4, some (xq 1)), (3, some (xq 0))]) _
    rw [vq0, vq1, vq2, vq3, vq4, vq5]
    clear hxq vq0 vq1 vq2 vq3 vq4 vq5
    clear xq
    simp only [Drawn.acts]
    go_simp
  --END5--
    go_wp2
    go_ret
    exact ⟨rfl, hb⟩
theorem w6_any (A B : Option Addr) (n c m d gs gw : Nat) (w : World) (hm : w.cell? ⟨gs, 0, none⟩ = some (.slice B m d)) (hw : w.cell? ⟨gw, 0, none⟩ = some (.slice A n c)) :
    Calls Try.prog 73 #[.pointer (some ⟨gs, 0, none⟩), .pointer (some ⟨gw, 0, none⟩)] w (Says w (.bool (!(decide (m = n))))) := by
  by_cases h : m = n
  · subst h
    rw [decide_eq_true rfl]
    go_enter Try.func73, Try.ntmps73
    go_wp2
    go_ret
    exact ⟨rfl, Below.refl _ _⟩
  · rw [decide_eq_false h]
    have h2 : ¬ (m : Int) = n := by omega
    go_enter Try.func73, Try.ntmps73
    go_wp2
    go_ret
    exact ⟨by first | rfl | (simp [h2]; done) | (simp [h]; omega), Below.refl _ _⟩
theorem w7_any (B : Option Addr) (sh : List (List UInt8)) (d g gz gs : Nat) (p : P) (size : Int) (w : World) (hp : p.In) (hz : In64 size) (hs : Six w g p) (h1 : w.cell? ⟨gz, 0, none⟩ = some (.int .i64 size)) (h2 : w.cell? ⟨gs, 0, none⟩ = some (.slice B sh.length d)) (h : RowsAt w B sh) (hm : sh.length ≤ 1048576) :
    Calls Try.prog 74 #[.pointer (some ⟨g, 0, none⟩), .pointer (some ⟨gz, 0, none⟩), .pointer (some ⟨gs, 0, none⟩)] w (Says w (.bool (!(allN (p.stripesA size) sh)))) := by
  have hI := fun V => Plan.stripes_any p size V hp hz
  have hA := fun V (h : RowsAt V B sh) => allHave_any B sh d (p.stripesA size) V h hm
  generalize p.stripesA size = v at *
  generalize allN v sh = al at *
  clear hp
  have HS := Lib.hid hs; have HZ := Lib.hid (Cel.mk h1); have HW := Lib.hid (Cel.mk h2); have H := Lib.hid h; have HA := Lib.hid hA
  clear hs h1 h2 h hA
  obtain ⟨sl, hsl⟩ : ∃ sl, sl = sh.length := ⟨_, rfl⟩
  rw [← hsl] at HA HW
  clear hsl hm
  obtain ⟨pN, pT, pL, pW, pS, pR⟩ := p
  unfold P.val at hI
  have HI := Lib.hid hI
  clear hI hz
  go_enter Try.func74, Try.ntmps74
  go_wp2_with fail
  --FLOW7--
  refine Drawn.wp_region_flowL 7 [Drawn.SP.is (.agg #[.int .i64 pN, .int .i64 pT, .int .i64 pL, .int .i64 pW, .int .i64 pS, .int .i64 pR]), Drawn.SP.is (.int .i64 size), Drawn.SP.is (.int .i64 v), Drawn.SP.is (.slice B sl d), Drawn.SP.is (.bool al), Drawn.SP.is (.bool (!al)), Drawn.SP.is (.bool (!al))] (by kernel_rfl) (by kernel_rfl) ?_ ?_
  · intro i hi a w1 hb hev hdep
    rcases (show i = 0 ∨ i = 1 ∨ i = 2 ∨ i = 3 ∨ i = 4 ∨ i = 5 ∨ i = 6 by omega) with rfl | rfl | rfl | rfl | rfl | rfl | rfl
    · have e0 : a.tmps[0]?.getD undef = .pointer (some ⟨g, 0, none⟩) := hev 0 rfl
      refine Drawn.wpOp_flow 4 rfl rfl rfl ?_
      have c0 := (HS.out.below hb).c0; have c1 := (HS.out.below hb).c1; have c2 := (HS.out.below hb).c2; have c3 := (HS.out.below hb).c3; have c4 := (HS.out.below hb).c4; have c5 := (HS.out.below hb).c5
      simp only at c0 c1 c2 c3 c4 c5
      have d0 := HZ.out.below hb
      have d1 := HW.out.below hb
      clear hev hdep hb
      go_simp
      exact ⟨_, rfl, rfl, Below.refl _ _⟩
    · have e1 : a.tmps[1]?.getD undef = .pointer (some ⟨gz, 0, none⟩) := hev 1 rfl
      refine Drawn.wpOp_flow 5 rfl rfl rfl ?_
      have c0 := (HS.out.below hb).c0; have c1 := (HS.out.below hb).c1; have c2 := (HS.out.below hb).c2; have c3 := (HS.out.below hb).c3; have c4 := (HS.out.below hb).c4; have c5 := (HS.out.below hb).c5
      simp only at c0 c1 c2 c3 c4 c5
      have d0 := HZ.out.below hb
      have d1 := HW.out.below hb
      clear hev hdep hb
      go_simp
      exact ⟨_, rfl, rfl, Below.refl _ _⟩
    · have d0 : a.tmps[4]?.getD undef = .agg #[.int .i64 pN, .int .i64 pT, .int .i64 pL, .int .i64 pW, .int .i64 pS, .int .i64 pR] := hdep 0 rfl
      have d1 : a.tmps[5]?.getD undef = .int .i64 size := hdep 1 rfl
      refine Drawn.wpOp_flow 6 rfl rfl rfl ?_
      clear hev hdep
      go_simp
      refine (HI.out w1).mono ?_
      rintro e w' ⟨rfl, hb'⟩
      exact ⟨_, rfl, rfl, hb'⟩
    · have e2 : a.tmps[2]?.getD undef = .pointer (some ⟨gs, 0, none⟩) := hev 2 rfl
      refine Drawn.wpOp_flow 7 rfl rfl rfl ?_
      have c0 := (HS.out.below hb).c0; have c1 := (HS.out.below hb).c1; have c2 := (HS.out.below hb).c2; have c3 := (HS.out.below hb).c3; have c4 := (HS.out.below hb).c4; have c5 := (HS.out.below hb).c5
      simp only at c0 c1 c2 c3 c4 c5
      have d0 := HZ.out.below hb
      have d1 := HW.out.below hb
      clear hev hdep hb
      go_simp
      exact ⟨_, rfl, rfl, Below.refl _ _⟩
    · have d2 : a.tmps[6]?.getD undef = .int .i64 v := hdep 2 rfl
      have d3 : a.tmps[7]?.getD undef = .slice B sl d := hdep 3 rfl
      refine Drawn.wpOp_flow 8 rfl rfl rfl ?_
      clear hev hdep
      go_simp
      refine (HA.out w1 (H.out.below hb)).mono ?_
      rintro e w' ⟨rfl, hb'⟩
      exact ⟨_, rfl, rfl, hb'⟩
    · have d4 : a.tmps[8]?.getD undef = .bool al := hdep 4 rfl
      refine Drawn.wpOp_flow 9 rfl rfl rfl ?_
      clear hev hdep hb
      go_simp
      exact ⟨_, rfl, rfl, Below.refl _ _⟩
    · have d5 : a.tmps[9]?.getD undef = .bool (!al) := hdep 5 rfl
      refine Drawn.wpOp_flow 3 rfl rfl rfl ?_
      clear hev hdep hb
      go_simp
      exact ⟨_, rfl, rfl, Below.refl _ _⟩
  · intro xq w1 hb hxq
    have vq0 : xq 0 = .agg #[.int .i64 pN, .int .i64 pT, .int .i64 pL, .int .i64 pW, .int .i64 pS, .int .i64 pR] := hxq 0 (by omega)
    have vq1 : xq 1 = .int .i64 size := hxq 1 (by omega)
    have vq2 : xq 2 = .int .i64 v := hxq 2 (by omega)
    have vq3 : xq 3 = .slice B sl d := hxq 3 (by omega)
    have vq4 : xq 4 = .bool al := hxq 4 (by omega)
    have vq5 : xq 5 = .bool (!al) := hxq 5 (by omega)
    have vq6 : xq 6 = .bool (!al) := hxq 6 (by omega)
    show Exit.then _ _ Exit.normal (Drawn.acts _ [(3, some (xq 6)), (9, some (xq 5)), (8, some (xq 4)), (7, some (xq 3)), (6, some (xq 2)), (5, some (xq 1)), (4, some (xq 0))]) _
    rw [vq0, vq1, vq2, vq3, vq4, vq5, vq6]
    clear hxq vq0 vq1 vq2 vq3 vq4 vq5 vq6
    clear xq
    simp only [Drawn.acts]
    go_simp
  --END7--
    go_wp2
    go_ret
    exact ⟨rfl, hb⟩
end Go.Proofs.Ytofhklimofdepaa.Rebuild

/- package rebuild: what a stripe's polynomial tells at some points -/
set_option maxRecDepth 100000
namespace Go.Proofs.Ytofhklimofdepaa.Rebuild
open Go.RowKit PlanM StripeM DealM RebM Plan

/-- the bytes at one place of some rows -/
def col (m : List (List UInt8)) (k : Nat) : List UInt8 := m.map fun r => PolyM.co r k
theorem col_len (m : List (List UInt8)) (k : Nat) : (col m k).length = m.length := by simp [col]
theorem col_get (m : List (List UInt8)) (k i : Nat) (hi : i < m.length) (hk : k < m[i].length) : (col m k)[i]'(by rw [col_len]; exact hi) = m[i][k] := by
  unfold col; rw [List.getElem_map, PolyM.co_get _ _ hk]

theorem column_any (A : Option Addr) (m : List (List UInt8)) (c k : Nat) (w : World) (h : RowsAt w A m) (hm : m.length ≤ 1048576) (hk : ∀ i, (hi : i < m.length) → k < m[i].length) :
    Calls Try.prog 49 #[.slice A m.length c, .int .i64 (k : Nat)] w (RetOwn w (col m k)) := by
  obtain ⟨out, hout⟩ : ∃ out, out = col m k := ⟨_, rfl⟩
  have hol : out.length = m.length := by rw [hout, col_len]
  have hst : ∀ i, (hi : i < m.length) → (fillTo 0 out i).set i (PolyM.co m[i] k) = fillTo 0 out (i + 1) := fun i hi => by
    have := fillTo_succ 0 out (k := i) (by omega)
    rw [← this]; congr 1
    subst hout
    unfold col; rw [List.getElem_map]
  have hfl : ∀ i, i ≤ m.length → (fillTo 0 out i).length = m.length := fun i hi => by rw [fillTo_len 0 out (by omega), hol]
  have hf0 : fillTo 0 out 0 = List.replicate m.length 0 := by rw [fillTo_zero, hol]
  have hfd : fillTo 0 out m.length = out := by rw [← hol, fillTo_done]
  rw [← hout]
  obtain ⟨n, hn⟩ : ∃ n, n = m.length := ⟨_, rfl⟩
  have hmk := fun W => make_u8 n (by omega) W
  have H := Lib.hid h; have HST := Lib.hid hst; have HFL := Lib.hid hfl; have HF0 := Lib.hid hf0; have HFD := Lib.hid hfd; have HK := Lib.hid hk; have HN := Lib.hid hn; have HOL := Lib.hid hol
  rw [← hn] at hm ⊢
  clear h hst hfl hf0 hfd hk hn hol hout
  go_enter Try.func49, Try.ntmps49
  go_wp2
  clear hmk
  go_loopw [13] (fun i wr => ∃ j : Nat, j ≤ n ∧ i = .int .i64 j ∧ Row wr w.heap.size (fillTo 0 out j) ∧ Below w.heap.size w wr)
    (fun i _ => n - (intOf i).toNat)
  case atStart => exact ⟨0, Nat.zero_le _, rfl, by rw [HF0.out, ← HN.out]; exact Row.new _ _, (Below.refl _ _).alloc (Nat.le_refl _) _⟩
  case round =>
    obtain ⟨j, hj, rfl, hr, hb⟩ := hrel
    rename World => wr
    by_cases hlt : j < n
    · have hjm : j < m.length := by rw [← HN.out]; exact hlt
      obtain ⟨b, o, B, d, rfl, e0, hd1, hd2, hB⟩ := (H.out.below hb).row hjm
      have hkj := HK.out j hjm
      obtain ⟨b2, o2, rfl, e1⟩ := hB k hkj
      have hs := HST.out j hjm
      rw [PolyM.co_get _ _ hkj] at hs
      obtain ⟨z, hz⟩ : ∃ z, z = m[j][k] := ⟨_, rfl⟩
      rw [← hz] at e1 hs
      have HS := Lib.hid hs
      clear hz hs
      obtain ⟨rl, hrl⟩ : ∃ rl, rl = m[j].length := ⟨_, rfl⟩
      rw [← hrl] at e0 hd1 hkj
      have hlen := HFL.out j (by rw [← HN.out]; exact hj)
      rw [← HN.out] at hlen
      obtain ⟨y, hc⟩ : ∃ y, wr.cell? ⟨w.heap.size, j, none⟩ = some y := ⟨_, hr.cell j (by rw [hlen]; exact hlt)⟩
      have hf := hr.frozen j
      have HR := Lib.hid hr
      have hzz := hr.lt
      unfold maxLen at hd2
      clear hB hr hjm hrl hlen
      go_wp2
      go_roundw
      case rel =>
        refine ⟨j + 1, by omega, by go_num, ?_, ?_⟩
        · rw [← HS.out]; exact HR.out.set j _
        · exact hb.setCell (Nat.le_refl _) _
      case measure => simp [intOf] <;> omega
    · obtain rfl : j = n := by omega
      have HR := Lib.hid hr
      clear hr
      go_wp2
      go_ret
      have hr := HR.out
      rw [HN.out, HFD.out] at hr
      have := own_row hr (Nat.le_refl w.heap.size) (by rw [HOL.out, ← HN.out]; unfold maxLen; omega)
      rw [HOL.out, ← HN.out] at this
      exact ret_own this hb

/-- what a stripe's teller has captured -/
structure VA (w : World) (gs gn gp gf gw b0 : Nat) (A P X : Option Addr) (sh : List (List UInt8)) (u nd pl dp : Nat) (wts : List (List UInt8)) (dx : Nat) : Prop where
  s : w.cell? ⟨gs, 0, none⟩ = some (.slice A sh.length u)
  n : w.cell? ⟨gn, 0, none⟩ = some (.int .i64 (nd : Nat))
  p : w.cell? ⟨gp, 0, none⟩ = some (.slice P pl dp)
  f : w.cell? ⟨gf, 0, none⟩ = some (.pointer (some ⟨b0, 0, none⟩))
  wc : w.cell? ⟨gw, 0, none⟩ = some (.slice X pl dx)
  tab : Gf.Tab w b0
  rows : RowsAt w A sh
  wts : RowsAt w X wts
section
variable {w w' : World} {gs gn gp gf gw b0 : Nat} {A P X : Option Addr} {sh : List (List UInt8)} {u nd pl dp : Nat} {wts : List (List UInt8)} {dx : Nat}
theorem VA.below (h : VA w gs gn gp gf gw b0 A P X sh u nd pl dp wts dx) (hb : Below w.heap.size w w') : VA w' gs gn gp gf gw b0 A P X sh u nd pl dp wts dx :=
  ⟨(hb.cell (p := ⟨gs, 0, none⟩) (cell_lt h.s)).trans h.s, (hb.cell (p := ⟨gn, 0, none⟩) (cell_lt h.n)).trans h.n, (hb.cell (p := ⟨gp, 0, none⟩) (cell_lt h.p)).trans h.p, (hb.cell (p := ⟨gf, 0, none⟩) (cell_lt h.f)).trans h.f,
    (hb.cell (p := ⟨gw, 0, none⟩) (cell_lt h.wc)).trans h.wc, h.tab.below hb, h.rows.below hb, h.wts.below hb⟩
end
theorem RowsAt.take {w : World} {A : Option Addr} {m : List (List UInt8)} (h : RowsAt w A m) (n : Nat) : RowsAt w A (m.take n) := fun i hi => by
  have hi' : i < m.length := by rw [List.length_take] at hi; omega
  rw [List.getElem_take]
  exact h i hi'
/-- what a stripe tells -/
def outs (wts : List (List UInt8)) (known : List UInt8) : List UInt8 := wts.map fun r => GfM.dot r known
theorem outs_len (wts : List (List UInt8)) (known : List UInt8) : (outs wts known).length = wts.length := by simp [outs]

set_option maxHeartbeats 2000000 in
theorem tell_any (gs gn gp gf gw b0 : Nat) (A P X : Option Addr) (sh : List (List UInt8)) (u nd pl dp : Nat) (wts : List (List UInt8)) (dx k : Nat) (w : World) (h : VA w gs gn gp gf gw b0 A P X sh u nd pl dp wts dx)
    (hpl : wts.length = pl) (hpl2 : pl ≤ 1048576) (hnd0 : 1 ≤ nd) (hnd : nd ≤ sh.length) (hm : sh.length ≤ 1048576) (hu : sh.length ≤ u) (_hu2 : u ≤ maxLen) (hdx : pl ≤ dx) (hk : ∀ i, (hi : i < sh.length) → k < sh[i].length) :
    Calls Try.prog 81 #[.int .i64 (k : Nat), .pointer (some ⟨gs, 0, none⟩), .pointer (some ⟨gn, 0, none⟩), .pointer (some ⟨gp, 0, none⟩), .pointer (some ⟨gf, 0, none⟩), .pointer (some ⟨gw, 0, none⟩)] w (RetNew w (outs wts (col (sh.take nd) k))) := by
  obtain ⟨sl, hsl⟩ : ∃ sl, sl = sh.length := ⟨_, rfl⟩
  have hC := fun V (h : RowsAt V A sh) => (column_any A (sh.take nd) u k V (RowsAt.take h nd) (by rw [List.length_take]; omega) (fun i hi => by rw [List.getElem_take]; exact hk i (by rw [List.length_take] at hi; omega))).mono fun _ _ h => RetOwn.new h
  rw [show (sh.take nd).length = nd from by rw [List.length_take]; omega] at hC
  obtain ⟨kn, hkn⟩ : ∃ kn, kn = col (sh.take nd) k := ⟨_, rfl⟩
  have hkl : kn.length = nd := by rw [hkn, col_len, List.length_take]; omega
  rw [← hkn] at hC ⊢
  obtain ⟨out, hout⟩ : ∃ out, out = outs wts kn := ⟨_, rfl⟩
  have hol : out.length = pl := by rw [hout, outs_len, hpl]
  have hst : ∀ i, (hi : i < wts.length) → (fillTo 0 out i).set i (GfM.dot wts[i] kn) = fillTo 0 out (i + 1) := fun i hi => by
    have := fillTo_succ 0 out (k := i) (by omega)
    rw [← this]; congr 1
    subst hout
    unfold outs; rw [List.getElem_map]
  have hfl : ∀ i, i ≤ pl → (fillTo 0 out i).length = pl := fun i hi => by rw [fillTo_len 0 out (by omega), hol]
  have hf0 : fillTo 0 out 0 = List.replicate pl 0 := by rw [fillTo_zero, hol]
  have hfd : fillTo 0 out pl = out := by rw [← hol, fillTo_done]
  have hmk := fun W => make_u8 pl (by omega) W
  obtain ⟨b, o, hA0⟩ : ∃ b o, A = some ⟨b, o, none⟩ := by
    obtain ⟨b, o, _, h, _⟩ := h.rows 0 (by omega)
    exact ⟨b, o, h⟩
  subst hA0
  have HV := Lib.hid h; have HC := Lib.hid hC; have HST := Lib.hid hst; have HFL := Lib.hid hfl; have HF0 := Lib.hid hf0; have HFD := Lib.hid hfd; have HOL := Lib.hid hol; have HKL := Lib.hid hkl; have HPL := Lib.hid hpl
  have cs := h.s; have cn := h.n
  rw [← hsl] at cs hnd hm hu
  rw [← hout]
  have HSL := Lib.hid hsl
  unfold maxLen at _hu2
  clear h hC hst hfl hf0 hfd hol hout hkl hkn hk hsl hpl
  go_enter Try.func81, Try.ntmps81
  go_wp2_with fail
  refine (HC.out w HV.out.rows).mono ?_
  rintro e w1 ⟨Y, dY, rfl, hY1, hY2, hY, hb1, hnY⟩
  have cp := (HV.out.below hb1).p
  rw [HKL.out] at hY1 ⊢
  have HY := Lib.hid hY; have HB1 := Lib.hid hb1; have HV1 := Lib.hid (HV.out.below hb1)
  clear cs cn hY hb1 hnY
  go_wp2_with fail
  clear hmk cp
  go_loopw [21] (fun i wr => ∃ j : Nat, j ≤ pl ∧ i = .int .i64 j ∧ Row wr w1.heap.size (fillTo 0 out j) ∧ Below w1.heap.size w1 wr)
    (fun i _ => pl - (intOf i).toNat)
  case atStart => exact ⟨0, Nat.zero_le _, rfl, by rw [HF0.out]; exact Row.new _ _, (Below.refl _ _).alloc (Nat.le_refl _) _⟩
  case round =>
    obtain ⟨j, hj, rfl, hr, hb⟩ := hrel
    rename World => wr
    by_cases hlt : j < pl
    · have hjm : j < wts.length := by rw [HPL.out]; exact hlt
      have HV2 := Lib.hid (HV1.out.below hb)
      have HY2 := Lib.hid (HY.out.below hb)
      obtain ⟨xb, xo, B, rd, rfl, e0, hd1, hd2, hB⟩ := HV2.out.wts.row hjm
      obtain ⟨r, hrr⟩ : ∃ r, r = wts[j] := ⟨_, rfl⟩
      have hs := HST.out j hjm
      rw [← hrr] at e0 hd1 hB hs
      obtain ⟨rl, hrl⟩ : ∃ rl, rl = r.length := ⟨_, rfl⟩
      rw [← hrl] at e0 hd1
      have HE0 := Lib.hid e0
      have HD := Lib.hid (fun V (ht : Gf.Tab V b0) (h1 : BytesAt V B r) (h2 : BytesAt V Y kn) => Gf.dot_any b0 B Y r kn rd dY V ht h1 h2 (by omega) (by rw [HKL.out]; unfold maxLen; omega))
      rw [HKL.out, ← hrl] at HD
      obtain ⟨z, hz⟩ : ∃ z, z = GfM.dot r kn := ⟨_, rfl⟩
      rw [← hz] at hs HD
      have HS := Lib.hid hs; have HBB := Lib.hid hB
      have hlen := HFL.out j hj
      obtain ⟨y, hc⟩ : ∃ y, wr.cell? ⟨w1.heap.size, j, none⟩ = some y := ⟨_, hr.cell j (by rw [hlen]; exact hlt)⟩
      have hf := hr.frozen j
      have HR := Lib.hid hr; have HB := Lib.hid hb
      have hzz := hr.lt
      have HC1 := Lib.hid hc; have HF1 := Lib.hid hf
      unfold maxLen at hd2
      clear hs hz hB hr hjm hrl hlen hrr e0 hb hc hf
      go_wp2_with fail
      --FLOW--
      refine Drawn.wp_region_flowT 10 [Drawn.SP.is (.slice (some ⟨w1.heap.size, 0, none⟩) pl pl), Drawn.SP.is (.int .i64 (j : Nat)), Drawn.SP.is (.pointer (some ⟨b0, 0, none⟩)), Drawn.SP.is (.slice (some ⟨xb, xo, none⟩) pl dx), Drawn.SP.is (.int .i64 (j : Nat)), Drawn.SP.is (.pointer (some ⟨xb, xo + j, none⟩)), Drawn.SP.is (.slice B rl rd), Drawn.SP.is (.slice Y nd dY), Drawn.SP.is (.int .u8 (z.toNat : Nat)), Drawn.SP.is (.pointer (some ⟨w1.heap.size, j, none⟩))] (by kernel_rfl) (by kernel_rfl) ?_ ?_
      · intro i hi a w2 hb hev hdep
        rcases (show i = 0 ∨ i = 1 ∨ i = 2 ∨ i = 3 ∨ i = 4 ∨ i = 5 ∨ i = 6 ∨ i = 7 ∨ i = 8 ∨ i = 9 by omega) with rfl | rfl | rfl | rfl | rfl | rfl | rfl | rfl | rfl | rfl
        · have e9 : a.tmps[9]?.getD undef = .slice (some ⟨w1.heap.size, 0, none⟩) pl pl := hev 9 rfl
          refine Drawn.wpOp_flow 24 rfl rfl rfl ?_
          clear hev hdep hb
          go_simp
          exact ⟨_, rfl, rfl, Below.refl _ _⟩
        · have e10 : a.tmps[10]?.getD undef = .int .i64 (j : Nat) := hev 10 rfl
          refine Drawn.wpOp_flow 25 rfl rfl rfl ?_
          clear hev hdep hb
          go_simp
          exact ⟨_, rfl, rfl, Below.refl _ _⟩
        · have e4 : a.tmps[4]?.getD undef = .pointer (some ⟨gf, 0, none⟩) := hev 4 rfl
          refine Drawn.wpOp_flow 26 rfl rfl rfl ?_
          have k1 := (HV2.out.below hb).f
          have k2 := (HV2.out.below hb).wc
          have k3 := (hb.cell (p := ⟨xb, xo + j, none⟩) (cell_lt HE0.out)).trans HE0.out
          clear hev hdep hb
          go_simp
          exact ⟨_, rfl, rfl, Below.refl _ _⟩
        · have e5 : a.tmps[5]?.getD undef = .pointer (some ⟨gw, 0, none⟩) := hev 5 rfl
          refine Drawn.wpOp_flow 27 rfl rfl rfl ?_
          have k1 := (HV2.out.below hb).f
          have k2 := (HV2.out.below hb).wc
          have k3 := (hb.cell (p := ⟨xb, xo + j, none⟩) (cell_lt HE0.out)).trans HE0.out
          clear hev hdep hb
          go_simp
          exact ⟨_, rfl, rfl, Below.refl _ _⟩
        · have e10 : a.tmps[10]?.getD undef = .int .i64 (j : Nat) := hev 10 rfl
          refine Drawn.wpOp_flow 28 rfl rfl rfl ?_
          clear hev hdep hb
          go_simp
          exact ⟨_, rfl, rfl, Below.refl _ _⟩
        · have d3 : a.tmps[27]?.getD undef = .slice (some ⟨xb, xo, none⟩) pl dx := hdep 3 rfl
          have d4 : a.tmps[28]?.getD undef = .int .i64 (j : Nat) := hdep 4 rfl
          refine Drawn.wpOp_flow 29 rfl rfl rfl ?_
          clear hev hdep hb
          go_simp
          exact ⟨_, rfl, rfl, Below.refl _ _⟩
        · have d5 : a.tmps[29]?.getD undef = .pointer (some ⟨xb, xo + j, none⟩) := hdep 5 rfl
          refine Drawn.wpOp_flow 30 rfl rfl rfl ?_
          have k1 := (HV2.out.below hb).f
          have k2 := (HV2.out.below hb).wc
          have k3 := (hb.cell (p := ⟨xb, xo + j, none⟩) (cell_lt HE0.out)).trans HE0.out
          clear hev hdep hb
          go_simp
          exact ⟨_, rfl, rfl, Below.refl _ _⟩
        · have e8 : a.tmps[8]?.getD undef = .slice Y nd dY := hev 8 rfl
          refine Drawn.wpOp_flow 31 rfl rfl rfl ?_
          clear hev hdep hb
          go_simp
          exact ⟨_, rfl, rfl, Below.refl _ _⟩
        · have d2 : a.tmps[26]?.getD undef = .pointer (some ⟨b0, 0, none⟩) := hdep 2 rfl
          have d6 : a.tmps[30]?.getD undef = .slice B rl rd := hdep 6 rfl
          have d7 : a.tmps[31]?.getD undef = .slice Y nd dY := hdep 7 rfl
          refine Drawn.wpOp_flow 32 rfl rfl rfl ?_
          clear hev hdep
          have C := HD.out w2 (HV2.out.below hb).tab (HBB.out.below hb) (HY2.out.below hb)
          clear hb
          go_simp
          refine C.mono ?_
          rintro e w' ⟨rfl, nd', rfl⟩
          exact ⟨_, rfl, rfl, bdraw _ _⟩
        · have d0 : a.tmps[24]?.getD undef = .slice (some ⟨w1.heap.size, 0, none⟩) pl pl := hdep 0 rfl
          have d1 : a.tmps[25]?.getD undef = .int .i64 (j : Nat) := hdep 1 rfl
          refine Drawn.wpOp_flow 33 rfl rfl rfl ?_
          clear hev hdep hb
          go_simp
          exact ⟨_, rfl, rfl, Below.refl _ _⟩
      · intro xq w2 hb hxq
        have vq0 : xq 0 = .slice (some ⟨w1.heap.size, 0, none⟩) pl pl := hxq 0 (by omega)
        have vq1 : xq 1 = .int .i64 (j : Nat) := hxq 1 (by omega)
        have vq2 : xq 2 = .pointer (some ⟨b0, 0, none⟩) := hxq 2 (by omega)
        have vq3 : xq 3 = .slice (some ⟨xb, xo, none⟩) pl dx := hxq 3 (by omega)
        have vq4 : xq 4 = .int .i64 (j : Nat) := hxq 4 (by omega)
        have vq5 : xq 5 = .pointer (some ⟨xb, xo + j, none⟩) := hxq 5 (by omega)
        have vq6 : xq 6 = .slice B rl rd := hxq 6 (by omega)
        have vq7 : xq 7 = .slice Y nd dY := hxq 7 (by omega)
        have vq8 : xq 8 = .int .u8 (z.toNat : Nat) := hxq 8 (by omega)
        have vq9 : xq 9 = .pointer (some ⟨w1.heap.size, j, none⟩) := hxq 9 (by omega)
        show wpList _ _ _ _ (Drawn.acts _ [(33, some (xq 9)), (32, some (xq 8)), (31, some (xq 7)), (30, some (xq 6)), (29, some (xq 5)), (28, some (xq 4)), (27, some (xq 3)), (26, some (xq 2)), (25, some (xq 1)), (24, some (xq 0))]) _
        rw [vq0, vq1, vq2, vq3, vq4, vq5, vq6, vq7, vq8, vq9]
        clear hxq vq0 vq1 vq2 vq3 vq4 vq5 vq6 vq7 vq8 vq9
        clear xq
        simp only [Drawn.acts, List.drop_succ_cons, List.drop_zero]
        go_simp
      --END--
        have hcj := (hb.cell (p := ⟨w1.heap.size, j, none⟩) hzz).trans HC1.out
        have hfj : w2.frozen? ⟨w1.heap.size, j, none⟩ = false := (World.frozen?_of_block (w := wr) (hb.block w1.heap.size hzz)).trans HF1.out
        have HB2 := Lib.hid hb
        clear hb
        go_wp2
        go_roundw
        case rel =>
          refine ⟨j + 1, by omega, by go_num, ?_, ?_⟩
          · rw [← HS.out]
            exact Row.set ((HB2.out.block _ hzz).trans HR.out) j _
          · exact (bstep HB.out HB2.out).setCell (Nat.le_refl _) _
        case measure => simp [intOf] <;> omega
    · obtain rfl : j = pl := by omega
      have HR := Lib.hid hr
      clear hr
      go_wp2
      go_ret
      have hr := HR.out
      rw [HFD.out] at hr
      have := RetNew.of_row hr (bstep HB1.out hb) (by rw [HOL.out]; unfold maxLen; omega) HB1.out.size
      rw [HOL.out] at this
      exact this
end Go.Proofs.Ytofhklimofdepaa.Rebuild

/- package rebuild: the tellers of all stripes -/
set_option maxRecDepth 100000
namespace Go.Proofs.Ytofhklimofdepaa.Rebuild
open Go.RowKit PlanM StripeM DealM RebM Plan

theorem IntsAt.take {w : World} {A : Option Addr} {l : List Int} (h : IntsAt w A l) (n : Nat) : IntsAt w A (l.take n) := by
  unfold IntsAt intV; rw [List.map_take]; exact CellsAt.take h n
theorem IntsAt.drop {w : World} {b o : Nat} {l : List Int} (h : IntsAt w (some ⟨b, o, none⟩) l) (n : Nat) : IntsAt w (some ⟨b, o + n, none⟩) (l.drop n) := by
  unfold IntsAt intV; rw [List.map_drop]; exact CellsAt.drop h n
theorem Boxes.one (W : World) (v : Value) (t : TypeId) : (W.alloc (.cells #[v] t)).cell? ⟨W.heap.size, 0, none⟩ = some v := by simp
theorem boxes4 (w : World) (v0 v2 v3 : Value) (o1 : Obj) (t0 t2 t3 : TypeId) :
    ((((w.alloc (.cells #[v0] t0)).alloc o1).alloc (.cells #[v2] t2)).alloc (.cells #[v3] t3)).cell? ⟨w.heap.size, 0, none⟩ = some v0 ∧
    ((((w.alloc (.cells #[v0] t0)).alloc o1).alloc (.cells #[v2] t2)).alloc (.cells #[v3] t3)).cell? ⟨w.heap.size + 1 + 1, 0, none⟩ = some v2 ∧
    ((((w.alloc (.cells #[v0] t0)).alloc o1).alloc (.cells #[v2] t2)).alloc (.cells #[v3] t3)).cell? ⟨w.heap.size + 1 + 1 + 1, 0, none⟩ = some v3 ∧
    Below w.heap.size w ((((w.alloc (.cells #[v0] t0)).alloc o1).alloc (.cells #[v2] t2)).alloc (.cells #[v3] t3)) := by
  have e : ∀ (W : World) (v : Value) (t : TypeId), (W.alloc (.cells #[v] t)).cell? ⟨W.heap.size, 0, none⟩ = some v := fun W v t => by simp
  have a0 := e w v0 t0
  have a2 := e ((w.alloc (.cells #[v0] t0)).alloc o1) v2 t2
  have a3 := e (((w.alloc (.cells #[v0] t0)).alloc o1).alloc (.cells #[v2] t2)) v3 t3
  have b1 := balloc w (.cells #[v0] t0)
  have b2 := balloc (w.alloc (.cells #[v0] t0)) o1
  have b3 := balloc ((w.alloc (.cells #[v0] t0)).alloc o1) (.cells #[v2] t2)
  have b4 := balloc (((w.alloc (.cells #[v0] t0)).alloc o1).alloc (.cells #[v2] t2)) (.cells #[v3] t3)
  rw [World.size_alloc, World.size_alloc] at a2
  rw [World.size_alloc, World.size_alloc, World.size_alloc] at a3
  exact ⟨((bstep b2 (bstep b3 b4)).cell (cell_lt a0)).trans a0, (b4.cell (cell_lt a2)).trans a2, a3, bstep b1 (bstep b2 (bstep b3 b4))⟩
/-- what each of the first shares counts, at each point -/
def wtsOf (ps pts : List UInt8) : List (List UInt8) := pts.map fun x => LagrM.wgts ps x
theorem wtsOf_len (ps pts : List UInt8) : (wtsOf ps pts).length = pts.length := by simp [wtsOf]

theorem VA.keep {F : Nat → Prop} {w w' : World} {gs gn gp gf gw b0 : Nat} {A P X : Option Addr} {sh : List (List UInt8)} {u nd pl dp : Nat} {wts wts' : List (List UInt8)} {dx : Nat} (h : VA w gs gn gp gf gw b0 A P X sh u nd pl dp wts dx) (q : Keeps F w w')
    (n1 : ¬ F gs) (n2 : ¬ F gn) (n3 : ¬ F gp) (n4 : ¬ F gf) (n5 : ¬ F gw) (ht : Gf.Tab w' b0) (h1 : RowsAt w' A sh) (h2 : RowsAt w' X wts') : VA w' gs gn gp gf gw b0 A P X sh u nd pl dp wts' dx :=
  ⟨q.cell h.s n1, q.cell h.n n2, q.cell h.p n3, q.cell h.f n4, q.cell h.wc n5, ht, h1, h2⟩
/-- weights that a call has told, in memory from block B on -/
def SP.wt (B : Nat) (l : List UInt8) (n : Nat) : Drawn.SP := ⟨fun v w => ∃ X d, v = .tuple #[.slice X n d, .bool true] ∧ n ≤ d ∧ d ≤ maxLen ∧ BytesAt w X l ∧ ∀ a, X = some a → B ≤ a.block, fun _ _ _ h hb => by
  obtain ⟨X, d, h1, h2, h3, h4, h5⟩ := h; exact ⟨X, d, h1, h2, h3, h4.below hb, h5⟩⟩
def SP.wr (B : Nat) (l : List UInt8) (n : Nat) : Drawn.SP := ⟨fun v w => ∃ X d, v = .slice X n d ∧ n ≤ d ∧ d ≤ maxLen ∧ BytesAt w X l ∧ ∀ a, X = some a → B ≤ a.block, fun _ _ _ h hb => by
  obtain ⟨X, d, h1, h2, h3, h4, h5⟩ := h; exact ⟨X, d, h1, h2, h3, h4.below hb, h5⟩⟩

set_option maxHeartbeats 4000000 in
theorem valuesAt_any (b0 : Nat) (p : P) (A1 A2 Pp : Option Addr) (who : List Int) (sh : List (List UInt8)) (pts : List UInt8) (u1 u2 dp : Nat) (w : World) (hp : p.In) (hM : p.May) (ht : Gf.Tab w b0)
    (h1 : IntsAt w A1 who) (hi : ∀ x ∈ who, In64 x) (h2 : RowsAt w A2 sh) (h3 : BytesAt w Pp pts) (hn : need p ≤ who.length) (hu : LagrM.unl (points (who.take (need p))) = true)
    (hwl : who.length ≤ 1048576) (k1 : who.length ≤ u1) (z1 : u1 ≤ maxLen) (hpl : pts.length ≤ 1048576) :
    Calls Try.prog 45 #[.pointer (some ⟨b0, 0, none⟩), p.val, .slice A1 who.length u1, .slice A2 sh.length u2, .slice Pp pts.length dp] w fun e w' =>
      ∃ gs gn gp gf gw X dx, e = .returned (.func (.func 81) #[] #[.pointer (some ⟨gs, 0, none⟩), .pointer (some ⟨gn, 0, none⟩), .pointer (some ⟨gp, 0, none⟩), .pointer (some ⟨gf, 0, none⟩), .pointer (some ⟨gw, 0, none⟩)]) ∧
        VA w' gs gn gp gf gw b0 A2 Pp X sh u2 (need p) pts.length dp (wtsOf (points (who.take (need p))) pts) dx ∧ pts.length ≤ dx ∧ Below w.heap.size w w' := by
  have hM' := hM
  unfold P.May at hM'
  have hN := fun V => Plan.need_any p V hp
  obtain ⟨nd, hnd⟩ : ∃ nd, nd = need p := ⟨_, rfl⟩
  have hna : p.needA = (nd : Int) := by unfold P.needA; rw [P.right_yes hM, hnd]; unfold need; simp; omega
  have hnd1 : 1 ≤ nd := by rw [hnd]; unfold need; omega
  rw [hna] at hN
  rw [← hnd] at hn hu ⊢
  have hPt := fun V (h : IntsAt V A1 who) => (Plan.points_any A1 (who.take nd) u1 V (IntsAt.take h nd) (by rw [List.length_take]; omega) (by rw [List.length_take]; omega) z1 (fun x hx => hi x (List.mem_of_mem_take hx))).mono fun _ _ h => RetOwn.new h
  rw [show (who.take nd).length = nd from by rw [List.length_take]; omega] at hPt
  obtain ⟨thr, hthr⟩ : ∃ thr, thr = points (who.take nd) := ⟨_, rfl⟩
  have hthl : thr.length = nd := by rw [hthr, points_len, List.length_take]; omega
  rw [← hthr] at hPt hu ⊢
  have hW := fun T dT x V (ht : Gf.Tab V b0) (h : BytesAt V T thr) => Lagr.weights_yes b0 T thr dT x V ht h (by omega) hu
  obtain ⟨b, o, hA0⟩ : ∃ b o, A1 = some ⟨b, o, none⟩ := by
    obtain ⟨b, o, h, _⟩ := h1.at (i := 0) (by omega)
    exact ⟨b, o, h⟩
  subst hA0
  obtain ⟨wts, hwts⟩ : ∃ wts, wts = wtsOf thr pts := ⟨_, rfl⟩
  have hwtl : wts.length = pts.length := by rw [hwts, wtsOf_len]
  have hst : ∀ i, (hi : i < pts.length) → (fillTo [] wts i).set i (LagrM.wgts thr pts[i]) = fillTo [] wts (i + 1) := fun i hi => by
    have := fillTo_succ [] wts (k := i) (by omega)
    rw [← this]; congr 1
    subst hwts
    unfold wtsOf; rw [List.getElem_map]
  have hfl : ∀ i, i ≤ pts.length → (fillTo [] wts i).length = pts.length := fun i hi => by rw [fillTo_len [] wts (by omega), hwtl]
  have hf0 : fillTo [] wts 0 = List.replicate pts.length [] := by rw [fillTo_zero, hwtl]
  have hfd : fillTo [] wts pts.length = wts := by rw [← hwtl, fillTo_done]
  rw [← hwts]
  have HST := Lib.hid hst; have HFL := Lib.hid hfl; have HF0 := Lib.hid hf0; have HFD := Lib.hid hfd
  clear hst hfl hf0 hfd hwts hwtl
  obtain ⟨wl, hwl'⟩ : ∃ wl, wl = who.length := ⟨_, rfl⟩
  obtain ⟨sl, hsl⟩ : ∃ sl, sl = sh.length := ⟨_, rfl⟩
  obtain ⟨pl, hpl'⟩ : ∃ pl, pl = pts.length := ⟨_, rfl⟩
  have HN := Lib.hid hN; have HPT := Lib.hid hPt; have HW := Lib.hid hW; have HT := Lib.hid ht; have H1 := Lib.hid h1; have H2 := Lib.hid h2; have H3 := Lib.hid h3; have HTL := Lib.hid hthl
  have HSL := Lib.hid hsl; have HPL := Lib.hid hpl'
  rw [← hwl'] at hn hwl k1 ⊢
  rw [← hpl'] at hpl ⊢
  rw [← hsl]
  unfold maxLen at z1
  clear hN hPt hW ht h1 h2 h3 hthl hthr hnd hna hi hu hsl hpl' hwl' hM hM'
  obtain ⟨pN, pT, pL, pW, pS, pR⟩ := p
  unfold P.val at HN ⊢
  go_enter Try.func45, Try.ntmps45
  go_wp2_with fail
  obtain ⟨f0, f2, f3, hb0⟩ := boxes4 w (.pointer (some ⟨b0, 0, none⟩)) (.slice A2 sl u2) (.slice Pp pl dp) (.cells #[.int .i64 pN, .int .i64 pT, .int .i64 pL, .int .i64 pW, .int .i64 pS, .int .i64 pR] 23) 31 27 24
  generalize (((w.alloc (.cells #[.pointer (some ⟨b0, 0, none⟩)] 31)).alloc (.cells #[.int .i64 pN, .int .i64 pT, .int .i64 pL, .int .i64 pW, .int .i64 pS, .int .i64 pR] 23)).alloc (.cells #[.slice A2 sl u2] 27)).alloc (.cells #[.slice Pp pl dp] 24) = w0 at *
  have F0 := Lib.hid f0; have F2 := Lib.hid f2; have F3 := Lib.hid f3
  clear f0 f2 f3
  refine (HN.out _).mono ?_
  rintro e w1 ⟨rfl, hb1⟩
  go_wp2_with fail
  have cn : (w1.alloc (.cells #[.int .i64 (nd : Nat)] 3)).cell? ⟨w1.heap.size, 0, none⟩ = some (.int .i64 (nd : Nat)) := by simp
  have hb2 := bstep hb1 (balloc w1 (.cells #[.int .i64 (nd : Nat)] 3))
  have hz1 := hb1.size
  have hs1 : w1.heap.size < (w1.alloc (.cells #[.int .i64 (nd : Nat)] 3)).heap.size := by simp
  generalize w1.alloc (.cells #[.int .i64 (nd : Nat)] 3) = w2 at *
  have CN := Lib.hid cn; have HB2 := Lib.hid hb2
  clear cn hb1 hb2
  refine (HPT.out w2 (H1.out.below (bstep hb0 HB2.out))).mono ?_
  rintro e w3 ⟨T, dT, rfl, t1, t2, hT, hb3, hnT⟩
  rw [HTL.out] at t1 ⊢
  have HB3 := Lib.hid (bstep HB2.out hb3)
  have c9 := (HB3.out.cell (p := ⟨w.heap.size + 1 + 1 + 1, 0, none⟩) (cell_lt F3.out)).trans F3.out
  have hz3 := hb3.size
  have CN3 := Lib.hid ((hb3.cell (p := ⟨w1.heap.size, 0, none⟩) (cell_lt CN.out)).trans CN.out)
  have HTT := Lib.hid hT
  have hz0 := cell_lt F3.out
  simp only at hz0
  have hmk := fun W => Stripe.make_slices pl (by omega) W
  clear hT hb3 hnT CN
  have ho := OwnM.nils w3 w3.heap.size pl (Nat.le_refl _) (by unfold maxLen; omega)
  have hcw : ((w3.alloc (.cells (Stripe.nilRows pl).toArray 24)).alloc (.cells #[.slice (some ⟨w3.heap.size, 0, none⟩) pl pl] 27)).cell? ⟨w3.heap.size + 1, 0, none⟩ = some (.slice (some ⟨w3.heap.size, 0, none⟩) pl pl) := by
    have := Boxes.one (w3.alloc (.cells (Stripe.nilRows pl).toArray 24)) (.slice (some ⟨w3.heap.size, 0, none⟩) pl pl) 27
    rw [World.size_alloc] at this
    exact this
  have hb4 : Below w3.heap.size w3 ((w3.alloc (.cells (Stripe.nilRows pl).toArray 24)).alloc (.cells #[.slice (some ⟨w3.heap.size, 0, none⟩) pl pl] 27)) := bstep (balloc _ _) (balloc _ _)
  have ho4 : OwnM ((w3.alloc (.cells (Stripe.nilRows pl).toArray 24)).alloc (.cells #[.slice (some ⟨w3.heap.size, 0, none⟩) pl pl] 27)) w3.heap.size (.slice (some ⟨w3.heap.size, 0, none⟩) pl pl) (List.replicate pl []) := OwnM.alloc ho _
  clear ho
  have c9b := (hb4.cell (p := ⟨w.heap.size + 1 + 1 + 1, 0, none⟩) (cell_lt c9)).trans c9
  go_wp2_with fail
  clear hmk c9 c9b
  have hzz4 := hb4.size
  generalize (w3.alloc (.cells (Stripe.nilRows pl).toArray 24)).alloc (.cells #[.slice (some ⟨w3.heap.size, 0, none⟩) pl pl] 27) = w4 at *
  have hcn4 := (hb4.cell (p := ⟨w1.heap.size, 0, none⟩) (cell_lt CN3.out)).trans CN3.out
  have hb04 := bstep HB3.out hb4
  have hc2 := (hb04.cell (p := ⟨w.heap.size + 1 + 1, 0, none⟩) (cell_lt F2.out)).trans F2.out
  rw [HSL.out] at hc2
  have hbw4 := bstep hb0 hb04
  have va : VA w4 (w.heap.size + 1 + 1) w1.heap.size (w.heap.size + 1 + 1 + 1) w.heap.size (w3.heap.size + 1) b0 A2 Pp (some ⟨w3.heap.size, 0, none⟩) sh u2 nd pl dp [] pl :=
    ⟨hc2, hcn4, (hb04.cell (p := ⟨w.heap.size + 1 + 1 + 1, 0, none⟩) (cell_lt F3.out)).trans F3.out, (hb04.cell (p := ⟨w.heap.size, 0, none⟩) (cell_lt F0.out)).trans F0.out, hcw, HT.out.below hbw4, H2.out.below hbw4, RowsAt.nil _ _⟩
  have hz34 := cell_lt hcw
  simp only at hz34
  have HVA := Lib.hid va; have HO4 := Lib.hid ho4; have HBW := Lib.hid hbw4
  have HT4 := Lib.hid (HTT.out.below hb4)
  have hwz := hb0.size
  have hw3 : w1.heap.size < w3.heap.size := by omega
  clear va ho4 hcn4 hc2 hcw hbw4 hb04 hb4 F0 F2 F3 CN3 HB2 HB3 hb0
  go_loopw [27] (fun i wr => ∃ j : Nat, j ≤ pl ∧ i = .int .i64 j ∧ OwnM wr w3.heap.size (.slice (some ⟨w3.heap.size, 0, none⟩) pl pl) (fillTo [] wts j) ∧ Keeps (fun k => k = w3.heap.size) w4 wr)
    (fun i _ => pl - (intOf i).toNat)
  case atStart => exact ⟨0, Nat.zero_le _, rfl, by rw [HF0.out, ← HPL.out]; exact HO4.out, Keeps.refl _ _⟩
  case round =>
    obtain ⟨j, hj, rfl, ho, hq⟩ := hrel
    rename World => wr
    have hbw : Below w.heap.size w wr := below_keeps HBW.out hq (fun i hi => by subst hi; omega) HBW.out.size
    have HO := Lib.hid ho; have HQ := Lib.hid hq; have HBR := Lib.hid hbw
    clear ho hq hbw
    by_cases hlt : j < pl
    · have hjp : j < pts.length := by rw [← HPL.out]; exact hlt
      have hs := HST.out j hjp
      obtain ⟨pb, po, rfl, e1⟩ := (H3.out.below HBR.out) j hjp
      obtain ⟨x, hx⟩ : ∃ x, x = pts[j] := ⟨_, rfl⟩
      rw [← hx] at e1 hs
      obtain ⟨wj, hwj⟩ : ∃ wj, wj = LagrM.wgts thr x := ⟨_, rfl⟩
      have hwjl : wj.length = nd := by rw [hwj, LagrM.wgts_len, HTL.out]
      have HWX := Lib.hid (fun V (ht : Gf.Tab V b0) (h : BytesAt V T thr) => HW.out T dT x V ht h)
      rw [← hwj, hwjl, HTL.out] at HWX
      rw [← hwj] at hs
      have hv := VA.keep (wts' := []) HVA.out HQ.out (by omega) (by omega) (by omega) (by omega) (by omega) (HT.out.below HBR.out) (H2.out.below HBR.out) (RowsAt.nil _ _)
      have hT4 := HQ.out.bytes' HT4.out (fun h0 a e => by have := HTT.out.lt h0 a e; omega)
      have HS := Lib.hid hs; have HV := Lib.hid hv; have HTR := Lib.hid hT4; have HWL := Lib.hid hwjl
      have hzr := HQ.out.size
      have hog : w3.heap.size < wr.heap.size := by omega
      clear hs hv hT4 hwjl hwj hx hjp
      go_wp2_with fail
      have k1 := HV.out.f
      have k2 := HV.out.wc
      have n1 : ¬ w3.heap.size = w.heap.size := by omega
      have n2 : ¬ w3.heap.size = w3.heap.size + 1 := by omega
      obtain ⟨u0, cu0, fu0⟩ : ∃ u, wr.cell? ⟨w3.heap.size, j, none⟩ = some u ∧ wr.frozen? ⟨w3.heap.size, j, none⟩ = false := by
        have hlen := HFL.out j (by rw [← HPL.out]; exact hj)
        rw [← HPL.out] at hlen
        obtain ⟨g', cap', hv', _, ⟨u, cu⟩, fu, _⟩ := OwnM.store HO.out (i := j) (by rw [hlen]; exact hlt) rfl (BytesAt.nil wr none) (Nat.le_refl 0) (Nat.zero_le _) (fun a e => by cases e)
        obtain rfl : w3.heap.size = g' := by injection hv' with h; injection h with h; injection h
        exact ⟨u, cu, fu⟩
      go_region_held3 (fun w' => w'.cell? ⟨w.heap.size, 0, none⟩ = some (.pointer (some ⟨b0, 0, none⟩)) ∧ w'.cell? ⟨w3.heap.size + 1, 0, none⟩ = some (.slice (some ⟨w3.heap.size, 0, none⟩) pl pl)) (first | (exact ⟨k1, k2⟩) | (exact ⟨HV5.out.f, HV5.out.wc⟩) | go_keep) ((go_simp; go_at_call 80; refine (HWX.out _ (HV.out.tab.below (bdraw wr _)) (HTR.out.below (bdraw wr _))).mono ?_; rintro e w5 ⟨X, d, rfl, q3, hb5, hnX, q1, q2⟩; have hb5 : Below wr.heap.size wr w5 := (by first | (exact hb5) | (exact bstep (bdraw wr _) hb5)); have HV5 := Lib.hid (HV.out.below hb5); have c5 := (hb5.cell (p := ⟨w3.heap.size, j, none⟩) hog).trans cu0; have f5 : w5.frozen? ⟨w3.heap.size, j, none⟩ = false := (World.frozen?_of_block (w := wr) (hb5.block w3.heap.size hog)).trans fu0; have Q3 := Lib.hid q3; have HNX := Lib.hid hnX; have HB5 := Lib.hid hb5; clear q3 hnX hb5))
      all_goals
        have hlen := HFL.out j (by rw [← HPL.out]; exact hj)
        rw [← HPL.out] at hlen
        obtain ⟨g', cap', hv', _, ⟨u0, cu⟩, fu, ho'⟩ := OwnM.store (HO.out.below HB5.out) (i := j) (by rw [hlen]; exact hlt) HWL.out Q3.out (by rw [HWL.out]; exact q1) q2 (fun a e => by
          simp only [Value.ownBlock]
          intro h; injection h with h; have h2 : wr.heap.size ≤ a.block := HNX.out a e; omega)
        obtain rfl : w3.heap.size = g' := by injection hv' with h; injection h with h; injection h
        have HO' := Lib.hid ho'
        clear ho' hlen hv' cu fu
        go_wp2
        go_roundw
        case rel =>
          refine ⟨j + 1, by omega, by go_num, ?_, ?_⟩
          · rw [← HS.out]; exact HO'.out
          · exact HQ.out.trans ((Keeps.of_below _ HB5.out).trans (Keeps.set _ _ _ _ rfl))
        case measure => simp [intOf] <;> omega
    · obtain rfl : j = pl := by omega
      have ho := HO.out
      rw [HPL.out, HFD.out] at ho
      obtain ⟨X, cx, hX, _, _, hR, _⟩ := ho.rows
      obtain rfl : some ⟨w3.heap.size, 0, none⟩ = X := by injection hX
      have HR := Lib.hid hR
      clear ho hX hR
      go_wp2
      go_ret
      exact ⟨_, _, _, _, _, _, _, rfl, VA.keep HVA.out HQ.out (by omega) (by omega) (by omega) (by omega) (by omega) (HT.out.below HBR.out) (H2.out.below HBR.out) HR.out, Nat.le_refl _, HBR.out⟩
end Go.Proofs.Ytofhklimofdepaa.Rebuild

/- package rebuild: what is wrong; the stripes of a blob -/
set_option maxRecDepth 100000
namespace Go.Proofs.Ytofhklimofdepaa.Rebuild
open Go.RowKit PlanM StripeM DealM RebM Plan

set_option maxHeartbeats 2000000 in
theorem all_any (n gs gn gp gf gw : Nat) (G : Nat → List UInt8) (w : World) (hn : n ≤ 1048576)
    (hc : ∀ k, k < n → ∀ V, Below w.heap.size w V → Calls Try.prog 81 #[.int .i64 (k : Nat), .pointer (some ⟨gs, 0, none⟩), .pointer (some ⟨gn, 0, none⟩), .pointer (some ⟨gp, 0, none⟩), .pointer (some ⟨gf, 0, none⟩), .pointer (some ⟨gw, 0, none⟩)] V (RetNew V (G k))) :
    Calls Try.prog 43 #[.int .i64 (n : Nat), .func (.func 81) #[] #[.pointer (some ⟨gs, 0, none⟩), .pointer (some ⟨gn, 0, none⟩), .pointer (some ⟨gp, 0, none⟩), .pointer (some ⟨gf, 0, none⟩), .pointer (some ⟨gw, 0, none⟩)]] w (RetRows w ((List.range n).map G)) := by
  obtain ⟨out, hout⟩ : ∃ out, out = (List.range n).map G := ⟨_, rfl⟩
  have hol : out.length = n := by rw [hout]; simp
  have hst : ∀ i, i < n → (fillTo [] out i).set i (G i) = fillTo [] out (i + 1) := fun i hi => by
    have := fillTo_succ [] out (k := i) (by omega)
    rw [← this]; congr 1
    subst hout
    simp
  have hfl : ∀ i, i ≤ n → (fillTo [] out i).length = n := fun i hi => by rw [fillTo_len [] out (by omega), hol]
  have hf0 : fillTo [] out 0 = List.replicate n [] := by rw [fillTo_zero, hol]
  have hfd : fillTo [] out n = out := by rw [← hol, fillTo_done]
  rw [← hout]
  have HC := Lib.hid hc; have HST := Lib.hid hst; have HFL := Lib.hid hfl; have HF0 := Lib.hid hf0; have HFD := Lib.hid hfd; have HOL := Lib.hid hol
  clear hc hst hfl hf0 hfd hol hout
  have hmk := fun W => Stripe.make_slices n hn W
  go_enter Try.func43, Try.ntmps43
  go_wp2
  clear hmk
  have ho0 := OwnM.nils w w.heap.size n (Nat.le_refl _) (by unfold maxLen; omega)
  have HO0 := Lib.hid ho0
  clear ho0
  go_loopw [11] (fun i wr => ∃ j : Nat, j ≤ n ∧ i = .int .i64 j ∧ OwnM wr w.heap.size (.slice (some ⟨w.heap.size, 0, none⟩) n n) (fillTo [] out j) ∧ Below w.heap.size w wr ∧ w.heap.size < wr.heap.size)
    (fun i _ => n - (intOf i).toNat)
  case atStart => exact ⟨0, Nat.zero_le _, rfl, by rw [HF0.out]; exact HO0.out, balloc _ _, by simp⟩
  case round =>
    obtain ⟨j, hj, rfl, ho, hb, hz⟩ := hrel
    rename World => wr
    have HO := Lib.hid ho; have HB := Lib.hid hb
    clear ho hb
    by_cases hlt : j < n
    · have hs := HST.out j hlt
      have C := HC.out j hlt wr HB.out
      obtain ⟨r, hr⟩ : ∃ r, r = G j := ⟨_, rfl⟩
      rw [← hr] at hs C
      have HS := Lib.hid hs; have HCC := Lib.hid C
      clear hs C hr
      go_wp2_with fail
      refine HCC.out.mono ?_
      rintro e w2 ⟨X, d, rfl, q1, q2, hX, hb2, hnX⟩
      have hlen := HFL.out j hj
      obtain ⟨g', cap', hv', _, ⟨u0, cu⟩, fu, ho'⟩ := OwnM.store (HO.out.below hb2) (i := j) (by rw [hlen]; exact hlt) rfl hX q1 q2 (fun a e => by
        simp only [Value.ownBlock]
        intro h; injection h with h; have h2 : wr.heap.size ≤ a.block := hnX a e; omega)
      obtain rfl : w.heap.size = g' := by injection hv' with h; injection h with h; injection h
      have HO' := Lib.hid ho'; have HB2 := Lib.hid hb2
      have hz2 := hb2.size
      clear ho' hlen hv' hX hnX hb2
      go_wp2
      go_roundw
      case rel =>
        refine ⟨j + 1, by omega, by go_num, ?_, (bstep HB.out HB2.out).setCell (Nat.le_refl _) _, ?_⟩
        · rw [← HS.out]; exact HO'.out
        · simp [World.setCell]; omega
      case measure => simp [intOf] <;> omega
    · obtain rfl : j = n := by omega
      go_wp2
      go_ret
      have ho := HO.out
      rw [HFD.out] at ho
      have := RetRows.of_own ho HB.out
      exact this

--FIRST--
/-- the first of what is wrong -/
def firstE (b1 b2 b3 b4 b5 b6 b7 : Bool) : Int := if b1 then 1 else if b2 then 2 else if b3 then 2 else if b4 then 5 else if b5 then 6 else if b6 then 3 else if b7 then 3 else 0
def flawCells (gp gz gw gs : Nat) : Array Value := #[.int .i64 1, .func (.func 64) #[] #[.pointer (some ⟨gp, 0, none⟩)], .int .i64 2, .func (.func 65) #[] #[.pointer (some ⟨gz, 0, none⟩)], .int .i64 2, .func (.func 66) #[] #[.pointer (some ⟨gw, 0, none⟩), .pointer (some ⟨gp, 0, none⟩)], .int .i64 5, .func (.func 70) #[] #[.pointer (some ⟨gw, 0, none⟩)], .int .i64 6, .func (.func 72) #[] #[.pointer (some ⟨gw, 0, none⟩), .pointer (some ⟨gp, 0, none⟩)], .int .i64 3, .func (.func 73) #[] #[.pointer (some ⟨gs, 0, none⟩), .pointer (some ⟨gw, 0, none⟩)], .int .i64 3, .func (.func 74) #[] #[.pointer (some ⟨gp, 0, none⟩), .pointer (some ⟨gz, 0, none⟩), .pointer (some ⟨gs, 0, none⟩)]]
structure Quiet7 (b1 b2 b3 b4 b5 b6 b7 : Bool) (k : Nat) : Prop where
  q1 : 1 ≤ k → b1 = false
  q2 : 2 ≤ k → b2 = false
  q3 : 3 ≤ k → b3 = false
  q4 : 4 ≤ k → b4 = false
  q5 : 5 ≤ k → b5 = false
  q6 : 6 ≤ k → b6 = false
  q7 : 7 ≤ k → b7 = false
theorem Quiet7.s1 {b1 b2 b3 b4 b5 b6 b7 : Bool} (_h : Quiet7 b1 b2 b3 b4 b5 b6 b7 0) (hb : b1 = false) : Quiet7 b1 b2 b3 b4 b5 b6 b7 1 := ⟨fun _ => hb, fun _h => by omega, fun _h => by omega, fun _h => by omega, fun _h => by omega, fun _h => by omega, fun _h => by omega⟩
theorem Quiet7.t1 {b1 b2 b3 b4 b5 b6 b7 : Bool} (_h : Quiet7 b1 b2 b3 b4 b5 b6 b7 0) (hb : b1 = true) : 1 = firstE b1 b2 b3 b4 b5 b6 b7 := by
  unfold firstE; rw [hb]; rfl
theorem Quiet7.s2 {b1 b2 b3 b4 b5 b6 b7 : Bool} (h : Quiet7 b1 b2 b3 b4 b5 b6 b7 1) (hb : b2 = false) : Quiet7 b1 b2 b3 b4 b5 b6 b7 2 := ⟨fun _ => h.q1 (by omega), fun _ => hb, fun h => by omega, fun h => by omega, fun h => by omega, fun h => by omega, fun h => by omega⟩
theorem Quiet7.t2 {b1 b2 b3 b4 b5 b6 b7 : Bool} (h : Quiet7 b1 b2 b3 b4 b5 b6 b7 1) (hb : b2 = true) : 2 = firstE b1 b2 b3 b4 b5 b6 b7 := by
  unfold firstE; rw [h.q1 (by omega), hb]; rfl
theorem Quiet7.s3 {b1 b2 b3 b4 b5 b6 b7 : Bool} (h : Quiet7 b1 b2 b3 b4 b5 b6 b7 2) (hb : b3 = false) : Quiet7 b1 b2 b3 b4 b5 b6 b7 3 := ⟨fun _ => h.q1 (by omega), fun _ => h.q2 (by omega), fun _ => hb, fun h => by omega, fun h => by omega, fun h => by omega, fun h => by omega⟩
theorem Quiet7.t3 {b1 b2 b3 b4 b5 b6 b7 : Bool} (h : Quiet7 b1 b2 b3 b4 b5 b6 b7 2) (hb : b3 = true) : 2 = firstE b1 b2 b3 b4 b5 b6 b7 := by
  unfold firstE; rw [h.q1 (by omega), h.q2 (by omega), hb]; rfl
theorem Quiet7.s4 {b1 b2 b3 b4 b5 b6 b7 : Bool} (h : Quiet7 b1 b2 b3 b4 b5 b6 b7 3) (hb : b4 = false) : Quiet7 b1 b2 b3 b4 b5 b6 b7 4 := ⟨fun _ => h.q1 (by omega), fun _ => h.q2 (by omega), fun _ => h.q3 (by omega), fun _ => hb, fun h => by omega, fun h => by omega, fun h => by omega⟩
theorem Quiet7.t4 {b1 b2 b3 b4 b5 b6 b7 : Bool} (h : Quiet7 b1 b2 b3 b4 b5 b6 b7 3) (hb : b4 = true) : 5 = firstE b1 b2 b3 b4 b5 b6 b7 := by
  unfold firstE; rw [h.q1 (by omega), h.q2 (by omega), h.q3 (by omega), hb]; rfl
theorem Quiet7.s5 {b1 b2 b3 b4 b5 b6 b7 : Bool} (h : Quiet7 b1 b2 b3 b4 b5 b6 b7 4) (hb : b5 = false) : Quiet7 b1 b2 b3 b4 b5 b6 b7 5 := ⟨fun _ => h.q1 (by omega), fun _ => h.q2 (by omega), fun _ => h.q3 (by omega), fun _ => h.q4 (by omega), fun _ => hb, fun h => by omega, fun h => by omega⟩
theorem Quiet7.t5 {b1 b2 b3 b4 b5 b6 b7 : Bool} (h : Quiet7 b1 b2 b3 b4 b5 b6 b7 4) (hb : b5 = true) : 6 = firstE b1 b2 b3 b4 b5 b6 b7 := by
  unfold firstE; rw [h.q1 (by omega), h.q2 (by omega), h.q3 (by omega), h.q4 (by omega), hb]; rfl
theorem Quiet7.s6 {b1 b2 b3 b4 b5 b6 b7 : Bool} (h : Quiet7 b1 b2 b3 b4 b5 b6 b7 5) (hb : b6 = false) : Quiet7 b1 b2 b3 b4 b5 b6 b7 6 := ⟨fun _ => h.q1 (by omega), fun _ => h.q2 (by omega), fun _ => h.q3 (by omega), fun _ => h.q4 (by omega), fun _ => h.q5 (by omega), fun _ => hb, fun h => by omega⟩
theorem Quiet7.t6 {b1 b2 b3 b4 b5 b6 b7 : Bool} (h : Quiet7 b1 b2 b3 b4 b5 b6 b7 5) (hb : b6 = true) : 3 = firstE b1 b2 b3 b4 b5 b6 b7 := by
  unfold firstE; rw [h.q1 (by omega), h.q2 (by omega), h.q3 (by omega), h.q4 (by omega), h.q5 (by omega), hb]; rfl
theorem Quiet7.s7 {b1 b2 b3 b4 b5 b6 b7 : Bool} (h : Quiet7 b1 b2 b3 b4 b5 b6 b7 6) (hb : b7 = false) : Quiet7 b1 b2 b3 b4 b5 b6 b7 7 := ⟨fun _ => h.q1 (by omega), fun _ => h.q2 (by omega), fun _ => h.q3 (by omega), fun _ => h.q4 (by omega), fun _ => h.q5 (by omega), fun _ => h.q6 (by omega), fun _ => hb⟩
theorem Quiet7.t7 {b1 b2 b3 b4 b5 b6 b7 : Bool} (h : Quiet7 b1 b2 b3 b4 b5 b6 b7 6) (hb : b7 = true) : 3 = firstE b1 b2 b3 b4 b5 b6 b7 := by
  unfold firstE; rw [h.q1 (by omega), h.q2 (by omega), h.q3 (by omega), h.q4 (by omega), h.q5 (by omega), h.q6 (by omega), hb]; rfl
theorem Quiet7.t0 {b1 b2 b3 b4 b5 b6 b7 : Bool} (h : Quiet7 b1 b2 b3 b4 b5 b6 b7 7) : 0 = firstE b1 b2 b3 b4 b5 b6 b7 := by
  unfold firstE; rw [h.q1 (by omega), h.q2 (by omega), h.q3 (by omega), h.q4 (by omega), h.q5 (by omega), h.q6 (by omega), h.q7 (by omega)]; rfl
theorem ret_i64 {a b : Int} (h : a = b) : Ending.returned (.int .i64 a) = .returned (.int .i64 b) := by rw [h]

set_option maxHeartbeats 4000000 in
theorem first_any (F gp gz gw gs : Nat) (b1 b2 b3 b4 b5 b6 b7 : Bool) (w : World) (hF : w.heap[F]? = some (.cells (flawCells gp gz gw gs) 86 (0, 0)))
    (h1 : ∀ V, Below w.heap.size w V → Calls Try.prog 64 #[.pointer (some ⟨gp, 0, none⟩)] V (Says V (.bool b1)))
    (h2 : ∀ V, Below w.heap.size w V → Calls Try.prog 65 #[.pointer (some ⟨gz, 0, none⟩)] V (Says V (.bool b2)))
    (h3 : ∀ V, Below w.heap.size w V → Calls Try.prog 66 #[.pointer (some ⟨gw, 0, none⟩), .pointer (some ⟨gp, 0, none⟩)] V (Says V (.bool b3)))
    (h4 : ∀ V, Below w.heap.size w V → Calls Try.prog 70 #[.pointer (some ⟨gw, 0, none⟩)] V (Says V (.bool b4)))
    (h5 : ∀ V, Below w.heap.size w V → Calls Try.prog 72 #[.pointer (some ⟨gw, 0, none⟩), .pointer (some ⟨gp, 0, none⟩)] V (Says V (.bool b5)))
    (h6 : ∀ V, Below w.heap.size w V → Calls Try.prog 73 #[.pointer (some ⟨gs, 0, none⟩), .pointer (some ⟨gw, 0, none⟩)] V (Says V (.bool b6)))
    (h7 : ∀ V, Below w.heap.size w V → Calls Try.prog 74 #[.pointer (some ⟨gp, 0, none⟩), .pointer (some ⟨gz, 0, none⟩), .pointer (some ⟨gs, 0, none⟩)] V (Says V (.bool b7))) :
    Calls Try.prog 63 #[.slice (some ⟨F, 0, none⟩) 7 7] w (Says w (.int .i64 (firstE b1 b2 b3 b4 b5 b6 b7))) := by
  have HFF := Lib.hid hF; have H1 := Lib.hid h1; have H2 := Lib.hid h2; have H3 := Lib.hid h3; have H4 := Lib.hid h4; have H5 := Lib.hid h5; have H6 := Lib.hid h6; have H7 := Lib.hid h7
  clear hF h1 h2 h3 h4 h5 h6 h7
  go_enter Try.func63, Try.ntmps63
  go_wp2
  go_loopw [7] (fun i wr => ∃ k : Nat, k ≤ 7 ∧ i = .int .i64 k ∧ Quiet7 b1 b2 b3 b4 b5 b6 b7 k ∧ Below w.heap.size w wr)
    (fun i _ => 7 - (intOf i).toNat)
  case atStart => exact ⟨0, by omega, rfl, ⟨fun h => by omega, fun h => by omega, fun h => by omega, fun h => by omega, fun h => by omega, fun h => by omega, fun h => by omega⟩, Below.refl _ _⟩
  case round =>
    obtain ⟨k, hk, rfl, hq, hb⟩ := hrel
    rename World => wr
    have hrow : wr.heap[F]? = some (.cells (flawCells gp gz gw gs) 86 (0, 0)) := (hb.block F (Array.getElem?_eq_some_iff.1 HFF.out).1).trans HFF.out
    have HB := Lib.hid hb
    clear hb
    rcases (show k = 0 ∨ k = 1 ∨ k = 2 ∨ k = 3 ∨ k = 4 ∨ k = 5 ∨ k = 6 ∨ k = 7 by omega) with rfl | rfl | rfl | rfl | rfl | rfl | rfl | rfl
    · have e0 : wr.cell? ⟨F, 0, none⟩ = some (.int .i64 1) := by rw [cell_of_row wr F 0 _ 86 (0, 0) hrow]; rfl
      have e1 : wr.cell? ⟨F, 1, none⟩ = some (.func (.func 64) #[] #[.pointer (some ⟨gp, 0, none⟩)]) := by rw [cell_of_row wr F 1 _ 86 (0, 0) hrow]; rfl
      have HQ := Lib.hid hq
      have hba := balloc wr (.cells #[.int .i64 1, .func (.func 64) #[] #[.pointer (some ⟨gp, 0, none⟩)]] 86)
      have C := H1.out (wr.alloc (.cells #[.int .i64 1, .func (.func 64) #[] #[.pointer (some ⟨gp, 0, none⟩)]] 86)) (bstep HB.out hba)
      have ca : (wr.alloc (.cells #[.int .i64 1, .func (.func 64) #[] #[.pointer (some ⟨gp, 0, none⟩)]] 86)).cell? ⟨wr.heap.size, 0, none⟩ = some (.int .i64 1) := by simp
      have HCC := Lib.hid C; have CA := Lib.hid ca; have HBA := Lib.hid hba
      clear hq hrow C ca hba
      rcases Bool.eq_false_or_eq_true b1 with hv | hv
      rotate_left 1
      · rw [hv] at HCC
        have HV := Lib.hid hv
        clear hv
        go_wp2_with fail
        refine HCC.out.mono ?_
        rintro e w2 ⟨rfl, hb2⟩
        have HB2 := Lib.hid (bstep HBA.out hb2)
        clear hb2
        go_wp2
        go_roundw
        case rel => exact ⟨1, by omega, by first | rfl | go_num, HQ.out.s1 HV.out, bstep HB.out HB2.out⟩
        case measure => first | (simp [intOf]; done) | (simp [intOf]; omega)
      · rw [hv] at HCC
        have HV := Lib.hid hv
        clear hv
        go_wp2_with fail
        refine HCC.out.mono ?_
        rintro e w2 ⟨rfl, hb2⟩
        have c0 := (hb2.cell (p := ⟨wr.heap.size, 0, none⟩) (cell_lt CA.out)).trans CA.out
        have HB2 := Lib.hid (bstep HBA.out hb2)
        clear hb2
        go_wp2
        go_ret
        exact ⟨ret_i64 (HQ.out.t1 HV.out), bstep HB.out HB2.out⟩
    · have e0 : wr.cell? ⟨F, 2, none⟩ = some (.int .i64 2) := by rw [cell_of_row wr F 2 _ 86 (0, 0) hrow]; rfl
      have e1 : wr.cell? ⟨F, 3, none⟩ = some (.func (.func 65) #[] #[.pointer (some ⟨gz, 0, none⟩)]) := by rw [cell_of_row wr F 3 _ 86 (0, 0) hrow]; rfl
      have HQ := Lib.hid hq
      have hba := balloc wr (.cells #[.int .i64 2, .func (.func 65) #[] #[.pointer (some ⟨gz, 0, none⟩)]] 86)
      have C := H2.out (wr.alloc (.cells #[.int .i64 2, .func (.func 65) #[] #[.pointer (some ⟨gz, 0, none⟩)]] 86)) (bstep HB.out hba)
      have ca : (wr.alloc (.cells #[.int .i64 2, .func (.func 65) #[] #[.pointer (some ⟨gz, 0, none⟩)]] 86)).cell? ⟨wr.heap.size, 0, none⟩ = some (.int .i64 2) := by simp
      have HCC := Lib.hid C; have CA := Lib.hid ca; have HBA := Lib.hid hba
      clear hq hrow C ca hba
      rcases Bool.eq_false_or_eq_true b2 with hv | hv
      rotate_left 1
      · rw [hv] at HCC
        have HV := Lib.hid hv
        clear hv
        go_wp2_with fail
        refine HCC.out.mono ?_
        rintro e w2 ⟨rfl, hb2⟩
        have HB2 := Lib.hid (bstep HBA.out hb2)
        clear hb2
        go_wp2
        go_roundw
        case rel => exact ⟨2, by omega, by first | rfl | go_num, HQ.out.s2 HV.out, bstep HB.out HB2.out⟩
        case measure => first | (simp [intOf]; done) | (simp [intOf]; omega)
      · rw [hv] at HCC
        have HV := Lib.hid hv
        clear hv
        go_wp2_with fail
        refine HCC.out.mono ?_
        rintro e w2 ⟨rfl, hb2⟩
        have c0 := (hb2.cell (p := ⟨wr.heap.size, 0, none⟩) (cell_lt CA.out)).trans CA.out
        have HB2 := Lib.hid (bstep HBA.out hb2)
        clear hb2
        go_wp2
        go_ret
        exact ⟨ret_i64 (HQ.out.t2 HV.out), bstep HB.out HB2.out⟩
    · have e0 : wr.cell? ⟨F, 4, none⟩ = some (.int .i64 2) := by rw [cell_of_row wr F 4 _ 86 (0, 0) hrow]; rfl
      have e1 : wr.cell? ⟨F, 5, none⟩ = some (.func (.func 66) #[] #[.pointer (some ⟨gw, 0, none⟩), .pointer (some ⟨gp, 0, none⟩)]) := by rw [cell_of_row wr F 5 _ 86 (0, 0) hrow]; rfl
      have HQ := Lib.hid hq
      have hba := balloc wr (.cells #[.int .i64 2, .func (.func 66) #[] #[.pointer (some ⟨gw, 0, none⟩), .pointer (some ⟨gp, 0, none⟩)]] 86)
      have C := H3.out (wr.alloc (.cells #[.int .i64 2, .func (.func 66) #[] #[.pointer (some ⟨gw, 0, none⟩), .pointer (some ⟨gp, 0, none⟩)]] 86)) (bstep HB.out hba)
      have ca : (wr.alloc (.cells #[.int .i64 2, .func (.func 66) #[] #[.pointer (some ⟨gw, 0, none⟩), .pointer (some ⟨gp, 0, none⟩)]] 86)).cell? ⟨wr.heap.size, 0, none⟩ = some (.int .i64 2) := by simp
      have HCC := Lib.hid C; have CA := Lib.hid ca; have HBA := Lib.hid hba
      clear hq hrow C ca hba
      rcases Bool.eq_false_or_eq_true b3 with hv | hv
      rotate_left 1
      · rw [hv] at HCC
        have HV := Lib.hid hv
        clear hv
        go_wp2_with fail
        refine HCC.out.mono ?_
        rintro e w2 ⟨rfl, hb2⟩
        have HB2 := Lib.hid (bstep HBA.out hb2)
        clear hb2
        go_wp2
        go_roundw
        case rel => exact ⟨3, by omega, by first | rfl | go_num, HQ.out.s3 HV.out, bstep HB.out HB2.out⟩
        case measure => first | (simp [intOf]; done) | (simp [intOf]; omega)
      · rw [hv] at HCC
        have HV := Lib.hid hv
        clear hv
        go_wp2_with fail
        refine HCC.out.mono ?_
        rintro e w2 ⟨rfl, hb2⟩
        have c0 := (hb2.cell (p := ⟨wr.heap.size, 0, none⟩) (cell_lt CA.out)).trans CA.out
        have HB2 := Lib.hid (bstep HBA.out hb2)
        clear hb2
        go_wp2
        go_ret
        exact ⟨ret_i64 (HQ.out.t3 HV.out), bstep HB.out HB2.out⟩
    · have e0 : wr.cell? ⟨F, 6, none⟩ = some (.int .i64 5) := by rw [cell_of_row wr F 6 _ 86 (0, 0) hrow]; rfl
      have e1 : wr.cell? ⟨F, 7, none⟩ = some (.func (.func 70) #[] #[.pointer (some ⟨gw, 0, none⟩)]) := by rw [cell_of_row wr F 7 _ 86 (0, 0) hrow]; rfl
      have HQ := Lib.hid hq
      have hba := balloc wr (.cells #[.int .i64 5, .func (.func 70) #[] #[.pointer (some ⟨gw, 0, none⟩)]] 86)
      have C := H4.out (wr.alloc (.cells #[.int .i64 5, .func (.func 70) #[] #[.pointer (some ⟨gw, 0, none⟩)]] 86)) (bstep HB.out hba)
      have ca : (wr.alloc (.cells #[.int .i64 5, .func (.func 70) #[] #[.pointer (some ⟨gw, 0, none⟩)]] 86)).cell? ⟨wr.heap.size, 0, none⟩ = some (.int .i64 5) := by simp
      have HCC := Lib.hid C; have CA := Lib.hid ca; have HBA := Lib.hid hba
      clear hq hrow C ca hba
      rcases Bool.eq_false_or_eq_true b4 with hv | hv
      rotate_left 1
      · rw [hv] at HCC
        have HV := Lib.hid hv
        clear hv
        go_wp2_with fail
        refine HCC.out.mono ?_
        rintro e w2 ⟨rfl, hb2⟩
        have HB2 := Lib.hid (bstep HBA.out hb2)
        clear hb2
        go_wp2
        go_roundw
        case rel => exact ⟨4, by omega, by first | rfl | go_num, HQ.out.s4 HV.out, bstep HB.out HB2.out⟩
        case measure => first | (simp [intOf]; done) | (simp [intOf]; omega)
      · rw [hv] at HCC
        have HV := Lib.hid hv
        clear hv
        go_wp2_with fail
        refine HCC.out.mono ?_
        rintro e w2 ⟨rfl, hb2⟩
        have c0 := (hb2.cell (p := ⟨wr.heap.size, 0, none⟩) (cell_lt CA.out)).trans CA.out
        have HB2 := Lib.hid (bstep HBA.out hb2)
        clear hb2
        go_wp2
        go_ret
        exact ⟨ret_i64 (HQ.out.t4 HV.out), bstep HB.out HB2.out⟩
    · have e0 : wr.cell? ⟨F, 8, none⟩ = some (.int .i64 6) := by rw [cell_of_row wr F 8 _ 86 (0, 0) hrow]; rfl
      have e1 : wr.cell? ⟨F, 9, none⟩ = some (.func (.func 72) #[] #[.pointer (some ⟨gw, 0, none⟩), .pointer (some ⟨gp, 0, none⟩)]) := by rw [cell_of_row wr F 9 _ 86 (0, 0) hrow]; rfl
      have HQ := Lib.hid hq
      have hba := balloc wr (.cells #[.int .i64 6, .func (.func 72) #[] #[.pointer (some ⟨gw, 0, none⟩), .pointer (some ⟨gp, 0, none⟩)]] 86)
      have C := H5.out (wr.alloc (.cells #[.int .i64 6, .func (.func 72) #[] #[.pointer (some ⟨gw, 0, none⟩), .pointer (some ⟨gp, 0, none⟩)]] 86)) (bstep HB.out hba)
      have ca : (wr.alloc (.cells #[.int .i64 6, .func (.func 72) #[] #[.pointer (some ⟨gw, 0, none⟩), .pointer (some ⟨gp, 0, none⟩)]] 86)).cell? ⟨wr.heap.size, 0, none⟩ = some (.int .i64 6) := by simp
      have HCC := Lib.hid C; have CA := Lib.hid ca; have HBA := Lib.hid hba
      clear hq hrow C ca hba
      rcases Bool.eq_false_or_eq_true b5 with hv | hv
      rotate_left 1
      · rw [hv] at HCC
        have HV := Lib.hid hv
        clear hv
        go_wp2_with fail
        refine HCC.out.mono ?_
        rintro e w2 ⟨rfl, hb2⟩
        have HB2 := Lib.hid (bstep HBA.out hb2)
        clear hb2
        go_wp2
        go_roundw
        case rel => exact ⟨5, by omega, by first | rfl | go_num, HQ.out.s5 HV.out, bstep HB.out HB2.out⟩
        case measure => first | (simp [intOf]; done) | (simp [intOf]; omega)
      · rw [hv] at HCC
        have HV := Lib.hid hv
        clear hv
        go_wp2_with fail
        refine HCC.out.mono ?_
        rintro e w2 ⟨rfl, hb2⟩
        have c0 := (hb2.cell (p := ⟨wr.heap.size, 0, none⟩) (cell_lt CA.out)).trans CA.out
        have HB2 := Lib.hid (bstep HBA.out hb2)
        clear hb2
        go_wp2
        go_ret
        exact ⟨ret_i64 (HQ.out.t5 HV.out), bstep HB.out HB2.out⟩
    · have e0 : wr.cell? ⟨F, 10, none⟩ = some (.int .i64 3) := by rw [cell_of_row wr F 10 _ 86 (0, 0) hrow]; rfl
      have e1 : wr.cell? ⟨F, 11, none⟩ = some (.func (.func 73) #[] #[.pointer (some ⟨gs, 0, none⟩), .pointer (some ⟨gw, 0, none⟩)]) := by rw [cell_of_row wr F 11 _ 86 (0, 0) hrow]; rfl
      have HQ := Lib.hid hq
      have hba := balloc wr (.cells #[.int .i64 3, .func (.func 73) #[] #[.pointer (some ⟨gs, 0, none⟩), .pointer (some ⟨gw, 0, none⟩)]] 86)
      have C := H6.out (wr.alloc (.cells #[.int .i64 3, .func (.func 73) #[] #[.pointer (some ⟨gs, 0, none⟩), .pointer (some ⟨gw, 0, none⟩)]] 86)) (bstep HB.out hba)
      have ca : (wr.alloc (.cells #[.int .i64 3, .func (.func 73) #[] #[.pointer (some ⟨gs, 0, none⟩), .pointer (some ⟨gw, 0, none⟩)]] 86)).cell? ⟨wr.heap.size, 0, none⟩ = some (.int .i64 3) := by simp
      have HCC := Lib.hid C; have CA := Lib.hid ca; have HBA := Lib.hid hba
      clear hq hrow C ca hba
      rcases Bool.eq_false_or_eq_true b6 with hv | hv
      rotate_left 1
      · rw [hv] at HCC
        have HV := Lib.hid hv
        clear hv
        go_wp2_with fail
        refine HCC.out.mono ?_
        rintro e w2 ⟨rfl, hb2⟩
        have HB2 := Lib.hid (bstep HBA.out hb2)
        clear hb2
        go_wp2
        go_roundw
        case rel => exact ⟨6, by omega, by first | rfl | go_num, HQ.out.s6 HV.out, bstep HB.out HB2.out⟩
        case measure => first | (simp [intOf]; done) | (simp [intOf]; omega)
      · rw [hv] at HCC
        have HV := Lib.hid hv
        clear hv
        go_wp2_with fail
        refine HCC.out.mono ?_
        rintro e w2 ⟨rfl, hb2⟩
        have c0 := (hb2.cell (p := ⟨wr.heap.size, 0, none⟩) (cell_lt CA.out)).trans CA.out
        have HB2 := Lib.hid (bstep HBA.out hb2)
        clear hb2
        go_wp2
        go_ret
        exact ⟨ret_i64 (HQ.out.t6 HV.out), bstep HB.out HB2.out⟩
    · have e0 : wr.cell? ⟨F, 12, none⟩ = some (.int .i64 3) := by rw [cell_of_row wr F 12 _ 86 (0, 0) hrow]; rfl
      have e1 : wr.cell? ⟨F, 13, none⟩ = some (.func (.func 74) #[] #[.pointer (some ⟨gp, 0, none⟩), .pointer (some ⟨gz, 0, none⟩), .pointer (some ⟨gs, 0, none⟩)]) := by rw [cell_of_row wr F 13 _ 86 (0, 0) hrow]; rfl
      have HQ := Lib.hid hq
      have hba := balloc wr (.cells #[.int .i64 3, .func (.func 74) #[] #[.pointer (some ⟨gp, 0, none⟩), .pointer (some ⟨gz, 0, none⟩), .pointer (some ⟨gs, 0, none⟩)]] 86)
      have C := H7.out (wr.alloc (.cells #[.int .i64 3, .func (.func 74) #[] #[.pointer (some ⟨gp, 0, none⟩), .pointer (some ⟨gz, 0, none⟩), .pointer (some ⟨gs, 0, none⟩)]] 86)) (bstep HB.out hba)
      have ca : (wr.alloc (.cells #[.int .i64 3, .func (.func 74) #[] #[.pointer (some ⟨gp, 0, none⟩), .pointer (some ⟨gz, 0, none⟩), .pointer (some ⟨gs, 0, none⟩)]] 86)).cell? ⟨wr.heap.size, 0, none⟩ = some (.int .i64 3) := by simp
      have HCC := Lib.hid C; have CA := Lib.hid ca; have HBA := Lib.hid hba
      clear hq hrow C ca hba
      rcases Bool.eq_false_or_eq_true b7 with hv | hv
      rotate_left 1
      · rw [hv] at HCC
        have HV := Lib.hid hv
        clear hv
        go_wp2_with fail
        refine HCC.out.mono ?_
        rintro e w2 ⟨rfl, hb2⟩
        have HB2 := Lib.hid (bstep HBA.out hb2)
        clear hb2
        go_wp2
        go_roundw
        case rel => exact ⟨7, by omega, by first | rfl | go_num, HQ.out.s7 HV.out, bstep HB.out HB2.out⟩
        case measure => first | (simp [intOf]; done) | (simp [intOf]; omega)
      · rw [hv] at HCC
        have HV := Lib.hid hv
        clear hv
        go_wp2_with fail
        refine HCC.out.mono ?_
        rintro e w2 ⟨rfl, hb2⟩
        have c0 := (hb2.cell (p := ⟨wr.heap.size, 0, none⟩) (cell_lt CA.out)).trans CA.out
        have HB2 := Lib.hid (bstep HBA.out hb2)
        clear hb2
        go_wp2
        go_ret
        exact ⟨ret_i64 (HQ.out.t7 HV.out), bstep HB.out HB2.out⟩
    · have HQ := Lib.hid hq
      clear hq hrow
      go_wp2
      go_ret
      exact ⟨ret_i64 HQ.out.t0, HB.out⟩
--ENDFIRST--
theorem boxes_three (w : World) (v1 v2 v3 : Value) (t1 t2 t3 : TypeId) : Below w.heap.size w (((w.alloc (.cells #[v1] t1)).alloc (.cells #[v2] t2)).alloc (.cells #[v3] t3)) := bstep (balloc _ _) (bstep (balloc _ _) (balloc _ _))
theorem boxes_wrong (w : World) (v1 v2 v3 : Value) (o0 : Obj) (t1 t2 t3 : TypeId) :
    ((((w.alloc o0).alloc (.cells #[v1] t1)).alloc (.cells #[v2] t2)).alloc (.cells #[v3] t3)).cell? ⟨w.heap.size + 1, 0, none⟩ = some v1 ∧
    ((((w.alloc o0).alloc (.cells #[v1] t1)).alloc (.cells #[v2] t2)).alloc (.cells #[v3] t3)).cell? ⟨w.heap.size + 1 + 1, 0, none⟩ = some v2 ∧
    ((((w.alloc o0).alloc (.cells #[v1] t1)).alloc (.cells #[v2] t2)).alloc (.cells #[v3] t3)).cell? ⟨w.heap.size + 1 + 1 + 1, 0, none⟩ = some v3 ∧
    Below w.heap.size w ((((w.alloc o0).alloc (.cells #[v1] t1)).alloc (.cells #[v2] t2)).alloc (.cells #[v3] t3)) := by
  have a1 := Boxes.one (w.alloc o0) v1 t1
  have a2 := Boxes.one ((w.alloc o0).alloc (.cells #[v1] t1)) v2 t2
  have a3 := Boxes.one (((w.alloc o0).alloc (.cells #[v1] t1)).alloc (.cells #[v2] t2)) v3 t3
  have b1 := balloc w o0
  have b2 := balloc (w.alloc o0) (.cells #[v1] t1)
  have b3 := balloc ((w.alloc o0).alloc (.cells #[v1] t1)) (.cells #[v2] t2)
  have b4 := balloc (((w.alloc o0).alloc (.cells #[v1] t1)).alloc (.cells #[v2] t2)) (.cells #[v3] t3)
  rw [World.size_alloc] at a1
  rw [World.size_alloc, World.size_alloc] at a2
  rw [World.size_alloc, World.size_alloc, World.size_alloc] at a3
  exact ⟨((bstep b3 b4).cell (cell_lt a1)).trans a1, (b4.cell (cell_lt a2)).trans a2, a3, bstep b1 (bstep b2 (bstep b3 b4))⟩
theorem rcheck_first (p : P) (size : Int) (who : List Int) (sh : List (List UInt8)) :
    firstE (!p.right) (decide (size < 0) || decide (240 < size)) (noIs p who) (!(LagrM.unl (points who))) (decide ((who.length : Int) < p.needA)) (!(decide (sh.length = who.length))) (!(allN (p.stripesA size) sh)) = rcheck p size who sh := by
  unfold firstE rcheck
  rcases hr : p.right with _ | _
  · simp
  · have e1 : noIs p who = !(isAll p who) := by
      unfold noIs isAll
      rw [List.not_all_eq_any_not]
      congr 1
      funext i
      unfold P.isA; rw [hr]; simp
    have e2 : p.needA = p.T + p.L := by unfold P.needA; rw [hr]; rfl
    have e3 : allN (p.stripesA size) sh = fitAll p size sh := by
      unfold allN fitAll P.stripesA
      rw [hr]
      congr 1
      funext s
      rw [if_pos rfl]
      exact decide_eq_decide.mpr (by omega)
    rw [e1, e2, e3]
    generalize isAll p who = a
    generalize LagrM.unl (points who) = u
    generalize fitAll p size sh = f
    by_cases h1 : size < 0
    · simp [h1]
    · by_cases h2 : 240 < size
      · simp [h2]
      · by_cases h3 : (who.length : Int) < p.T + p.L
        · cases a <;> cases u <;> simp [h1, h2, h3]
        · by_cases h4 : sh.length = who.length
          · cases a <;> cases u <;> cases f <;> simp [h1, h2, h3, h4]
          · cases a <;> cases u <;> cases f <;> simp [h1, h2, h3, h4]

set_option maxHeartbeats 1000000 in
theorem wrong_any (p : P) (size : Int) (A1 A2 : Option Addr) (who : List Int) (sh : List (List UInt8)) (u1 u2 : Nat) (w : World) (hp : p.In) (hs : In64 size) (h1 : IntsAt w A1 who) (k1 : who.length ≤ u1) (z1 : u1 ≤ maxLen) (hi : ∀ x ∈ who, In64 x) (h2 : RowsAt w A2 sh)
    (hw : who.length ≤ 1048576) (hl : sh.length ≤ 1048576) :
    Calls Try.prog 41 #[p.val, .int .i64 size, .slice A1 who.length u1, .slice A2 sh.length u2] w (Says w (.int .i64 (rcheck p size who sh))) := by
  have hR := rcheck_first p size who sh
  have K1 := fun g V (h : Six V g p) => w1_any g p V hp h
  have K3 := fun gw g V (h0 : V.cell? ⟨gw, 0, none⟩ = some (.slice A1 who.length u1)) (h : Six V g p) (h1 : IntsAt V A1 who) => w3_any A1 who u1 gw g p V hp h0 h h1 hw hi
  have K4 := fun gw V (h0 : V.cell? ⟨gw, 0, none⟩ = some (.slice A1 who.length u1)) (h1 : IntsAt V A1 who) => w4_any A1 who u1 gw V h0 h1 hw k1 z1 hi
  have K5 := fun gw g V (h0 : V.cell? ⟨gw, 0, none⟩ = some (.slice A1 who.length u1)) (h : Six V g p) => w5_any A1 who.length u1 gw g p V hp h0 h
  have K7 := fun g gz gs V (h : Six V g p) (h0 : V.cell? ⟨gz, 0, none⟩ = some (.int .i64 size)) (h3 : V.cell? ⟨gs, 0, none⟩ = some (.slice A2 sh.length u2)) (h2 : RowsAt V A2 sh) => w7_any A2 sh u2 g gz gs p size V hp hs h h0 h3 h2 hl
  obtain ⟨wl, hwl⟩ : ∃ wl, wl = who.length := ⟨_, rfl⟩
  obtain ⟨sl, hsl⟩ : ∃ sl, sl = sh.length := ⟨_, rfl⟩
  rw [← hwl] at K3 K4 K5 ⊢
  rw [← hsl] at K7 ⊢
  rw [← hwl, ← hsl] at hR
  rw [← hR]
  have HSX := Lib.hid (Six.new w p)
  have H1 := Lib.hid h1; have H2 := Lib.hid h2
  generalize p.right = r1 at *
  generalize noIs p who = r3 at *
  generalize LagrM.unl (points who) = r4 at *
  generalize p.needA = r5 at *
  generalize allN (p.stripesA size) sh = r7 at *
  have J1 := Lib.hid K1; have J3 := Lib.hid K3; have J4 := Lib.hid K4; have J5 := Lib.hid K5; have J7 := Lib.hid K7
  clear K1 K3 K4 K5 K7 hR h1 h2 hwl hsl hi hp k1 z1 hw hl hs
  obtain ⟨q, hq⟩ : ∃ q, q = p := ⟨_, rfl⟩
  obtain ⟨pN, pT, pL, pW, pS, pR⟩ := p
  unfold P.val
  simp only at HSX
  rw [← hq] at J1 J3 J5 J7
  obtain ⟨f1, f2, f3, hb3⟩ := boxes_wrong w (.int .i64 size) (.slice A1 wl u1) (.slice A2 sl u2) (.cells #[.int .i64 pN, .int .i64 pT, .int .i64 pL, .int .i64 pW, .int .i64 pS, .int .i64 pR] 23) 3 43 27
  have hsx := HSX.out.below (boxes_three _ (.int .i64 size) (.slice A1 wl u1) (.slice A2 sl u2) 3 43 27)
  rw [← hq] at hsx
  go_enter Try.func41, Try.ntmps41
  go_wp2_with fail
  have hz : (((((w.alloc (.cells #[.int .i64 pN, .int .i64 pT, .int .i64 pL, .int .i64 pW, .int .i64 pS, .int .i64 pR] 23)).alloc (.cells #[.int .i64 size] 3)).alloc (.cells #[.slice A1 wl u1] 43)).alloc (.cells #[.slice A2 sl u2] 27))).heap.size = w.heap.size + 1 + 1 + 1 + 1 := by simp only [World.size_alloc]
  have H1' := Lib.hid (H1.out.below hb3); have H2' := Lib.hid (H2.out.below hb3)
  generalize (((w.alloc (.cells #[.int .i64 pN, .int .i64 pT, .int .i64 pL, .int .i64 pW, .int .i64 pS, .int .i64 pR] 23)).alloc (.cells #[.int .i64 size] 3)).alloc (.cells #[.slice A1 wl u1] 43)).alloc (.cells #[.slice A2 sl u2] 27) = w0 at *
  have hbF := balloc w0 (.cells (flawCells w.heap.size (w.heap.size + 1) (w.heap.size + 1 + 1) (w.heap.size + 1 + 1 + 1)) 86)
  have hF : (w0.alloc (.cells (flawCells w.heap.size (w.heap.size + 1) (w.heap.size + 1 + 1) (w.heap.size + 1 + 1 + 1)) 86)).heap[w.heap.size + 1 + 1 + 1 + 1]? = some (.cells (flawCells w.heap.size (w.heap.size + 1) (w.heap.size + 1 + 1) (w.heap.size + 1 + 1 + 1)) 86 (0, 0)) := by
    rw [← hz]; exact heap_alloc_new _ _
  have C := first_any (w.heap.size + 1 + 1 + 1 + 1) w.heap.size (w.heap.size + 1) (w.heap.size + 1 + 1) (w.heap.size + 1 + 1 + 1) (!r1) (decide (size < 0) || decide (240 < size)) r3 (!r4) (decide ((wl : Int) < r5)) (!(decide (sl = wl))) (!r7) _ hF
    (fun V hV => J1.out _ V (hsx.below (bstep hbF hV)))
    (fun V hV => w2_any _ size V (((bstep hbF hV).cell (cell_lt f1)).trans f1))
    (fun V hV => J3.out _ _ V (((bstep hbF hV).cell (cell_lt f2)).trans f2) (hsx.below (bstep hbF hV)) (H1'.out.below (bstep hbF hV)))
    (fun V hV => J4.out _ V (((bstep hbF hV).cell (cell_lt f2)).trans f2) (H1'.out.below (bstep hbF hV)))
    (fun V hV => J5.out _ _ V (((bstep hbF hV).cell (cell_lt f2)).trans f2) (hsx.below (bstep hbF hV)))
    (fun V hV => w6_any A1 A2 wl u1 sl u2 _ _ V (((bstep hbF hV).cell (cell_lt f3)).trans f3) (((bstep hbF hV).cell (cell_lt f2)).trans f2))
    (fun V hV => J7.out _ _ _ V (hsx.below (bstep hbF hV)) (((bstep hbF hV).cell (cell_lt f1)).trans f1) (((bstep hbF hV).cell (cell_lt f3)).trans f3) (H2'.out.below (bstep hbF hV)))
  refine C.mono ?_
  clear C
  rintro e w2 ⟨rfl, hb2⟩
  have hbe := bstep hb3 (bstep hbF hb2)
  clear f1 f2 f3 hsx hbF hF hb2
  go_wp2
  go_ret
  exact ⟨rfl, hbe⟩
end Go.Proofs.Ytofhklimofdepaa.Rebuild

/- package rebuild: what the tellers tell are the document's bytes -/
set_option maxRecDepth 100000
namespace Go.Proofs.Ytofhklimofdepaa.Rebuild
open Go.RowKit PlanM StripeM DealM RebM Plan

/-- what a check has told -/
structure Ok (p : P) (size : Int) (who : List Int) (sh : List (List UInt8)) : Prop where
  may : p.May
  s0 : 0 ≤ size
  s1 : size ≤ 240
  nd : (points who).Nodup
  enough : need p ≤ who.length
  same : sh.length = who.length
  row : ∀ i, (hi : i < sh.length) → sh[i].length = p.stripes size
theorem ok_of {p : P} {size : Int} {who : List Int} {sh : List (List UInt8)} (h : rcheck p size who sh = 0) : Ok p size who sh := by
  unfold rcheck at h
  split at h
  · rename_i hr
    split at h
    · omega
    · split at h
      · split at h
        · rename_i hu
          split at h
          · omega
          · rename_i h4
            split at h
            · omega
            · rename_i h5
              split at h
              · rename_i h6
                have hM : p.May := of_decide_eq_true hr
                have hM' := hM
                unfold P.May at hM'
                refine ⟨hM, by omega, by omega, (LagrM.unl_iff _).1 hu, by unfold need; omega, by omega, fun i hi => ?_⟩
                unfold fitAll at h6
                rw [List.all_eq_true] at h6
                exact of_decide_eq_true (h6 sh[i] (List.getElem_mem hi))
              · omega
        · omega
      · omega
  · omega

theorem col_rys (p : P) (sh : List (List UInt8)) (j : Nat) (h : need p ≤ sh.length) : col (sh.take (need p)) j = rys p sh j := by
  unfold col rys PolyM.tab
  refine List.ext_getElem (by simp; omega) fun i h1 h2 => ?_
  have hi : i < sh.length := by simp at h1; omega
  simp only [List.getElem_map, List.getElem_take, List.getElem_range]
  unfold at_
  rw [← List.getElem_eq_getD (h := hi)]
theorem outs_wts (ps pts ys : List UInt8) (hn : ps.Nodup) (hl : ps.length = ys.length) : outs (wtsOf ps pts) ys = pts.map fun x => PolyM.ev (LagrM.thr ps ys) x := by
  unfold outs wtsOf
  rw [List.map_map]
  exact List.map_congr_left fun x _ => LagrM.dot_wgts hn ys hl x
section
variable {p : P} {size : Int} {who : List Int} {sh : List (List UInt8)}
theorem Ok.first (h : Ok p size who sh) : (points (who.take (need p))).Nodup := by rw [points_take]; exact LagrM.nodup_take h.nd _
theorem Ok.flen (h : Ok p size who sh) : (points (who.take (need p))).length = need p := by rw [points_len, List.length_take]; have := h.enough; omega
/-- what a teller tells -/
theorem Ok.tells (h : Ok p size who sh) (pts : List UInt8) (j : Nat) : outs (wtsOf (points (who.take (need p))) pts) (col (sh.take (need p)) j) = pts.map fun x => PolyM.ev (rpoly p who sh j) x := by
  have h1 : need p ≤ sh.length := by rw [h.same]; exact h.enough
  rw [col_rys p sh j h1, outs_wts _ _ _ h.first (by rw [h.flen]; unfold rys; rw [PolyM.tab_len])]
  rfl
/-- the stripes that are told -/
def rstripes (p : P) (who : List Int) (sh : List (List UInt8)) (n : Nat) : List (List UInt8) := (List.range n).map fun j => p.secrets.map fun x => PolyM.ev (rpoly p who sh j) x
theorem rstripes_len (n : Nat) : (rstripes p who sh n).length = n := by simp [rstripes]
theorem rstripes_fit (n : Nat) (h : n = p.stripes size) : fits p (rstripes p who sh n) size = true := by
  unfold fits
  rw [rstripes_len, decide_eq_true h, Bool.true_and, List.all_eq_true]
  intro r hr
  unfold rstripes at hr
  obtain ⟨j, _, rfl⟩ := List.mem_map.mp hr
  rw [List.length_map, secrets_len]; exact decide_eq_true rfl
theorem join_blob (n size : Nat) (hL : 0 < p.L.toNat) (h : size ≤ n * p.L.toNat) : join p.L.toNat (rstripes p who sh n) size = rblob p size who sh := by
  unfold join rblob
  refine PolyM.tab_congr fun i hi => ?_
  have hj : i / p.L.toNat < n := by rw [Nat.div_lt_iff_lt_mul hL]; omega
  have hm : i % p.L.toNat < p.secrets.length := by rw [secrets_len]; exact Nat.mod_lt _ hL
  unfold byteAt rbyte
  rw [← List.getElem_eq_getD (h := by rw [rstripes_len]; exact hj)]
  unfold rstripes
  rw [List.getElem_map, List.getElem_range, PolyM.co_get _ _ (by rw [List.length_map]; exact hm), List.getElem_map, PolyM.co_get _ _ hm]
theorem ragR_eq (h : Ok p size who sh) (j : Nat) : ragR p who sh j who.length = decide (col (sh.drop (need p)) j = (points (who.drop (need p))).map fun x => PolyM.ev (rpoly p who sh j) x) := by
  have hs := h.same
  have hn := h.enough
  rw [Bool.eq_iff_iff, ragR_iff, decide_eq_true_iff]
  constructor
  · intro ha
    refine List.ext_getElem (by simp [col, points]; omega) fun i h1 h2 => ?_
    have hi : need p + i < who.length := by simp [col] at h1; omega
    have := ha (need p + i) hi
    simp only [col, points, List.getElem_map, List.getElem_drop]
    unfold at_ at this
    rw [← List.getElem_eq_getD (h := hi), ← List.getElem_eq_getD (h := by omega)] at this
    exact this.symm
  · intro he i hi
    by_cases hlt : i < need p
    · have hi2 : i < (points (who.take (need p))).length := by rw [h.flen]; exact hlt
      have := LagrM.thr_ev h.first (rys p sh j) i hi2
      have e1 : PolyM.co (points (who.take (need p))) i = point (who.getD i 0) := by
        rw [points_take, DealM.co_take, if_pos hlt, points_co who hi]
      rw [e1] at this
      unfold rpoly
      rw [this]
      unfold rys
      rw [PolyM.co_tab, if_pos hlt]
    · have h1 : i - need p < (col (sh.drop (need p)) j).length := by rw [col_len, List.length_drop]; omega
      have hg : (col (sh.drop (need p)) j)[i - need p]? = ((points (who.drop (need p))).map fun x => PolyM.ev (rpoly p who sh j) x)[i - need p]? := by rw [he]
      have e : need p + (i - need p) = i := by omega
      have hi' : i < sh.length := by omega
      simp only [col, points, List.getElem?_map, List.getElem?_drop, e, List.getElem?_eq_getElem hi, List.getElem?_eq_getElem hi', Option.map_some, Option.some.injEq] at hg
      unfold at_
      rw [← List.getElem_eq_getD (h := hi), ← List.getElem_eq_getD (h := hi')]
      exact hg.symm
theorem Ok.first_len (h : Ok p size who sh) : (sh.getD 0 []).length = p.stripes size := by
  have hM := h.may
  unfold P.May at hM
  have h0 : 0 < sh.length := by rw [h.same]; have := h.enough; unfold need at this; omega
  rw [← List.getElem_eq_getD (h := h0)]
  exact h.row 0 h0
end
end Go.Proofs.Ytofhklimofdepaa.Rebuild

/- the contract of Go's bytes.Equal -/
set_option maxRecDepth 100000
namespace Go.Proofs.Ytofhklimofdepaa.Equal
open Go.RowKit

theorem equal_any (A B : Option Addr) (l m : List UInt8) (c d : Nat) (w : World) (h : BytesAt w A l) (k : BytesAt w B m) :
    Calls Try.prog 48 #[.slice A l.length c, .slice B m.length d] w fun e w' => e = .returned (.bool (decide (l = m))) ∧ w = w' := by
  have c1 := h.convert c
  have c2 := k.convert d
  clear h k
  obtain ⟨X, hX⟩ : ∃ X : ByteArray, X = ⟨l.toArray⟩ := ⟨_, rfl⟩
  obtain ⟨Y, hY⟩ : ∃ Y : ByteArray, Y = ⟨m.toArray⟩ := ⟨_, rfl⟩
  have hq : (X.toList == Y.toList) = decide (l = m) := by
    rw [hX, hY, ByteArray.toList_mk, ByteArray.toList_mk]
    rw [Bool.eq_iff_iff, beq_iff_eq]; simp
  have HQ := Lib.hid hq
  rw [← hX] at c1
  rw [← hY] at c2
  clear hX hY hq
  go_enter Try.func48, Try.ntmps48
  go_wp2
  go_ret
  exact ⟨ret_bool HQ.out, rfl⟩
end Go.Proofs.Ytofhklimofdepaa.Equal

/- package rebuild: Blob -/
set_option maxRecDepth 100000
namespace Go.Proofs.Ytofhklimofdepaa.Rebuild
open Go.RowKit PlanM StripeM DealM RebM Plan Stripe

def SP.secr (l : List UInt8) (n : Nat) : Drawn.SP := ⟨fun v w => ∃ X d, v = .slice X n d ∧ BytesAt w X l, fun _ _ _ h hb => by
  obtain ⟨X, d, h1, h2⟩ := h; exact ⟨X, d, h1, h2.below hb⟩⟩
/-- a teller -/
def SP.tell (b0 : Nat) (A : Option Addr) (sh : List (List UInt8)) (u nd pl : Nat) (wts : List (List UInt8)) : Drawn.SP := ⟨fun v w => ∃ gs gn gp gf gw P dp X dx, v = .func (.func 81) #[] #[.pointer (some ⟨gs, 0, none⟩), .pointer (some ⟨gn, 0, none⟩), .pointer (some ⟨gp, 0, none⟩), .pointer (some ⟨gf, 0, none⟩), .pointer (some ⟨gw, 0, none⟩)] ∧
    VA w gs gn gp gf gw b0 A P X sh u nd pl dp wts dx ∧ pl ≤ dx, fun _ _ _ h hb => by
  obtain ⟨gs, gn, gp, gf, gw, P, dp, X, dx, h1, h2, h3⟩ := h; exact ⟨gs, gn, gp, gf, gw, P, dp, X, dx, h1, h2.below hb, h3⟩⟩
def SP.bytesNE (B : Nat) (l : List UInt8) (n : Nat) (e : Int) : Drawn.SP := ⟨fun v w => ∃ X d, v = .tuple #[.slice X n d, .int .i64 e] ∧ n ≤ d ∧ d ≤ maxLen ∧ BytesAt w X l ∧ ∀ a, X = some a → B ≤ a.block, fun _ _ _ h hb => by
  obtain ⟨X, d, h1, h2, h3, h4, h5⟩ := h; exact ⟨X, d, h1, h2, h3, h4.below hb, h5⟩⟩
def SP.bytesN (B : Nat) (l : List UInt8) (n : Nat) : Drawn.SP := ⟨fun v w => ∃ X d, v = .slice X n d ∧ n ≤ d ∧ d ≤ maxLen ∧ BytesAt w X l ∧ ∀ a, X = some a → B ≤ a.block, fun _ _ _ h hb => by
  obtain ⟨X, d, h1, h2, h3, h4, h5⟩ := h; exact ⟨X, d, h1, h2, h3, h4.below hb, h5⟩⟩
def SP.rowsn (m : List (List UInt8)) (n : Nat) : Drawn.SP := ⟨fun v w => ∃ X d, v = .slice X n d ∧ n ≤ d ∧ d ≤ maxLen ∧ RowsAt w X m, fun _ _ _ h hb => by
  obtain ⟨X, d, h1, h2, h3, h4⟩ := h; exact ⟨X, d, h1, h2, h3, h4.below hb⟩⟩

theorem blob_no (b0 : Nat) (p : P) (size : Int) (A1 A2 : Option Addr) (who : List Int) (sh : List (List UInt8)) (u1 u2 : Nat) (w : World) (hp : p.In) (hs : In64 size) (h1 : IntsAt w A1 who) (k1 : who.length ≤ u1) (z1 : u1 ≤ maxLen) (hi : ∀ x ∈ who, In64 x) (h2 : RowsAt w A2 sh)
    (hw : who.length ≤ 1048576) (hl : sh.length ≤ 1048576) (hr : rcheck p size who sh ≠ 0) :
    Calls Try.prog 24 #[.pointer (some ⟨b0, 0, none⟩), p.val, .int .i64 size, .slice A1 who.length u1, .slice A2 sh.length u2] w (RetBytesE w [] (rcheck p size who sh)) := by
  have C := fun V (h1 : IntsAt V A1 who) (h2 : RowsAt V A2 sh) => wrong_any p size A1 A2 who sh u1 u2 V hp hs h1 k1 z1 hi h2 hw hl
  have H1 := Lib.hid h1; have H2 := Lib.hid h2
  obtain ⟨wl, hwl⟩ : ∃ wl, wl = who.length := ⟨_, rfl⟩
  obtain ⟨sl, hsl⟩ : ∃ sl, sl = sh.length := ⟨_, rfl⟩
  rw [← hwl, ← hsl] at C ⊢
  generalize rcheck p size who sh = r at *
  have hne : (r != 0) = true := by simpa using hr
  clear hwl hsl h1 h2 hi hp hs k1 z1 hw hl hr
  obtain ⟨pN, pT, pL, pW, pS, pR⟩ := p
  unfold P.val at C ⊢
  have HC := Lib.hid C
  clear C
  have hb0 := balloc w (.cells #[.int .i64 pN, .int .i64 pT, .int .i64 pL, .int .i64 pW, .int .i64 pS, .int .i64 pR] 23)
  go_enter Try.func24, Try.ntmps24
  go_wp2_with fail
  refine (HC.out _ (H1.out.below hb0) (H2.out.below hb0)).mono ?_
  rintro e w1 ⟨rfl, hb1⟩
  go_wp2
  go_ret2
  exact ⟨none, 0, rfl, Nat.le_refl _, Nat.zero_le _, BytesAt.nil _ _, bstep hb0 hb1, New.none w⟩

set_option maxHeartbeats 8000000 in
theorem blob_yes (b0 : Nat) (p : P) (size : Int) (A1 A2 : Option Addr) (who : List Int) (sh : List (List UInt8)) (u1 u2 : Nat) (w : World) (hp : p.In) (hs : In64 size) (ht : Gf.Tab w b0) (h1 : IntsAt w A1 who) (k1 : who.length ≤ u1) (z1 : u1 ≤ maxLen) (hi : ∀ x ∈ who, In64 x) (h2 : RowsAt w A2 sh) (k2 : sh.length ≤ u2) (z2 : u2 ≤ maxLen)
    (hw : who.length ≤ 1048576) (hl : sh.length ≤ 1048576) (hr : rcheck p size who sh = 0) :
    Calls Try.prog 24 #[.pointer (some ⟨b0, 0, none⟩), p.val, .int .i64 size, .slice A1 who.length u1, .slice A2 sh.length u2] w (RetBytesE w (rblob p size.toNat who sh) 0) := by
  have ok := ok_of hr
  have C := fun V (h1 : IntsAt V A1 who) (h2 : RowsAt V A2 sh) => wrong_any p size A1 A2 who sh u1 u2 V hp hs h1 k1 z1 hi h2 hw hl
  rw [hr] at C
  have hM := ok.may
  have hM' := hM
  unfold P.May at hM'
  obtain ⟨n, hn⟩ : ∃ n : Nat, n = p.stripes size := ⟨_, rfl⟩
  have hn240 : n ≤ 240 := by rw [hn]; exact stripes_le p size (by omega)
  obtain ⟨sz, hsz⟩ : ∃ sz : Nat, size = (sz : Int) := ⟨size.toNat, by have := ok.s0; omega⟩
  have hszl := ok.s1
  have C1 := fun V => Plan.stripes_any p size V hp hs
  rw [show p.stripesA size = (n : Int) from by unfold P.stripesA; rw [P.right_yes hM, hn]; rfl] at C1
  have C2 := fun V => Plan.secrets_any p V hp
  rw [show p.secretsA = p.secrets from by unfold P.secretsA; rw [P.right_yes hM]; rfl] at C2
  have C3 := fun V Pp dp (ht : Gf.Tab V b0) (h1 : IntsAt V A1 who) (h2 : RowsAt V A2 sh) (h3 : BytesAt V Pp p.secrets) => valuesAt_any b0 p A1 A2 Pp who sh p.secrets u1 u2 dp V hp hM ht h1 hi h2 h3 ok.enough ((LagrM.unl_iff _).2 ok.first) hw k1 z1 (by rw [secrets_len]; omega)
  have C4 := fun gs gn gp gf gw Pp dp X dx V (h : VA V gs gn gp gf gw b0 A2 Pp X sh u2 (need p) p.secrets.length dp (wtsOf (points (who.take (need p))) p.secrets) dx) (hdx : p.secrets.length ≤ dx) =>
    all_any n gs gn gp gf gw (fun k => outs (wtsOf (points (who.take (need p))) p.secrets) (col (sh.take (need p)) k)) V (by omega)
      (fun k hk V' hb' => tell_any gs gn gp gf gw b0 A2 Pp X sh u2 (need p) p.secrets.length dp _ dx k V' (h.below hb') (wtsOf_len _ _) (by rw [secrets_len]; omega) (by unfold need; omega) (by rw [ok.same]; exact ok.enough) hl k2 z2 hdx (fun i hi => by rw [ok.row i hi, ← hn]; exact hk))
  rw [show (List.range n).map (fun k => outs (wtsOf (points (who.take (need p))) p.secrets) (col (sh.take (need p)) k)) = rstripes p who sh n from List.map_congr_left fun j _ => ok.tells p.secrets j] at C4
  have C5 := fun V X d (h : RowsAt V X (rstripes p who sh n)) (h1 : (rstripes p who sh n).length ≤ d) (h2 : d ≤ maxLen) => join_all p X (rstripes p who sh n) d sz V hp hM h h1 h2 (by rw [rstripes_len]; omega) (by omega) (by rw [← hsz]; exact rstripes_fit n hn)
  rw [join_blob n sz (by omega) (by have := stripes_enough p sz (by omega) (by omega); rw [hn, hsz]; exact this), rstripes_len] at C5
  unfold RetRows at C4
  simp only [rstripes_len] at C4
  rw [hsz] at C C1 ⊢
  rw [Int.toNat_natCast]
  have hbl : (rblob p sz who sh).length = sz := by unfold rblob; rw [PolyM.tab_len]
  have H1 := Lib.hid h1; have H2 := Lib.hid h2; have HT := Lib.hid ht; have HBL := Lib.hid hbl
  obtain ⟨nd, hnd⟩ : ∃ nd, nd = need p := ⟨_, rfl⟩
  rw [← hnd] at C3 C4
  generalize wtsOf (points (who.take nd)) p.secrets = wts at *
  obtain ⟨pl, hpl⟩ : ∃ pl, pl = p.secrets.length := ⟨_, rfl⟩
  unfold RetNew at C2
  rw [← hpl] at C2 C3 C4
  generalize p.secrets = secs at *
  generalize rstripes p who sh n = rs at *
  generalize rblob p sz who sh = out at *
  obtain ⟨wl, hwl⟩ : ∃ wl, wl = who.length := ⟨_, rfl⟩
  obtain ⟨sl, hsl⟩ : ∃ sl, sl = sh.length := ⟨_, rfl⟩
  rw [← hwl] at C C3 ⊢
  rw [← hsl] at C C3 ⊢
  clear hwl hsl h1 h2 ht hi hs k1 z1 hw hl hr ok hM hM' hn hsz hszl hbl hnd hpl k2 z2
  have HX := Lib.hid (Six.new w p)
  have hb0 := balloc w (.cells #[.int .i64 p.N, .int .i64 p.T, .int .i64 p.L, .int .i64 p.W, .int .i64 p.S, .int .i64 p.R] 23)
  clear hp
  obtain ⟨pN, pT, pL, pW, pS, pR⟩ := p
  simp only at HX hb0
  unfold P.val at C C1 C2 C3 C5 ⊢
  have HC := Lib.hid C; have HC1 := Lib.hid C1; have HC2 := Lib.hid C2; have HC3 := Lib.hid C3; have HC4 := Lib.hid C4; have HC5 := Lib.hid C5
  clear C C1 C2 C3 C4 C5
  go_enter Try.func24, Try.ntmps24
  go_wp2_with fail
  generalize w.alloc (.cells #[.int .i64 pN, .int .i64 pT, .int .i64 pL, .int .i64 pW, .int .i64 pS, .int .i64 pR] 23) = w0 at *
  refine (HC.out _ (H1.out.below hb0) (H2.out.below hb0)).mono ?_
  rintro e w1 ⟨rfl, hb1⟩
  have HX1 := Lib.hid (HX.out.below hb1)
  have HB1 := Lib.hid (bstep hb0 hb1)
  clear hb0 hb1
  go_wp2_with fail
  --FLOWB--
  refine Drawn.wp_region_flowL 18 [Drawn.SP.is (.agg #[.int .i64 pN, .int .i64 pT, .int .i64 pL, .int .i64 pW, .int .i64 pS, .int .i64 pR]), Drawn.SP.is (.agg #[.int .i64 pN, .int .i64 pT, .int .i64 pL, .int .i64 pW, .int .i64 pS, .int .i64 pR]), Drawn.SP.is (.int .i64 (sz : Nat)), Drawn.SP.is (.int .i64 (n : Nat)), Drawn.SP.is (.pointer (some ⟨b0, 0, none⟩)), Drawn.SP.is (.agg #[.int .i64 pN, .int .i64 pT, .int .i64 pL, .int .i64 pW, .int .i64 pS, .int .i64 pR]), Drawn.SP.is (.slice A1 wl u1), Drawn.SP.is (.slice A2 sl u2), Drawn.SP.is (.agg #[.int .i64 pN, .int .i64 pT, .int .i64 pL, .int .i64 pW, .int .i64 pS, .int .i64 pR]), SP.secr secs pl, SP.tell b0 A2 sh u2 nd pl wts, SP.rowsn rs n, Drawn.SP.is (.int .i64 (sz : Nat)), SP.bytesNE w1.heap.size out sz 0, SP.bytesN w1.heap.size out sz, Drawn.SP.is (.int .i64 0), SP.bytesN w1.heap.size out sz, Drawn.SP.is (.int .i64 0)] (by kernel_rfl) (by kernel_rfl) ?_ ?_
  · intro i hi a w2 hb hev hdep
    rcases (show i = 0 ∨ i = 1 ∨ i = 2 ∨ i = 3 ∨ i = 4 ∨ i = 5 ∨ i = 6 ∨ i = 7 ∨ i = 8 ∨ i = 9 ∨ i = 10 ∨ i = 11 ∨ i = 12 ∨ i = 13 ∨ i = 14 ∨ i = 15 ∨ i = 16 ∨ i = 17 by omega) with rfl | rfl | rfl | rfl | rfl | rfl | rfl | rfl | rfl | rfl | rfl | rfl | rfl | rfl | rfl | rfl | rfl | rfl
    · have e6 : a.tmps[6]?.getD undef = .pointer (some ⟨w.heap.size, 0, none⟩) := hev 6 rfl
      refine Drawn.wpOp_flow 21 rfl rfl rfl ?_
      have c0 := (HX1.out.below hb).c0; have c1 := (HX1.out.below hb).c1; have c2 := (HX1.out.below hb).c2; have c3 := (HX1.out.below hb).c3; have c4 := (HX1.out.below hb).c4; have c5 := (HX1.out.below hb).c5
      simp only at c0 c1 c2 c3 c4 c5
      clear hev hdep hb
      go_simp
      exact ⟨_, rfl, rfl, Below.refl _ _⟩
    · have e6 : a.tmps[6]?.getD undef = .pointer (some ⟨w.heap.size, 0, none⟩) := hev 6 rfl
      refine Drawn.wpOp_flow 22 rfl rfl rfl ?_
      have c0 := (HX1.out.below hb).c0; have c1 := (HX1.out.below hb).c1; have c2 := (HX1.out.below hb).c2; have c3 := (HX1.out.below hb).c3; have c4 := (HX1.out.below hb).c4; have c5 := (HX1.out.below hb).c5
      simp only at c0 c1 c2 c3 c4 c5
      clear hev hdep hb
      go_simp
      exact ⟨_, rfl, rfl, Below.refl _ _⟩
    · have e2 : a.tmps[2]?.getD undef = .int .i64 (sz : Nat) := hev 2 rfl
      refine Drawn.wpOp_flow 23 rfl rfl rfl ?_
      clear hev hdep hb
      go_simp
      exact ⟨_, rfl, rfl, Below.refl _ _⟩
    · have d1 : a.tmps[22]?.getD undef = .agg #[.int .i64 pN, .int .i64 pT, .int .i64 pL, .int .i64 pW, .int .i64 pS, .int .i64 pR] := hdep 1 rfl
      have d2 : a.tmps[23]?.getD undef = .int .i64 (sz : Nat) := hdep 2 rfl
      refine Drawn.wpOp_flow 24 rfl rfl rfl ?_
      clear hev hdep
      go_simp
      refine (HC1.out w2).mono ?_
      rintro e w' ⟨rfl, hb'⟩
      exact ⟨_, rfl, rfl, hb'⟩
    · have e0 : a.tmps[0]?.getD undef = .pointer (some ⟨b0, 0, none⟩) := hev 0 rfl
      refine Drawn.wpOp_flow 25 rfl rfl rfl ?_
      clear hev hdep hb
      go_simp
      exact ⟨_, rfl, rfl, Below.refl _ _⟩
    · have e6 : a.tmps[6]?.getD undef = .pointer (some ⟨w.heap.size, 0, none⟩) := hev 6 rfl
      refine Drawn.wpOp_flow 26 rfl rfl rfl ?_
      have c0 := (HX1.out.below hb).c0; have c1 := (HX1.out.below hb).c1; have c2 := (HX1.out.below hb).c2; have c3 := (HX1.out.below hb).c3; have c4 := (HX1.out.below hb).c4; have c5 := (HX1.out.below hb).c5
      simp only at c0 c1 c2 c3 c4 c5
      clear hev hdep hb
      go_simp
      exact ⟨_, rfl, rfl, Below.refl _ _⟩
    · have e3 : a.tmps[3]?.getD undef = .slice A1 wl u1 := hev 3 rfl
      refine Drawn.wpOp_flow 27 rfl rfl rfl ?_
      clear hev hdep hb
      go_simp
      exact ⟨_, rfl, rfl, Below.refl _ _⟩
    · have e4 : a.tmps[4]?.getD undef = .slice A2 sl u2 := hev 4 rfl
      refine Drawn.wpOp_flow 28 rfl rfl rfl ?_
      clear hev hdep hb
      go_simp
      exact ⟨_, rfl, rfl, Below.refl _ _⟩
    · have e6 : a.tmps[6]?.getD undef = .pointer (some ⟨w.heap.size, 0, none⟩) := hev 6 rfl
      refine Drawn.wpOp_flow 29 rfl rfl rfl ?_
      have c0 := (HX1.out.below hb).c0; have c1 := (HX1.out.below hb).c1; have c2 := (HX1.out.below hb).c2; have c3 := (HX1.out.below hb).c3; have c4 := (HX1.out.below hb).c4; have c5 := (HX1.out.below hb).c5
      simp only at c0 c1 c2 c3 c4 c5
      clear hev hdep hb
      go_simp
      exact ⟨_, rfl, rfl, Below.refl _ _⟩
    · have d8 : a.tmps[29]?.getD undef = .agg #[.int .i64 pN, .int .i64 pT, .int .i64 pL, .int .i64 pW, .int .i64 pS, .int .i64 pR] := hdep 8 rfl
      refine Drawn.wpOp_flow 30 rfl rfl rfl ?_
      clear hev hdep
      clear hb
      go_simp
      refine (HC2.out w2).mono ?_
      rintro e w' ⟨X, d, rfl, _, _, hX, hb', _⟩
      exact ⟨_, rfl, ⟨X, d, rfl, hX⟩, hb'⟩
    · have d4 : a.tmps[25]?.getD undef = .pointer (some ⟨b0, 0, none⟩) := hdep 4 rfl
      have d5 : a.tmps[26]?.getD undef = .agg #[.int .i64 pN, .int .i64 pT, .int .i64 pL, .int .i64 pW, .int .i64 pS, .int .i64 pR] := hdep 5 rfl
      have d6 : a.tmps[27]?.getD undef = .slice A1 wl u1 := hdep 6 rfl
      have d7 : a.tmps[28]?.getD undef = .slice A2 sl u2 := hdep 7 rfl
      obtain ⟨Xs, ds, d9, hs1⟩ : (SP.secr secs pl).p (a.tmps[30]?.getD undef) w2 := hdep 9 rfl
      refine Drawn.wpOp_flow 31 rfl rfl rfl ?_
      clear hev hdep
      have hbw := bstep HB1.out hb
      have C := HC3.out w2 Xs ds (HT.out.below hbw) (H1.out.below hbw) (H2.out.below hbw) hs1
      clear hb hbw hs1
      go_simp
      refine C.mono ?_
      rintro e w' ⟨gs, gn, gp, gf, gw, X, dx, rfl, va, hdx, hb'⟩
      exact ⟨_, rfl, ⟨gs, gn, gp, gf, gw, Xs, ds, X, dx, rfl, va, hdx⟩, hb'⟩
    · have d3 : a.tmps[24]?.getD undef = .int .i64 (n : Nat) := hdep 3 rfl
      obtain ⟨gs, gn, gp, gf, gw, Pp, dp, Xt, dt, d10, va, hdx⟩ : (SP.tell b0 A2 sh u2 nd pl wts).p (a.tmps[31]?.getD undef) w2 := hdep 10 rfl
      refine Drawn.wpOp_flow 32 rfl rfl rfl ?_
      clear hev hdep
      have C := HC4.out gs gn gp gf gw Pp dp Xt dt w2 va hdx
      clear hb va
      go_simp
      refine C.mono ?_
      rintro e w' ⟨A, c, rfl, q1, q2, q3, hb', _⟩
      exact ⟨_, rfl, ⟨A, c, rfl, q1, q2, q3⟩, hb'⟩
    · have e2 : a.tmps[2]?.getD undef = .int .i64 (sz : Nat) := hev 2 rfl
      refine Drawn.wpOp_flow 33 rfl rfl rfl ?_
      clear hev hdep hb
      go_simp
      exact ⟨_, rfl, rfl, Below.refl _ _⟩
    · have d0 : a.tmps[21]?.getD undef = .agg #[.int .i64 pN, .int .i64 pT, .int .i64 pL, .int .i64 pW, .int .i64 pS, .int .i64 pR] := hdep 0 rfl
      obtain ⟨Xr, dr, d11, r1, r2, r3⟩ : (SP.rowsn rs n).p (a.tmps[32]?.getD undef) w2 := hdep 11 rfl
      have d12 : a.tmps[33]?.getD undef = .int .i64 (sz : Nat) := hdep 12 rfl
      refine Drawn.wpOp_flow 34 rfl rfl rfl ?_
      clear hev hdep
      have C := HC5.out w2 Xr dr r3 r1 r2
      have hz := hb.size
      clear hb r3
      go_simp
      refine C.mono ?_
      rintro e w' ⟨A, c, rfl, q1, q2, q3, hb', hn'⟩
      rw [HBL.out] at q1
      exact ⟨_, rfl, ⟨A, c, by rw [HBL.out], q1, q2, q3, fun a e => Nat.le_trans hz (hn' a e)⟩, hb'⟩
    · obtain ⟨Xo, dd, d13, o1, o2, o3, o4⟩ : (SP.bytesNE w1.heap.size out sz 0).p (a.tmps[34]?.getD undef) w2 := hdep 13 rfl
      refine Drawn.wpOp_flow 35 rfl rfl rfl ?_
      clear hev hdep
      clear hb
      go_simp
      exact ⟨_, rfl, ⟨Xo, dd, rfl, o1, o2, o3, o4⟩, Below.refl _ _⟩
    · obtain ⟨Xo, dd, d13, o1, o2, o3, o4⟩ : (SP.bytesNE w1.heap.size out sz 0).p (a.tmps[34]?.getD undef) w2 := hdep 13 rfl
      refine Drawn.wpOp_flow 36 rfl rfl rfl ?_
      clear hev hdep hb
      go_simp
      exact ⟨_, rfl, rfl, Below.refl _ _⟩
    · have d14 := hdep 14 rfl
      refine Drawn.wpOp_flow 10 rfl rfl rfl ?_
      clear hev hdep hb
      go_simp
      exact ⟨_, rfl, d14, Below.refl _ _⟩
    · have d15 : a.tmps[36]?.getD undef = .int .i64 0 := hdep 15 rfl
      refine Drawn.wpOp_flow 11 rfl rfl rfl ?_
      clear hev hdep hb
      go_simp
      exact ⟨_, rfl, rfl, Below.refl _ _⟩
  · intro xq w2 hb hxq
    have vq0 : xq 0 = .agg #[.int .i64 pN, .int .i64 pT, .int .i64 pL, .int .i64 pW, .int .i64 pS, .int .i64 pR] := hxq 0 (by omega)
    have vq1 : xq 1 = .agg #[.int .i64 pN, .int .i64 pT, .int .i64 pL, .int .i64 pW, .int .i64 pS, .int .i64 pR] := hxq 1 (by omega)
    have vq2 : xq 2 = .int .i64 (sz : Nat) := hxq 2 (by omega)
    have vq3 : xq 3 = .int .i64 (n : Nat) := hxq 3 (by omega)
    have vq4 : xq 4 = .pointer (some ⟨b0, 0, none⟩) := hxq 4 (by omega)
    have vq5 : xq 5 = .agg #[.int .i64 pN, .int .i64 pT, .int .i64 pL, .int .i64 pW, .int .i64 pS, .int .i64 pR] := hxq 5 (by omega)
    have vq6 : xq 6 = .slice A1 wl u1 := hxq 6 (by omega)
    have vq7 : xq 7 = .slice A2 sl u2 := hxq 7 (by omega)
    have vq8 : xq 8 = .agg #[.int .i64 pN, .int .i64 pT, .int .i64 pL, .int .i64 pW, .int .i64 pS, .int .i64 pR] := hxq 8 (by omega)
    have vq12 : xq 12 = .int .i64 (sz : Nat) := hxq 12 (by omega)
    have vq15 : xq 15 = .int .i64 0 := hxq 15 (by omega)
    obtain ⟨Xo, dd, vq16, o1, o2, o3, o4⟩ : (SP.bytesN w1.heap.size out sz).p (xq 16) w2 := hxq 16 (by omega)
    have vq17 : xq 17 = .int .i64 0 := hxq 17 (by omega)
    show Exit.then _ _ Exit.normal (Drawn.acts _ [(11, some (xq 17)), (10, some (xq 16)), (36, some (xq 15)), (35, some (xq 14)), (34, some (xq 13)), (33, some (xq 12)), (32, some (xq 11)), (31, some (xq 10)), (30, some (xq 9)), (29, some (xq 8)), (28, some (xq 7)), (27, some (xq 6)), (26, some (xq 5)), (25, some (xq 4)), (24, some (xq 3)), (23, some (xq 2)), (22, some (xq 1)), (21, some (xq 0))]) _
    rw [vq0, vq1, vq2, vq3, vq4, vq5, vq6, vq7, vq8, vq12, vq15, vq16, vq17]
    clear hxq vq0 vq1 vq2 vq3 vq4 vq5 vq6 vq7 vq8 vq12 vq15 vq16 vq17
    generalize xq 9 = yq9
    generalize xq 10 = yq10
    generalize xq 11 = yq11
    generalize xq 13 = yq13
    generalize xq 14 = yq14
    clear xq
    simp only [Drawn.acts]
    go_simp
  --ENDB--
    have HO3 := Lib.hid o3; have HO4 := Lib.hid o4; have HB2 := Lib.hid (bstep HB1.out hb)
    clear o3 o4 hb
    go_wp2
    go_ret2
    exact ⟨Xo, dd, (by rw [HBL.out]; rfl), by rw [HBL.out]; exact o1, o2, HO3.out, HB2.out, fun a e => Nat.le_trans HB1.out.size (HO4.out a e)⟩
end Go.Proofs.Ytofhklimofdepaa.Rebuild

/- the contracts of package rebuild -/
set_option maxRecDepth 100000
namespace Go.Proofs.Ytofhklimofdepaa.Rebuild
open Go.RowKit PlanM StripeM DealM RebM Plan Stripe

theorem agree_no (b0 : Nat) (p : P) (size : Int) (A1 A2 : Option Addr) (who : List Int) (sh : List (List UInt8)) (u1 u2 : Nat) (w : World) (hp : p.In) (hs : In64 size) (h1 : IntsAt w A1 who) (k1 : who.length ≤ u1) (z1 : u1 ≤ maxLen) (hi : ∀ x ∈ who, In64 x) (h2 : RowsAt w A2 sh)
    (hw : who.length ≤ 1048576) (hl : sh.length ≤ 1048576) (hr : rcheck p size who sh ≠ 0) :
    Calls Try.prog 25 #[.pointer (some ⟨b0, 0, none⟩), p.val, .int .i64 size, .slice A1 who.length u1, .slice A2 sh.length u2] w (Says w (.bool false)) := by
  have C := fun V (h1 : IntsAt V A1 who) (h2 : RowsAt V A2 sh) => wrong_any p size A1 A2 who sh u1 u2 V hp hs h1 k1 z1 hi h2 hw hl
  have H1 := Lib.hid h1; have H2 := Lib.hid h2
  obtain ⟨wl, hwl⟩ : ∃ wl, wl = who.length := ⟨_, rfl⟩
  obtain ⟨sl, hsl⟩ : ∃ sl, sl = sh.length := ⟨_, rfl⟩
  rw [← hwl, ← hsl] at C ⊢
  generalize rcheck p size who sh = r at *
  have hne : (r != 0) = true := by simpa using hr
  clear hwl hsl h1 h2 hi hp hs k1 z1 hw hl hr
  obtain ⟨pN, pT, pL, pW, pS, pR⟩ := p
  unfold P.val at C ⊢
  have HC := Lib.hid C
  clear C
  have hb0 := balloc w (.cells #[.int .i64 pN, .int .i64 pT, .int .i64 pL, .int .i64 pW, .int .i64 pS, .int .i64 pR] 23)
  go_enter Try.func25, Try.ntmps25
  go_wp2_with fail
  refine (HC.out _ (H1.out.below hb0) (H2.out.below hb0)).mono ?_
  rintro e w1 ⟨rfl, hb1⟩
  go_wp2
  go_ret
  exact ⟨rfl, bstep hb0 hb1⟩

theorem RowsAt.drop {w : World} {b o : Nat} {m : List (List UInt8)} (h : RowsAt w (some ⟨b, o, none⟩) m) (k : Nat) : RowsAt w (some ⟨b, o + k, none⟩) (m.drop k) := fun i hi => by
  have hi' : k + i < m.length := by rw [List.length_drop] at hi; omega
  obtain ⟨b1, o1, v, e, hc, hs⟩ := h (k + i) hi'
  injection e with e; injection e with e1 e2 _; subst e1; subst e2
  rw [List.getElem_drop]
  exact ⟨b, o + k, v, rfl, by rw [Nat.add_assoc]; exact hc, hs⟩
theorem all_no {E : Nat → Bool} {n k : Nat} (hk : k < n) (h : E k = false) : (List.range n).all E = false := by
  rw [List.all_eq_false]; exact ⟨k, List.mem_range.mpr hk, by rw [h]; simp⟩
theorem all_yes {E : Nat → Bool} {n : Nat} (h : ∀ k, k < n → E k = true) : (List.range n).all E = true := by
  rw [List.all_eq_true]; exact fun k hk => h k (List.mem_range.mp hk)
def SP.intsD (l : List Int) (n : Nat) : Drawn.SP := ⟨fun v w => ∃ X d, v = .slice X n d ∧ n ≤ d ∧ d ≤ maxLen ∧ IntsAt w X l, fun _ _ _ h hb => by
  obtain ⟨X, d, h1, h2, h3, h4⟩ := h; exact ⟨X, d, h1, h2, h3, h4.below hb⟩⟩

set_option maxHeartbeats 2000000 in
theorem agree_yes (b0 : Nat) (p : P) (size : Int) (A1 A2 : Option Addr) (who : List Int) (sh : List (List UInt8)) (u1 u2 : Nat) (w : World) (hp : p.In) (hs : In64 size) (ht : Gf.Tab w b0) (h1 : IntsAt w A1 who) (k1 : who.length ≤ u1) (z1 : u1 ≤ maxLen) (hi : ∀ x ∈ who, In64 x) (h2 : RowsAt w A2 sh) (k2 : sh.length ≤ u2) (z2 : u2 ≤ maxLen)
    (hw : who.length ≤ 1048576) (hl : sh.length ≤ 1048576) (hr : rcheck p size who sh = 0) :
    Calls Try.prog 25 #[.pointer (some ⟨b0, 0, none⟩), p.val, .int .i64 size, .slice A1 who.length u1, .slice A2 sh.length u2] w (Says w (.bool (ragree p who sh))) := by
  have ok := ok_of hr
  have C := fun V (h1 : IntsAt V A1 who) (h2 : RowsAt V A2 sh) => wrong_any p size A1 A2 who sh u1 u2 V hp hs h1 k1 z1 hi h2 hw hl
  rw [hr] at C
  have hM := ok.may
  have hM' := hM
  unfold P.May at hM'
  obtain ⟨n, hn⟩ : ∃ n : Nat, n = p.stripes size := ⟨_, rfl⟩
  have hn240 : n ≤ 240 := by rw [hn]; exact stripes_le p size (by omega)
  have hsame := ok.same
  have henough := ok.enough
  have C1 := fun V => Plan.stripes_any p size V hp hs
  rw [show p.stripesA size = (n : Int) from by unfold P.stripesA; rw [P.right_yes hM, hn]; rfl] at C1
  obtain ⟨nd, hnd⟩ : ∃ nd, nd = need p := ⟨_, rfl⟩
  have hnd1 : 1 ≤ nd := by rw [hnd]; unfold need; omega
  have C2 := fun V => Plan.need_any p V hp
  rw [show p.needA = (nd : Int) from by unfold P.needA; rw [P.right_yes hM, hnd]; unfold need; simp; omega] at C2
  obtain ⟨pts, hpts⟩ : ∃ pts, pts = points (who.drop nd) := ⟨_, rfl⟩
  have hptl : pts.length = who.length - nd := by rw [hpts, points_len, List.length_drop]
  have C6 := fun X d V (h : IntsAt V X (who.drop nd)) (h1 : who.length - nd ≤ d) (h2 : d ≤ maxLen) => (Plan.points_any X (who.drop nd) d V h (by rw [List.length_drop]; omega) (by rw [List.length_drop]; exact h1) h2 (fun x hx => hi x (List.mem_of_mem_drop hx))).mono fun _ _ h => RetOwn.new h
  rw [← hpts, show (who.drop nd).length = who.length - nd from List.length_drop] at C6
  have C3 := fun V Pp dp (ht : Gf.Tab V b0) (h1 : IntsAt V A1 who) (h2 : RowsAt V A2 sh) (h3 : BytesAt V Pp pts) => valuesAt_any b0 p A1 A2 Pp who sh pts u1 u2 dp V hp hM ht h1 hi h2 h3 ok.enough ((LagrM.unl_iff _).2 ok.first) hw k1 z1 (by rw [hptl]; omega)
  have C4 := fun k (hk : k < n) gs gn gp gf gw Pp dp X dx V (h : VA V gs gn gp gf gw b0 A2 Pp X sh u2 (need p) pts.length dp (wtsOf (points (who.take (need p))) pts) dx) (hdx : pts.length ≤ dx) =>
    tell_any gs gn gp gf gw b0 A2 Pp X sh u2 (need p) pts.length dp _ dx k V h (wtsOf_len _ _) (by rw [hptl]; omega) (by omega) (by omega) hl k2 z2 hdx (fun i hi => by rw [ok.row i hi, ← hn]; exact hk)
  have C7 := fun k (hk : k < n) X d V (h : RowsAt V X (sh.drop nd)) => (column_any X (sh.drop nd) d k V h (by rw [List.length_drop]; omega) (fun i hi => by rw [List.getElem_drop, ok.row _ (by rw [List.length_drop] at hi; omega), ← hn]; exact hk)).mono fun _ _ h => RetOwn.new h
  rw [show (sh.drop nd).length = sh.length - nd from List.length_drop] at C7
  have hE : ∀ k, ragR p who sh k who.length = decide (col (sh.drop nd) k = outs (wtsOf (points (who.take (need p))) pts) (col (sh.take (need p)) k)) := fun k => by
    rw [ok.tells pts k, hpts, hnd]; exact ragR_eq ok k
  obtain ⟨E, hEE⟩ : ∃ E : Nat → Bool, ∀ k, E k = ragR p who sh k who.length := ⟨_, fun _ => rfl⟩
  have hA : ragree p who sh = (List.range n).all E := by
    unfold ragree ragTo; rw [ok.first_len, ← hn, show E = fun k => ragR p who sh k who.length from funext hEE]
  rw [hA]
  simp only [← hEE] at hE
  rw [← hnd] at C3 C4 henough hE
  obtain ⟨L, hL⟩ : ∃ L : Nat → List UInt8, ∀ k, L k = col (sh.drop nd) k := ⟨_, fun _ => rfl⟩
  obtain ⟨R, hR⟩ : ∃ R : Nat → List UInt8, ∀ k, R k = outs (wtsOf (points (who.take nd)) pts) (col (sh.take nd) k) := ⟨_, fun _ => rfl⟩
  simp only [← hL, ← hR] at C7 C4 hE
  obtain ⟨b1, o1, hA1⟩ : ∃ b o, A1 = some ⟨b, o, none⟩ := by
    obtain ⟨b, o, h, _⟩ := h1.at (i := 0) (by omega)
    exact ⟨b, o, h⟩
  obtain ⟨b2, o2, hA2⟩ : ∃ b o, A2 = some ⟨b, o, none⟩ := by
    obtain ⟨b, o, _, h, _⟩ := h2 0 (by omega)
    exact ⟨b, o, h⟩
  subst hA1; subst hA2
  have hD1 : ∀ V, IntsAt V (some ⟨b1, o1, none⟩) who → ∃ X, (if u1 = nd then (some ⟨b1, o1, none⟩ : Option Addr) else some ⟨b1, o1 + nd, none⟩) = X ∧ IntsAt V X (who.drop nd) := fun V h => by
    by_cases e : u1 = nd
    · rw [if_pos e]
      refine ⟨_, rfl, ?_⟩
      rw [List.drop_eq_nil_of_le (by omega)]; exact CellsAt.nil _ _
    · rw [if_neg e]; exact ⟨_, rfl, IntsAt.drop h nd⟩
  have H1 := Lib.hid h1; have H2 := Lib.hid h2; have HT := Lib.hid ht; have HE := Lib.hid hE; have HD1 := Lib.hid hD1
  generalize wtsOf (points (who.take nd)) pts = wts at *
  obtain ⟨pl, hpl⟩ : ∃ pl, pl = pts.length := ⟨_, rfl⟩
  rw [← hpl] at C3 C4 hptl
  have HPL := Lib.hid hpl
  obtain ⟨wl, hwl⟩ : ∃ wl, wl = who.length := ⟨_, rfl⟩
  obtain ⟨sl, hsl⟩ : ∃ sl, sl = sh.length := ⟨_, rfl⟩
  rw [← hwl] at C C3 C6 henough k1 hw hptl hsame ⊢
  rw [← hsl] at C C3 C7 k2 hl hsame ⊢
  have HSL := Lib.hid hsl; have HPTL := Lib.hid hptl
  have hsm : nd ≤ sl := by omega
  unfold maxLen at z1 z2
  clear hsame hptl hwl hsl h1 h2 ht hi hs hr ok hM hM' hn hnd hE hA hEE hL hR hpts hpl hD1
  have HX := Lib.hid (Six.new w p)
  have hb0 := balloc w (.cells #[.int .i64 p.N, .int .i64 p.T, .int .i64 p.L, .int .i64 p.W, .int .i64 p.S, .int .i64 p.R] 23)
  clear hp
  obtain ⟨pN, pT, pL, pW, pS, pR⟩ := p
  simp only at HX hb0
  unfold P.val at C C1 C2 C3 ⊢
  have HC := Lib.hid C; have HC1 := Lib.hid C1; have HC2 := Lib.hid C2; have HC3 := Lib.hid C3; have HC4 := Lib.hid C4; have HC6 := Lib.hid C6; have HC7 := Lib.hid C7
  clear C C1 C2 C3 C4 C6 C7
  go_enter Try.func25, Try.ntmps25
  go_wp2_with fail
  generalize w.alloc (.cells #[.int .i64 pN, .int .i64 pT, .int .i64 pL, .int .i64 pW, .int .i64 pS, .int .i64 pR] 23) = w0 at *
  refine (HC.out _ (H1.out.below hb0) (H2.out.below hb0)).mono ?_
  rintro e w1 ⟨rfl, hb1⟩
  have HX1 := Lib.hid (HX.out.below hb1)
  have HB1 := Lib.hid (bstep hb0 hb1)
  clear hb0 hb1 HX
  have c0 := HX1.out.c0; have c1 := HX1.out.c1; have c2 := HX1.out.c2; have c3 := HX1.out.c3; have c4 := HX1.out.c4; have c5 := HX1.out.c5
  simp only at c0 c1 c2 c3 c4 c5
  go_wp2_with fail
  refine (HC2.out _).mono ?_
  rintro e w2 ⟨rfl, hb2⟩
  clear c0 c1 c2 c3 c4 c5
  have HX2 := Lib.hid (HX1.out.below hb2)
  have HB2 := Lib.hid (bstep HB1.out hb2)
  clear hb2 HX1 HB1
  go_wp2_with fail
  --FLOWA--
  refine Drawn.wp_region_flowL 10 [Drawn.SP.is (.pointer (some ⟨b0, 0, none⟩)), Drawn.SP.is (.agg #[.int .i64 pN, .int .i64 pT, .int .i64 pL, .int .i64 pW, .int .i64 pS, .int .i64 pR]), Drawn.SP.is (.slice (some ⟨b1, o1, none⟩) wl u1), Drawn.SP.is (.slice (some ⟨b2, o2, none⟩) sl u2), Drawn.SP.is (.slice (some ⟨b1, o1, none⟩) wl u1), Drawn.SP.is (.int .i64 (nd : Nat)), SP.intsD (who.drop nd) (wl - nd), SP.secr pts pl, SP.tell b0 (some ⟨b2, o2, none⟩) sh u2 nd pl wts, SP.tell b0 (some ⟨b2, o2, none⟩) sh u2 nd pl wts] (by kernel_rfl) (by kernel_rfl) ?_ ?_
  · intro i hi a w3 hb hev hdep
    rcases (show i = 0 ∨ i = 1 ∨ i = 2 ∨ i = 3 ∨ i = 4 ∨ i = 5 ∨ i = 6 ∨ i = 7 ∨ i = 8 ∨ i = 9 by omega) with rfl | rfl | rfl | rfl | rfl | rfl | rfl | rfl | rfl | rfl
    · have e0 : a.tmps[0]?.getD undef = .pointer (some ⟨b0, 0, none⟩) := hev 0 rfl
      refine Drawn.wpOp_flow 22 rfl rfl rfl ?_
      clear hev hdep hb
      go_simp
      exact ⟨_, rfl, rfl, Below.refl _ _⟩
    · have e6 : a.tmps[6]?.getD undef = .pointer (some ⟨w.heap.size, 0, none⟩) := hev 6 rfl
      refine Drawn.wpOp_flow 23 rfl rfl rfl ?_
      have c0 := (HX2.out.below hb).c0; have c1 := (HX2.out.below hb).c1; have c2 := (HX2.out.below hb).c2; have c3 := (HX2.out.below hb).c3; have c4 := (HX2.out.below hb).c4; have c5 := (HX2.out.below hb).c5
      simp only at c0 c1 c2 c3 c4 c5
      clear hev hdep hb
      go_simp
      exact ⟨_, rfl, rfl, Below.refl _ _⟩
    · have e3 : a.tmps[3]?.getD undef = .slice (some ⟨b1, o1, none⟩) wl u1 := hev 3 rfl
      refine Drawn.wpOp_flow 24 rfl rfl rfl ?_
      clear hev hdep hb
      go_simp
      exact ⟨_, rfl, rfl, Below.refl _ _⟩
    · have e4 : a.tmps[4]?.getD undef = .slice (some ⟨b2, o2, none⟩) sl u2 := hev 4 rfl
      refine Drawn.wpOp_flow 25 rfl rfl rfl ?_
      clear hev hdep hb
      go_simp
      exact ⟨_, rfl, rfl, Below.refl _ _⟩
    · have e3 : a.tmps[3]?.getD undef = .slice (some ⟨b1, o1, none⟩) wl u1 := hev 3 rfl
      refine Drawn.wpOp_flow 26 rfl rfl rfl ?_
      clear hev hdep hb
      go_simp
      exact ⟨_, rfl, rfl, Below.refl _ _⟩
    · have e11 : a.tmps[11]?.getD undef = .int .i64 (nd : Nat) := hev 11 rfl
      refine Drawn.wpOp_flow 27 rfl rfl rfl ?_
      clear hev hdep hb
      go_simp
      exact ⟨_, rfl, rfl, Below.refl _ _⟩
    · have d4 : a.tmps[26]?.getD undef = .slice (some ⟨b1, o1, none⟩) wl u1 := hdep 4 rfl
      have d5 : a.tmps[27]?.getD undef = .int .i64 (nd : Nat) := hdep 5 rfl
      refine Drawn.wpOp_flow 28 rfl rfl rfl ?_
      clear hev hdep
      obtain ⟨X, hX, hXi⟩ := HD1.out w3 (H1.out.below (bstep HB2.out hb))
      have HXI := Lib.hid hXi
      have hj1 : nd ≤ u1 := by omega
      clear hb hXi
      by_cases hcap : u1 = nd
      · rw [if_pos hcap] at hX
        subst hX
        go_simp
        exact ⟨_, rfl, ⟨_, _, rfl, by omega, by unfold maxLen; omega, HXI.out⟩, Below.refl _ _⟩
      · rw [if_neg hcap] at hX
        subst hX
        go_simp
        exact ⟨_, rfl, ⟨_, _, rfl, by omega, by unfold maxLen; omega, HXI.out⟩, Below.refl _ _⟩
    · obtain ⟨Xi, di, d6, i1, i2, i3⟩ : (SP.intsD (who.drop nd) (wl - nd)).p (a.tmps[28]?.getD undef) w3 := hdep 6 rfl
      refine Drawn.wpOp_flow 29 rfl rfl rfl ?_
      clear hev hdep
      have C := HC6.out Xi di w3 i3 i1 i2
      clear hb i3
      go_simp
      refine C.mono ?_
      rintro e w' ⟨X, d, rfl, _, _, hX, hb', _⟩
      rw [← HPL.out]
      exact ⟨_, rfl, ⟨X, d, rfl, hX⟩, hb'⟩
    · have d0 : a.tmps[22]?.getD undef = .pointer (some ⟨b0, 0, none⟩) := hdep 0 rfl
      have d1 : a.tmps[23]?.getD undef = .agg #[.int .i64 pN, .int .i64 pT, .int .i64 pL, .int .i64 pW, .int .i64 pS, .int .i64 pR] := hdep 1 rfl
      have d2 : a.tmps[24]?.getD undef = .slice (some ⟨b1, o1, none⟩) wl u1 := hdep 2 rfl
      have d3 : a.tmps[25]?.getD undef = .slice (some ⟨b2, o2, none⟩) sl u2 := hdep 3 rfl
      obtain ⟨Xs, ds, d7, hs1⟩ : (SP.secr pts pl).p (a.tmps[29]?.getD undef) w3 := hdep 7 rfl
      refine Drawn.wpOp_flow 30 rfl rfl rfl ?_
      clear hev hdep
      have hbw := bstep HB2.out hb
      have C := HC3.out w3 Xs ds (HT.out.below hbw) (H1.out.below hbw) (H2.out.below hbw) hs1
      clear hb hbw hs1
      go_simp
      refine C.mono ?_
      rintro e w' ⟨gs, gn, gp, gf, gw, X, dx, rfl, va, hdx, hb'⟩
      exact ⟨_, rfl, ⟨gs, gn, gp, gf, gw, Xs, ds, X, dx, rfl, va, hdx⟩, hb'⟩
    · have d8 := hdep 8 rfl
      refine Drawn.wpOp_flow 12 rfl rfl rfl ?_
      clear hev hdep hb
      go_simp
      exact ⟨_, rfl, d8, Below.refl _ _⟩
  · intro xq w3 hb hxq
    have vq0 : xq 0 = .pointer (some ⟨b0, 0, none⟩) := hxq 0 (by omega)
    have vq1 : xq 1 = .agg #[.int .i64 pN, .int .i64 pT, .int .i64 pL, .int .i64 pW, .int .i64 pS, .int .i64 pR] := hxq 1 (by omega)
    have vq2 : xq 2 = .slice (some ⟨b1, o1, none⟩) wl u1 := hxq 2 (by omega)
    have vq3 : xq 3 = .slice (some ⟨b2, o2, none⟩) sl u2 := hxq 3 (by omega)
    have vq4 : xq 4 = .slice (some ⟨b1, o1, none⟩) wl u1 := hxq 4 (by omega)
    have vq5 : xq 5 = .int .i64 (nd : Nat) := hxq 5 (by omega)
    obtain ⟨gs, gn, gp, gf, gw, Pp, dp, Xt, dt, vq9, va, hdx⟩ : (SP.tell b0 (some ⟨b2, o2, none⟩) sh u2 nd pl wts).p (xq 9) w3 := hxq 9 (by omega)
    show Exit.then _ _ Exit.normal (Drawn.acts _ [(12, some (xq 9)), (30, some (xq 8)), (29, some (xq 7)), (28, some (xq 6)), (27, some (xq 5)), (26, some (xq 4)), (25, some (xq 3)), (24, some (xq 2)), (23, some (xq 1)), (22, some (xq 0))]) _
    rw [vq0, vq1, vq2, vq3, vq4, vq5, vq9]
    clear hxq vq0 vq1 vq2 vq3 vq4 vq5 vq9
    generalize xq 6 = yq6
    generalize xq 7 = yq7
    generalize xq 8 = yq8
    clear xq
    simp only [Drawn.acts]
    go_simp
  --ENDA--
    have HVA := Lib.hid va; have HB3 := Lib.hid (bstep HB2.out hb)
    have c0 := (HX2.out.below hb).c0; have c1 := (HX2.out.below hb).c1; have c2 := (HX2.out.below hb).c2; have c3 := (HX2.out.below hb).c3; have c4 := (HX2.out.below hb).c4; have c5 := (HX2.out.below hb).c5
    simp only at c0 c1 c2 c3 c4 c5
    clear va hb
    go_wp2_with fail
    refine (HC1.out _).mono ?_
    rintro e w4 ⟨rfl, hb4⟩
    clear c0 c1 c2 c3 c4 c5
    have HB4 := Lib.hid hb4
    have HBW4 := Lib.hid (bstep HB3.out hb4)
    clear hb4
    go_wp2_with fail
    go_loopw [34] (fun i wr => ∃ k : Nat, k ≤ n ∧ i = .int .i64 k ∧ Below w.heap.size w wr ∧ Below w3.heap.size w3 wr ∧ ∀ j, j < k → E j = true)
      (fun i _ => n - (intOf i).toNat)
    case atStart => exact ⟨0, Nat.zero_le _, rfl, HBW4.out, HB4.out, fun j h => by omega⟩
    case round =>
      obtain ⟨k, hk, rfl, hbr, hb3r, hall⟩ := hrel
      rename World => wr
      have HALL := Lib.hid hall; have HBR := Lib.hid hbr; have HB3R := Lib.hid hb3r
      have HV := Lib.hid (HVA.out.below hb3r)
      clear hall hbr hb3r
      by_cases hlt : k < n
      · have hj2 : nd ≤ u2 := by omega
        by_cases hcap : u2 = nd
        · subst hcap
          have hC7 := HC7.out k hlt (some ⟨b2, o2, none⟩) 0 wr (by
            rw [List.drop_eq_nil_of_le (by rw [← HSL.out]; omega)]; exact RowsAt.nil _ _)
          rw [Nat.sub_eq_zero_of_le k2] at hC7
          have HC7K := Lib.hid hC7
          clear hC7
          go_wp2_with fail
          refine HC7K.out.mono ?_
          rintro e w5 ⟨Y, dY, rfl, _, _, hY, hb5, _⟩
          have HY := Lib.hid hY; have HB5 := Lib.hid hb5
          have C := HC4.out k hlt gs gn gp gf gw Pp dp Xt dt w5 (HV.out.below hb5) hdx
          have HCC := Lib.hid C
          clear hY hb5 C HC7K
          go_wp2_with fail
          refine HCC.out.mono ?_
          rintro e w6 ⟨Z, dZ, rfl, _, _, hZ, hb6, _⟩
          have C := Equal.equal_any Y Z (L k) (R k) dY dZ w6 (HY.out.below hb6) hZ
          rw [← HE.out k] at C
          have HCE := Lib.hid C
          have HB6 := Lib.hid (bstep HB5.out hb6)
          clear hZ hb6 C HCC HY
          obtain ⟨ek, hek⟩ : ∃ ek, ek = E k := ⟨_, rfl⟩
          rw [← hek] at HCE
          have HEK := Lib.hid hek
          clear hek
          cases ek
          · go_wp2_with fail
            refine HCE.out.mono ?_
            rintro e w7 ⟨rfl, rfl⟩
            go_wp2
            go_ret
            exact ⟨ret_bool (all_no hlt HEK.out.symm).symm, bstep HBR.out HB6.out⟩
          · go_wp2_with fail
            refine HCE.out.mono ?_
            rintro e w7 ⟨rfl, rfl⟩
            go_wp2
            go_roundw
            case rel =>
              refine ⟨k + 1, by omega, by go_num, bstep HBR.out HB6.out, bstep HB3R.out HB6.out, fun j hj => ?_⟩
              by_cases e : j = k
              · subst e; exact HEK.out.symm
              · exact HALL.out j (by omega)
            case measure => simp [intOf] <;> omega
        · have hcap2 : ¬ u2 = nd := hcap
          have hC7 := HC7.out k hlt (some ⟨b2, o2 + nd, none⟩) (u2 - nd) wr (by
            exact RowsAt.drop (H2.out.below HBR.out) nd)
          have HC7K := Lib.hid hC7
          clear hC7
          go_wp2_with fail
          refine HC7K.out.mono ?_
          rintro e w5 ⟨Y, dY, rfl, _, _, hY, hb5, _⟩
          have HY := Lib.hid hY; have HB5 := Lib.hid hb5
          have C := HC4.out k hlt gs gn gp gf gw Pp dp Xt dt w5 (HV.out.below hb5) hdx
          have HCC := Lib.hid C
          clear hY hb5 C HC7K
          go_wp2_with fail
          refine HCC.out.mono ?_
          rintro e w6 ⟨Z, dZ, rfl, _, _, hZ, hb6, _⟩
          have C := Equal.equal_any Y Z (L k) (R k) dY dZ w6 (HY.out.below hb6) hZ
          rw [← HE.out k] at C
          have HCE := Lib.hid C
          have HB6 := Lib.hid (bstep HB5.out hb6)
          clear hZ hb6 C HCC HY
          obtain ⟨ek, hek⟩ : ∃ ek, ek = E k := ⟨_, rfl⟩
          rw [← hek] at HCE
          have HEK := Lib.hid hek
          clear hek
          cases ek
          · go_wp2_with fail
            refine HCE.out.mono ?_
            rintro e w7 ⟨rfl, rfl⟩
            go_wp2
            go_ret
            exact ⟨ret_bool (all_no hlt HEK.out.symm).symm, bstep HBR.out HB6.out⟩
          · go_wp2_with fail
            refine HCE.out.mono ?_
            rintro e w7 ⟨rfl, rfl⟩
            go_wp2
            go_roundw
            case rel =>
              refine ⟨k + 1, by omega, by go_num, bstep HBR.out HB6.out, bstep HB3R.out HB6.out, fun j hj => ?_⟩
              by_cases e : j = k
              · subst e; exact HEK.out.symm
              · exact HALL.out j (by omega)
            case measure => simp [intOf] <;> omega
      · obtain rfl : k = n := by omega
        go_wp2
        go_ret
        exact ⟨ret_bool (all_yes fun j hj => HALL.out j hj).symm, HBR.out⟩

theorem blob_any (b0 : Nat) (p : P) (size : Int) (A1 A2 : Option Addr) (who : List Int) (sh : List (List UInt8)) (u1 u2 : Nat) (w : World) (hp : p.In) (hs : In64 size) (ht : Gf.Tab w b0) (h1 : IntsAt w A1 who) (k1 : who.length ≤ u1) (z1 : u1 ≤ maxLen) (hi : ∀ x ∈ who, In64 x) (h2 : RowsAt w A2 sh) (k2 : sh.length ≤ u2) (z2 : u2 ≤ maxLen)
    (hw : who.length ≤ 1048576) (hl : sh.length ≤ 1048576) :
    Calls Try.prog 24 #[.pointer (some ⟨b0, 0, none⟩), p.val, .int .i64 size, .slice A1 who.length u1, .slice A2 sh.length u2] w (RetBytesE w (rblobA p size who sh) (rcheck p size who sh)) := by
  unfold rblobA
  by_cases hr : rcheck p size who sh = 0
  · rw [if_pos hr, hr]
    exact blob_yes b0 p size A1 A2 who sh u1 u2 w hp hs ht h1 k1 z1 hi h2 k2 z2 hw hl hr
  · rw [if_neg hr]
    exact blob_no b0 p size A1 A2 who sh u1 u2 w hp hs h1 k1 z1 hi h2 hw hl hr
theorem agree_any (b0 : Nat) (p : P) (size : Int) (A1 A2 : Option Addr) (who : List Int) (sh : List (List UInt8)) (u1 u2 : Nat) (w : World) (hp : p.In) (hs : In64 size) (ht : Gf.Tab w b0) (h1 : IntsAt w A1 who) (k1 : who.length ≤ u1) (z1 : u1 ≤ maxLen) (hi : ∀ x ∈ who, In64 x) (h2 : RowsAt w A2 sh) (k2 : sh.length ≤ u2) (z2 : u2 ≤ maxLen)
    (hw : who.length ≤ 1048576) (hl : sh.length ≤ 1048576) :
    Calls Try.prog 25 #[.pointer (some ⟨b0, 0, none⟩), p.val, .int .i64 size, .slice A1 who.length u1, .slice A2 sh.length u2] w (Says w (.bool (ragreeA p size who sh))) := by
  unfold ragreeA
  by_cases hr : rcheck p size who sh = 0
  · rw [decide_eq_true hr, Bool.true_and]
    exact agree_yes b0 p size A1 A2 who sh u1 u2 w hp hs ht h1 k1 z1 hi h2 k2 z2 hw hl hr
  · rw [decide_eq_false hr, Bool.false_and]
    exact agree_no b0 p size A1 A2 who sh u1 u2 w hp hs h1 k1 z1 hi h2 hw hl hr
end Go.Proofs.Ytofhklimofdepaa.Rebuild
