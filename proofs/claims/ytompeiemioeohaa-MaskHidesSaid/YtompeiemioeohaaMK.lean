/- merged: MaskA, MaskB, MaskC, MaskD, MaskE -/
import Derived.Test.YtompeiemioeohaaMP
import Derived.Test.YtompeiemioeohaaShiftMath
import Derived.Test.YtompeiemioeohaaCrcA
import Derived.Test.YtompeiemioeohaaPoly
import Derived.Test.YtompeiemioeohaaFlow
import Derived.Test.YtompeiemioeohaaLagr
import Derived.Test.YtompeiemioeohaaMS

/- package mask: what it calls of Go's library: Contains, IndexFunc, DeleteFunc, Concat at numbers -/
set_option maxRecDepth 100000
namespace Go.Proofs.Ytompeiemioeohaa.Mask
open Go.RowKit PlanM StripeM DealM RebM ZeroM MaskM Plan

/-- numbers that are handed back, in a block that is just they -/
def RetRowI (w : World) (l : List Int) (e : Ending) (w' : World) : Prop :=
  ∃ g, e = .returned (.slice (some ⟨g, 0, none⟩) l.length l.length) ∧ RowI w' g l ∧ w.heap.size ≤ g ∧ Below w.heap.size w w'

theorem numbers_row (a : Int) (n : Nat) (w : World) (hn : n ≤ 1048576) (h1 : -9223372036854775808 ≤ a) (h2 : a + n ≤ 9223372036854775807) :
    Calls Try.prog 79 #[.int .i64 a, .int .i64 (n : Nat)] w (RetRowI w (nums a n)) := by
  have hmk := fun W => make_ints n hn W
  go_enter Try.func79, Try.ntmps79
  go_wp2
  clear hmk
  go_loopw [11] (fun i wr => ∃ k : Nat, k ≤ n ∧ i = .int .i64 k ∧ RowI wr w.heap.size (numsTo a n k) ∧ Below w.heap.size w wr)
    (fun i _ => n - (intOf i).toNat)
  case atStart => exact ⟨0, Nat.zero_le _, rfl, by rw [numsTo_zero]; exact RowI.new _ _, (Below.refl _ _).alloc (Nat.le_refl _) _⟩
  case round =>
    obtain ⟨k, hk, rfl, hr, hb⟩ := hrel
    by_cases hlt : k < n
    · have hs := numsTo_succ a n k hlt
      have HS := Lib.hid hs
      have hlen := numsTo_len a n k hk
      have hc := hr.cell k (by rw [hlen]; exact hlt)
      have hf := hr.frozen k
      have HR := Lib.hid hr
      have hz := hr.lt
      have i1 : IntKind.i64.wrap (a + (k : Int)) = a + k := IntWalk.i64_in _ (by omega)
      clear hs hr
      go_wp2
      go_roundw
      case rel =>
        refine ⟨k + 1, by omega, by go_num, ?_, ?_⟩
        · rw [← HS.out]; exact HR.out.set k _
        · exact hb.setCell (Nat.le_refl _) _
      case measure => simp [intOf] <;> omega
    · obtain rfl : k = n := by omega
      have HR := Lib.hid hr
      go_wp2
      go_ret
      have hr := HR.out
      rw [numsTo_done] at hr
      exact ⟨_, by rw [nums_len]; rfl, hr, Nat.le_refl _, hb⟩

theorem All_body_row (g : Nat) (p : P) (w : World) (h : Six w g p) (hM : p.May) : Calls Try.prog 101 #[.pointer (some ⟨g, 0, none⟩)] w (RetRowI w (all p.N.toNat)) := by
  obtain ⟨N, T, L, W, S, R⟩ := p
  obtain ⟨c0, c1, c2, c3, c4, c5⟩ := h
  unfold P.May at hM
  simp only at *
  obtain ⟨n, hn⟩ : ∃ n : Nat, N = n := ⟨N.toNat, by omega⟩
  subst hn
  have HN := Lib.hid (fun W => numbers_row 1 n W (by omega) (by omega) (by omega))
  rw [nums_all] at HN
  rw [Int.toNat_natCast]
  generalize all n = l at *
  clear hM
  go_enter Try.func101, Try.ntmps101
  go_wp2_with fail
  refine (HN.out _).mono ?_
  rintro e w1 ⟨g1, rfl, h1, h2, hb2⟩
  go_wp2
  go_ret
  exact ⟨g1, rfl, h1, h2, hb2⟩
theorem of_All_row (p : P) (g : Nat) (l : List Int) (w : World) (hp : p.In) (hM : p.May) (hq : ∀ W, Below w.heap.size w W → Calls Try.prog 101 #[.pointer (some ⟨g, 0, none⟩)] W (RetRowI W l)) :
    Calls Try.prog 100 #[p.val, .func (.func 101) #[] #[.pointer (some ⟨g, 0, none⟩)]] w (RetRowI w l) := by
  have HR := Lib.hid (fun W => right_any p W hp)
  have HQ := Lib.hid hq
  rw [P.right_yes hM] at HR
  clear hM hq
  obtain ⟨N, T, L, W, S, R⟩ := p
  unfold P.val at HR ⊢
  clear hp
  go_enter Try.func100, Try.ntmps100
  go_wp2_with fail
  refine (HR.out _).mono ?_
  rintro e w1 ⟨rfl, hb1⟩
  go_wp2_with fail
  refine (HQ.out w1 (bstep (balloc _ _) hb1)).mono ?_
  rintro e w2 ⟨g1, rfl, h1, h2, hb2⟩
  go_wp2
  go_ret
  exact ⟨g1, rfl, h1, Nat.le_trans (bstep (balloc _ _) hb1).size h2, bstep (balloc _ _) (bstep hb1 hb2)⟩
theorem all_row (p : P) (w : World) (hp : p.In) (hM : p.May) : Calls Try.prog 62 #[p.val] w (RetRowI w (all p.N.toNat)) := by
  obtain ⟨N, T, L, W, S, R⟩ := p
  have HC : ∀ V, Below (w.alloc (.cells #[.int .i64 N, .int .i64 T, .int .i64 L, .int .i64 W, .int .i64 S, .int .i64 R] 23)).heap.size (w.alloc (.cells #[.int .i64 N, .int .i64 T, .int .i64 L, .int .i64 W, .int .i64 S, .int .i64 R] 23)) V → Calls Try.prog 101 #[.pointer (some ⟨w.heap.size, 0, none⟩)] V (RetRowI V (all N.toNat)) := fun V hb => All_body_row w.heap.size ⟨N, T, L, W, S, R⟩ V (Six.below (Six.new w ⟨N, T, L, W, S, R⟩) hb) hM
  have HO := Lib.hid (of_All_row ⟨N, T, L, W, S, R⟩ w.heap.size _ (w.alloc (.cells #[.int .i64 N, .int .i64 T, .int .i64 L, .int .i64 W, .int .i64 S, .int .i64 R] 23)) hp hM HC)
  have HB := Lib.hid (balloc w _ : Below w.heap.size w (w.alloc (.cells #[.int .i64 N, .int .i64 T, .int .i64 L, .int .i64 W, .int .i64 S, .int .i64 R] 23)))
  clear HC hM hp
  unfold P.val at HO ⊢
  go_enter Try.func62, Try.ntmps62
  go_wp2_with fail
  refine HO.out.mono ?_
  rintro e w2 ⟨g1, rfl, h1, h2, hb2⟩
  go_wp2
  go_ret
  exact ⟨g1, rfl, h1, Nat.le_trans HB.out.size h2, bstep HB.out hb2⟩

/-! is a number among others? -/
theorem index_any (A : Option Addr) (who : List Int) (c : Nat) (t : Int) (w : World) (h : IntsAt w A who) (hm : who.length ≤ 1048576) :
    Calls Try.prog 109 #[.slice A who.length c, .int .i64 t] w fun e w' => (∃ r : Int, e = .returned (.int .i64 r) ∧ decide (0 ≤ r) = who.contains t) ∧ w = w' := by
  have H := Lib.hid h
  clear h
  go_enter Try.func109, Try.ntmps109
  go_wp2
  go_loopw [8] (fun i wr => ∃ k : Nat, k ≤ who.length ∧ i = .int .i64 k ∧ w = wr ∧ ∀ j, (hj : j < who.length) → j < k → who[j] ≠ t)
    (fun i _ => who.length - (intOf i).toNat)
  case atStart => exact ⟨0, Nat.zero_le _, rfl, rfl, fun j _ h => by omega⟩
  case round =>
    obtain ⟨k, hk, rfl, rfl, hall⟩ := hrel
    have HALL := Lib.hid hall
    clear hall
    by_cases hlt : k < who.length
    · obtain ⟨b, o, rfl, e0⟩ := H.out.at hlt
      obtain ⟨x, hx⟩ : ∃ x, x = who[k] := ⟨_, rfl⟩
      rw [← hx] at e0
      have HX := Lib.hid hx
      clear hx
      by_cases hxt : t = x
      · have HXT := Lib.hid hxt
        have hd : (t == x) = true := by simpa using hxt
        clear hxt
        go_wp2
        go_ret
        exact ⟨⟨k, rfl, by rw [show who.contains t = true from by rw [List.contains_iff_mem, HXT.out, HX.out]; exact List.getElem_mem hlt]; simp⟩, rfl⟩
      · have HXT := Lib.hid hxt
        have hd : (t == x) = false := by simpa using hxt
        go_wp2
        go_roundw
        case rel =>
          refine ⟨k + 1, by omega, by go_num, by first | trivial | rfl, fun j hj hjk => ?_⟩
          by_cases e : j = k
          · subst e; rw [← HX.out]; exact fun e => HXT.out e.symm
          · exact HALL.out j hj (by omega)
        case measure => simp [intOf] <;> omega
    · obtain rfl : k = who.length := by omega
      go_wp2
      go_ret
      exact ⟨⟨-1, rfl, by rw [show who.contains t = false from by rw [List.contains_eq_any_beq, List.any_eq_false]; intro x hx; obtain ⟨i, hi, rfl⟩ := List.mem_iff_getElem.mp hx; simpa using fun e : t = who[i] => HALL.out i hi hi e.symm]; rfl⟩, rfl⟩
theorem contains_any (A : Option Addr) (who : List Int) (c : Nat) (t : Int) (w : World) (h : IntsAt w A who) (hm : who.length ≤ 1048576) :
    Calls Try.prog 74 #[.slice A who.length c, .int .i64 t] w fun e w' => e = .returned (.bool (who.contains t)) ∧ w = w' := by
  have hC := index_any A who c t w h hm
  clear h
  generalize who.contains t = al at *
  have HC := Lib.hid hC
  clear hC
  go_enter Try.func74, Try.ntmps74
  go_wp2_with fail
  refine HC.out.mono ?_
  rintro e w' ⟨⟨r, rfl, hr⟩, rfl⟩
  rcases al with _ | _
  · have h0 : ¬ 0 ≤ r := of_decide_eq_false hr
    clear hr
    go_wp2
    go_ret
    exact ⟨by first | (simp; done) | (simp; omega), rfl⟩
  · have h0 : 0 ≤ r := of_decide_eq_true hr
    clear hr
    go_wp2
    go_ret
    exact ⟨by first | (simp; done) | (simp; omega), rfl⟩
theorem withO1_any (g : Nat) (A : Option Addr) (who : List Int) (c : Nat) (i : Int) (w : World) (hs : w.cell? ⟨g, 0, none⟩ = some (.slice A who.length c)) (h : IntsAt w A who) (hm : who.length ≤ 1048576) :
    Calls Try.prog 73 #[.int .i64 i, .pointer (some ⟨g, 0, none⟩)] w fun e w' => e = .returned (.bool (who.contains i)) ∧ w = w' := by
  have HC := Lib.hid (contains_any A who c i w h hm)
  clear h
  generalize who.contains i = al at *
  go_enter Try.func73, Try.ntmps73
  go_wp2_with fail
  refine HC.out.mono ?_
  rintro e w' ⟨rfl, rfl⟩
  go_wp2
  go_ret
  exact ⟨rfl, rfl⟩
/-- the first number of a list that is among others, or -1 -/
theorem indexO_any (g : Nat) (A B : Option Addr) (who l : List Int) (c cl : Nat) (w : World) (hs : w.cell? ⟨g, 0, none⟩ = some (.slice A who.length c)) (h : IntsAt w A who) (hm : who.length ≤ 1048576) (hl : IntsAt w B l) (hlm : l.length ≤ 1048576) :
    Calls Try.prog 108 #[.slice B l.length cl, .func (.func 73) #[] #[.pointer (some ⟨g, 0, none⟩)]] w fun e w' => ((e = .returned (.int .i64 (-1)) ∧ ∀ j, (hj : j < l.length) → who.contains l[j] = false) ∨ ∃ k : Nat, ∃ hk : k < l.length, e = .returned (.int .i64 k) ∧ who.contains l[k] = true ∧ ∀ j, (hj : j < l.length) → j < k → who.contains l[j] = false) ∧ w = w' := by
  have H := Lib.hid hl
  have HC := Lib.hid (fun i => withO1_any g A who c i w hs h hm)
  clear hs h hl
  go_enter Try.func108, Try.ntmps108
  go_wp2
  go_loopw [8] (fun i wr => ∃ k : Nat, k ≤ l.length ∧ i = .int .i64 k ∧ w = wr ∧ ∀ j, (hj : j < l.length) → j < k → who.contains l[j] = false)
    (fun i _ => l.length - (intOf i).toNat)
  case atStart => exact ⟨0, Nat.zero_le _, rfl, rfl, fun j _ h => by omega⟩
  case round =>
    obtain ⟨k, hk, rfl, rfl, hall⟩ := hrel
    have HALL := Lib.hid hall
    clear hall
    by_cases hlt : k < l.length
    · obtain ⟨b, o, rfl, e0⟩ := H.out.at hlt
      have hC := HC.out l[k]
      obtain ⟨v, hv⟩ : ∃ v, v = who.contains l[k] := ⟨_, rfl⟩
      rw [← hv] at hC
      have HV := Lib.hid hv; have HC2 := Lib.hid hC
      clear hv hC
      cases v
      · go_wp2_with fail
        refine HC2.out.mono ?_
        rintro e w' ⟨rfl, rfl⟩
        go_wp2
        go_roundw
        case rel =>
          refine ⟨k + 1, by omega, by go_num, by first | trivial | rfl, fun j hj hjk => ?_⟩
          by_cases e : j = k
          · subst e; exact HV.out.symm
          · exact HALL.out j hj (by omega)
        case measure => simp [intOf] <;> omega
      · go_wp2_with fail
        refine HC2.out.mono ?_
        rintro e w' ⟨rfl, rfl⟩
        go_wp2
        go_ret
        exact ⟨.inr ⟨k, hlt, rfl, HV.out.symm, HALL.out⟩, rfl⟩
    · obtain rfl : k = l.length := by omega
      go_wp2
      go_ret
      exact ⟨.inl ⟨rfl, fun j hj => HALL.out j hj hj⟩, rfl⟩

/-! a list without some of its numbers -/
def kept (who l : List Int) : List Int := l.filter fun i => !(who.contains i)
theorem kept_none {who l : List Int} (h : ∀ j, (hj : j < l.length) → who.contains l[j] = false) : kept who l = l := by
  unfold kept
  rw [List.filter_eq_self]
  intro x hx
  obtain ⟨i, hi, rfl⟩ := List.mem_iff_getElem.mp hx
  rw [h i hi]; rfl
theorem kept_take_succ (who l : List Int) (k : Nat) (hk : k < l.length) : kept who (l.take (k + 1)) = kept who (l.take k) ++ (if who.contains l[k] then [] else [l[k]]) := by
  unfold kept
  rw [List.take_succ_eq_append_getElem hk, List.filter_append]
  congr 1
  rcases Bool.eq_false_or_eq_true (who.contains l[k]) with h | h
  · rw [h, if_pos rfl, List.filter_cons, h]; rfl
  · rw [h, if_neg (by simp), List.filter_cons, h]; rfl
theorem kept_le (who l : List Int) (k : Nat) : (kept who (l.take k)).length ≤ k := by
  unfold kept
  have := List.length_filter_le (fun i => !(who.contains i)) (l.take k)
  rw [List.length_take] at this
  omega
/-- what the row holds when j places are looked through -/
structure Moved (who l R : List Int) (i j : Nat) : Prop where
  len : R.length = l.length
  head : R.take i = kept who (l.take j)
  n : (kept who (l.take j)).length = i
  rest : ∀ t, j ≤ t → R[t]? = l[t]?
theorem Moved.start {who l : List Int} {k : Nat} (hk : k < l.length) (h : who.contains l[k] = true) (h0 : ∀ j, (hj : j < l.length) → j < k → who.contains l[j] = false) : Moved who l l k (k + 1) := by
  have e : kept who (l.take (k + 1)) = l.take k := by
    rw [kept_take_succ who l k hk, h, if_pos rfl, List.append_nil]
    exact kept_none fun j hj => by
      rw [List.getElem_take]
      rw [List.length_take] at hj
      exact h0 j (by omega) (by omega)
  exact ⟨rfl, e.symm, by rw [e, List.length_take]; omega, fun _ _ => rfl⟩
theorem Moved.skip {who l R : List Int} {i j : Nat} (h : Moved who l R i j) (hj : j < l.length) (hc : who.contains l[j] = true) : Moved who l R i (j + 1) := by
  have e : kept who (l.take (j + 1)) = kept who (l.take j) := by rw [kept_take_succ who l j hj, hc, if_pos rfl, List.append_nil]
  exact ⟨h.len, by rw [e]; exact h.head, by rw [e]; exact h.n, fun t ht => h.rest t (by omega)⟩
theorem Moved.le {who l R : List Int} {i j : Nat} (h : Moved who l R i j) : i ≤ j := by rw [← h.n]; exact kept_le who l j
theorem Moved.keep {who l R : List Int} {i j : Nat} (h : Moved who l R i j) (hj : j < l.length) (hc : who.contains l[j] = false) : Moved who l (R.set i l[j]) (i + 1) (j + 1) := by
  have hij := h.le
  have e : kept who (l.take (j + 1)) = kept who (l.take j) ++ [l[j]] := by rw [kept_take_succ who l j hj, hc, if_neg (by simp)]
  refine ⟨by rw [List.length_set]; exact h.len, ?_, by rw [e, List.length_append, h.n]; rfl, fun t ht => ?_⟩
  · rw [e, ← h.head, List.take_succ_eq_append_getElem (by rw [List.length_set, h.len]; omega), List.getElem_set_self, List.take_set_of_le (Nat.le_refl _)]
  · rw [List.getElem?_set_ne (by omega)]; exact h.rest t (by omega)
theorem Moved.at {who l R : List Int} {i j : Nat} (h : Moved who l R i j) (hj : j < l.length) (hj2 : j < R.length) : R[j] = l[j] := by
  have := h.rest j (Nat.le_refl _)
  rw [List.getElem?_eq_getElem hj2, List.getElem?_eq_getElem hj] at this
  injection this
theorem keeps_setCells (g : Nat) : ∀ (vs : List Value) (o : Nat) (w : World), Keeps (fun k => k = g) w (w.setCells g o vs)
  | [], _, w => Keeps.refl _ _
  | v :: r, o, w => by
    rw [World.setCells]
    exact (Keeps.set (fun k => k = g) w ⟨g, o, none⟩ v rfl).trans (keeps_setCells g r (o + 1) _)
theorem zero_int (w : World) : (zeroValue 3).run Try.prog w = .ok (.int .i64 0) w := by kernel_rfl

set_option maxHeartbeats 2000000 in
theorem delete_any (g gz : Nat) (A : Option Addr) (who l : List Int) (c : Nat) (w : World) (hl : RowI w g l) (hs : w.cell? ⟨gz, 0, none⟩ = some (.slice A who.length c)) (h : IntsAt w A who) (hm : who.length ≤ 1048576) (hlm : l.length ≤ 1048576)
    (hne : gz ≠ g) (hA : 0 < who.length → ∀ a, A = some a → a.block ≠ g) :
    Calls Try.prog 72 #[.slice (some ⟨g, 0, none⟩) l.length l.length, .func (.func 73) #[] #[.pointer (some ⟨gz, 0, none⟩)]] w
      fun e w' => e = .returned (.slice (some ⟨g, 0, none⟩) (kept who l).length l.length) ∧ IntsAt w' (some ⟨g, 0, none⟩) (kept who l) ∧ Keeps (fun k => k = g) w w' := by
  have HC := Lib.hid (fun i W (q : Keeps (fun k => k = g) w W) => withO1_any gz A who c i W (q.cell hs hne) (CellsAt.keep h q fun h0 a e => hA (by rw [intV_len] at h0; exact h0) a e) hm)
  have HI := Lib.hid (indexO_any gz A (some ⟨g, 0, none⟩) who l c l.length w hs h hm hl.ints hlm)
  have HL := Lib.hid hl
  clear hs h hl hA hne
  go_enter Try.func72, Try.ntmps72
  go_wp2_with fail
  refine HI.out.mono ?_
  rintro e w' ⟨hcase, rfl⟩
  rcases hcase with ⟨rfl, hnone⟩ | ⟨k, hk, rfl, hyes, hno⟩
  · have hk := kept_none hnone
    have HK := Lib.hid hk
    clear hk hnone
    go_wp2
    go_ret
    exact ⟨by rw [HK.out]; rfl, by rw [HK.out]; exact HL.out.ints, Keeps.refl _ _⟩
  · have HM := Lib.hid (Moved.start hk hyes hno)
    clear hyes hno
    go_wp2
    have hk1 : ((k : Int) == -1) = false := by rw [beq_eq_false_iff_ne]; omega
    rw [hk1]
    clear hk1
    go_loopw [5, 6] (fun vi vj wr => ∃ (i j : Nat) (R : List Int), j ≤ l.length ∧ i < j ∧ vi = .int .i64 i ∧ vj = .int .i64 j ∧ RowI wr g R ∧ Moved who l R i j ∧ Keeps (fun k => k = g) w wr)
      (fun _ j _ => l.length - (intOf j).toNat)
    case atStart => exact ⟨k, k + 1, l, by omega, by omega, rfl, by go_num, HL.out, HM.out, Keeps.refl _ _⟩
    case round =>
      obtain ⟨i, j, R, hj, hij, rfl, rfl, hR, hM, hkp⟩ := hrel
      rename World => wr
      have HR := Lib.hid hR; have HM2 := Lib.hid hM; have HK := Lib.hid hkp
      have hlen := hM.len
      clear hM hkp
      by_cases hlt : j < l.length
      · have hat := HM2.out.at hlt (by omega)
        have e0 := hR.cell j (by omega)
        rw [hat] at e0
        have e1 := hR.cell i (by omega)
        have hf := hR.frozen i
        obtain ⟨x, hx⟩ : ∃ x, x = l[j] := ⟨_, rfl⟩
        have hC := HC.out x wr HK.out
        rw [← hx] at e0
        obtain ⟨v, hv⟩ : ∃ v, v = who.contains x := ⟨_, rfl⟩
        rw [← hv] at hC
        generalize R[i] = y at e1
        have HX := Lib.hid hx; have HV := Lib.hid hv; have HC2 := Lib.hid hC
        clear hx hv hC hat hR
        cases v
        · go_wp2_with fail
          refine HC2.out.mono ?_
          rintro e w' ⟨rfl, rfl⟩
          go_wp2
          go_roundw
          case rel =>
            refine ⟨i + 1, j + 1, R.set i x, by omega, by omega, by go_num, by go_num, HR.out.set i x, ?_, HK.out.trans (Keeps.set (fun k => k = g) _ _ _ rfl)⟩
            rw [HX.out]; exact HM2.out.keep hlt (by rw [← HX.out]; exact HV.out.symm)
          case measure => simp [intOf] <;> omega
        · go_wp2_with fail
          refine HC2.out.mono ?_
          rintro e w' ⟨rfl, rfl⟩
          go_wp2
          go_roundw
          case rel => exact ⟨i, j + 1, R, by omega, by omega, rfl, by go_num, HR.out, HM2.out.skip hlt (by rw [← HX.out]; exact HV.out.symm), HK.out⟩
          case measure => simp [intOf] <;> omega
      · obtain rfl : j = l.length := by omega
        have hcl : ∀ ty, (Builtin.clear_ #[25] ty #[.slice (some ⟨g, i, none⟩) (l.length - i) (l.length - i)]).run Try.prog wr = .ok (.tuple #[]) (wr.setCells g i (List.replicate (l.length - i) (.int .i64 0))) :=
          fun ty => Lib.run_clear_slice wr _ _ ty _ Try.underlying25 zero_int rfl rfl g i _ _ (by omega) (fun t ht => by rw [HR.out.cell (i + t) (by omega)]; rfl) (fun t _ => HR.out.frozen _)
        have hn := HM2.out.n
        have hh := HM2.out.head
        rw [List.take_length] at hn hh
        have HCI := Lib.hid (fun W (q : ∀ t, t < i → W.cell? ⟨g, t, none⟩ = wr.cell? ⟨g, t, none⟩) => (show IntsAt W (some ⟨g, 0, none⟩) (kept who l) from fun t ht => ⟨g, 0, rfl, by
          rw [intV_len, hn] at ht
          rw [Nat.zero_add, q t ht, HR.out.cell t (by omega), intV_get]
          congr 2
          have : (R.take i)[t]? = (kept who l)[t]? := by rw [hh]
          rw [List.getElem?_take, if_pos ht, List.getElem?_eq_getElem (by omega), List.getElem?_eq_getElem (by omega)] at this
          injection this⟩))
        have HN := Lib.hid hn
        have HQ := Lib.hid (fun t (ht : t < i) => World.cell?_setCells_out g (List.replicate (l.length - i) (Value.int .i64 0)) i wr ⟨g, t, none⟩ (fun _ _ => Or.inl ht))
        have HK2 := Lib.hid (HK.out.trans (keeps_setCells g (List.replicate (l.length - i) (Value.int .i64 0)) i wr))
        clear hn hh hlen hR
        go_wp2
        go_ret
        exact ⟨by rw [HN.out]; rfl, HCI.out _ fun t ht => HQ.out t ht, HK2.out⟩

/-! lists of numbers, put together -/
def RowsI (w : World) (A : Option Addr) (m : List (List Int)) : Prop :=
  ∀ i, (h : i < m.length) → ∃ b o B c, A = some ⟨b, o, none⟩ ∧ w.cell? ⟨b, o + i, none⟩ = some (.slice B m[i].length c) ∧ IntsAt w B m[i]
theorem RowsI.below {w w' : World} {A : Option Addr} {m : List (List Int)} (h : RowsI w A m) (hb : Below w.heap.size w w') : RowsI w' A m := fun i hi => by
  obtain ⟨b, o, B, c, hA, hc, hB⟩ := h i hi
  exact ⟨b, o, B, c, hA, (hb.cell (p := ⟨b, o + i, none⟩) (cell_lt hc)).trans hc, hB.below hb⟩
theorem RowsI.lit2 {w : World} {A B : Option Addr} {l m : List Int} {c d : Nat} (h : IntsAt w A l) (k : IntsAt w B m) (t : TypeId) :
    RowsI (w.alloc (.cells #[.slice A l.length c, .slice B m.length d] t)) (some ⟨w.heap.size, 0, none⟩) [l, m] := fun i hi => by
  have h' := h.below (balloc w (.cells #[.slice A l.length c, .slice B m.length d] t))
  have k' := k.below (balloc w (.cells #[.slice A l.length c, .slice B m.length d] t))
  rcases (show i = 0 ∨ i = 1 by simp at hi; omega) with rfl | rfl
  · exact ⟨_, 0, A, c, rfl, by rw [World.cell?_alloc_new]; rfl, h'⟩
  · exact ⟨_, 0, B, d, rfl, by rw [World.cell?_alloc_new]; rfl, k'⟩
theorem rowsI_take (m : List (List Int)) (k : Nat) (h : k < m.length) : (m.take (k + 1)).flatten = (m.take k).flatten ++ m[k] := by
  rw [List.take_succ_eq_append_getElem h, List.flatten_append, List.flatten_cons, List.flatten_nil, List.append_nil]
theorem rowsI_le (m : List (List Int)) (k : Nat) : (m.take k).flatten.length ≤ m.flatten.length := by
  conv => rhs; rw [← List.take_append_drop k m]
  rw [List.flatten_append, List.length_append]; omega
theorem ownI_room (w : World) (c : Nat) (hc : c ≤ maxLen) (C : Array Value) (hC : C.size = c) : OwnI (w.alloc (.cells C 3)) w.heap.size (.slice (some ⟨w.heap.size, 0, none⟩) 0 c) [] :=
  ⟨rfl, .inr ⟨w.heap.size, c, C, rfl, Nat.le_refl _, heap_alloc_new w _, Nat.zero_le _, hc, by omega, by simp [intV]⟩⟩
theorem growI_nil (n : Nat) (w : World) (hn : n ≤ 1099511627) :
    Calls Try.prog 110 #[.slice none 0 0, .int .i64 n] w fun e w' => ∃ v, e = .returned v ∧ OwnI w' w.heap.size v [] ∧ Below w.heap.size w w' := by
  by_cases h0 : n = 0
  · subst h0
    go_enter Try.func110, Try.ntmps110
    go_wp2
    go_ret
    exact ⟨_, rfl, OwnI.nil _ _, Below.refl _ _⟩
  · obtain ⟨i0, hi, hz, hs, hb⟩ := int_info'
    have hr := Lib.run_append_nil_zeros (P := Try.prog) w 25 3 25 3 i0 _ .i64 .i64 Try.underlying25 Try.underlying3 hi hz n (by omega) (by omega) (by omega) (by rw [hb]; omega)
    have hge := grownCap_ge w n 0 3
    have hle := grownCap_le_maxLen w n 0 3 (by unfold maxLen; omega)
    generalize grownCap w n 0 3 = c at hr hge hle
    have hsz : (Builtin.zeroCells (Value.int IntKind.i64 0).cells n ++ Builtin.zeroCells (Value.int IntKind.i64 0).cells (c - n)).size = c := by
      rw [Array.size_append, size_zeroCells, size_zeroCells]; show n * 1 + (c - n) * 1 = c; omega
    generalize Builtin.zeroCells (Value.int IntKind.i64 0).cells n ++ Builtin.zeroCells (Value.int IntKind.i64 0).cells (c - n) = C at hr hsz
    have HS := Lib.hid hsz; have HR := Lib.hid hr
    clear hsz hz hs hb hi hr
    go_enter Try.func110, Try.ntmps110
    go_wp2_with (at_builtin; refine Lib.wpList_append_run _ rfl _ _ _ _ rfl _ _ rfl rfl _ _ HR.out ?_)
    go_ret
    exact ⟨_, rfl, (ownI_room w.drew c hle C HS.out), bstep (bdraw w 1) (balloc w.drew _)⟩
theorem concatI_any (A : Option Addr) (m : List (List Int)) (c : Nat) (w : World) (h : RowsI w A m) (hm : m.length ≤ 1048576) (hl : m.flatten.length ≤ 1048576) :
    Calls Try.prog 75 #[.slice A m.length c] w (RetInts w m.flatten) := by
  have H := Lib.hid h; have HL := Lib.hid hl
  clear h
  go_enter Try.func75, Try.ntmps75
  go_wp2
  go_loop [3, 11] (fun s i => ∃ k : Nat, k ≤ m.length ∧ i = .int .i64 k ∧ s = .int .i64 ((m.take k).flatten.length : Nat))
    (fun _ i => m.length - (intOf i).toNat)
  case atStart => exact ⟨0, by omega, rfl, rfl⟩
  case round =>
    obtain ⟨k, hk, rfl, rfl⟩ := hrel
    have hle := rowsI_le m k
    by_cases hlt : k < m.length
    · obtain ⟨b, o, B, d, rfl, hc, _⟩ := H.out k hlt
      have ht := rowsI_take m k hlt
      have hle2 := rowsI_le m (k + 1)
      rw [ht, List.length_append] at hle2
      have HT := Lib.hid ht
      clear ht
      obtain ⟨x, hx⟩ : ∃ x, x = (m.take k).flatten.length := ⟨_, rfl⟩
      obtain ⟨y, hy⟩ : ∃ y, y = m[k].length := ⟨_, rfl⟩
      rw [← hx, ← hy] at hle2
      rw [← hy] at hc
      rw [← hx]
      have HX := Lib.hid hx; have HY := Lib.hid hy
      clear hx hy hle
      go_wp2
      go_round
      case rel => exact ⟨k + 1, by omega, by go_num, by rw [HT.out, List.length_append, ← HX.out, ← HY.out]; go_num⟩
      case measure => simp [intOf] <;> omega
    · obtain rfl : k = m.length := by omega
      rw [List.take_length] at *
      obtain ⟨N, hN⟩ : ∃ N, N = m.flatten.length := ⟨_, rfl⟩
      rw [← hN] at hl hle ⊢
      have hN2 : N ≤ 1048576 := hl
      clear hN
      go_wp2_with fail
      refine (growI_nil N w (by omega)).mono ?_
      rintro e w1 ⟨v, rfl, hown, hb1⟩
      have HOW := Lib.hid hown
      clear hown
      go_wp2
      go_loopw [6, 27] (fun v i wr => ∃ k : Nat, k ≤ m.length ∧ i = .int .i64 k ∧ OwnI wr w.heap.size v (m.take k).flatten ∧ Below w.heap.size w wr)
        (fun _ i _ => m.length - (intOf i).toNat)
      case atStart => exact ⟨0, by omega, rfl, HOW.out, hb1⟩
      case round =>
        obtain ⟨k, hk, rfl, hown, hbw⟩ := hrel
        rename World => w2
        have HO := Lib.hid hown
        have H2 := H.out.below hbw
        clear hown HOW
        by_cases hlt : k < m.length
        · obtain ⟨b, o, B, d, rfl, hc, hB⟩ := H2 k hlt
          have HB := Lib.hid hB
          have ht := rowsI_take m k hlt
          have hle2 := rowsI_le m (k + 1)
          have hle2' := hle2
          have HT := Lib.hid ht
          have HF : Hid ((m.take k).flatten.length + m[k].length < 1099511627776) := Lib.hid (by have := HL.out; rw [ht, List.length_append] at hle2'; omega)
          clear ht H2 hB hle2 hle2'
          obtain ⟨y, hy⟩ : ∃ y, y = m[k].length := ⟨_, rfl⟩
          rw [← hy] at hc
          have hbz := hbw.size
          have HY := Lib.hid hy
          clear hy
          have hfin : (m.take k).flatten.length + y < 1099511627776 := by have := HF.out; have := HY.out; omega
          go_wp2_with (at_builtin; refine wpList_append_ints rfl _ _ rfl w.heap.size _ (m.take k).flatten rfl HO.out B y d m[k] rfl HY.out.symm HB.out hfin hbz ?_; intro v3 w3 ha; have HA3 := Lib.hid ha; clear ha)
          go_roundw
          case rel => exact ⟨k + 1, by omega, by go_num, by rw [HT.out]; exact HA3.out.own, HA3.out.below HO.out hbw (Nat.le_refl _) hbz⟩
          case measure => simp [intOf] <;> omega
        · obtain rfl : k = m.length := by omega
          have ho := HO.out
          rw [List.take_length] at ho
          obtain ⟨B, d, rfl, h1, h2, h3, h4⟩ := ho.ints
          have H3 := Lib.hid h3; have H4 := Lib.hid h4
          clear ho HO h3 h4
          obtain ⟨N2, hN2'⟩ : ∃ N2, N2 = m.flatten.length := ⟨_, rfl⟩
          rw [← hN2'] at h1 ⊢
          have HN3 := Lib.hid hN2'
          clear hN2'
          go_wp2
          go_ret
          exact ⟨B, d, by rw [← HN3.out]; rfl, by rw [← HN3.out]; exact h1, h2, H3.out, hbw, H4.out⟩

set_option maxHeartbeats 1000000 in
theorem withO_any (p : P) (A : Option Addr) (z : List Int) (c : Nat) (w : World) (hp : p.In) (hM : p.May) (h : IntsAt w A z) (hm : z.length ≤ 1048000) :
    Calls Try.prog 36 #[p.val, .slice A z.length c] w (RetInts w (withO p z)) := by
  have hN : p.N.toNat ≤ 256 := by unfold P.May at hM; omega
  have HALL := Lib.hid (fun V => all_row p V hp hM)
  have hw : withO p z = [z, kept z (all p.N.toNat)].flatten := by unfold withO others kept; simp
  have hkl := kept_le z (all p.N.toNat) (all p.N.toNat).length
  rw [List.take_length, all_len] at hkl
  have hal := all_len p.N.toNat
  rw [hw]
  have HD := Lib.hid (fun g gz V (hl : RowI V g (all p.N.toNat)) (hs : V.cell? ⟨gz, 0, none⟩ = some (.slice A z.length c)) (h : IntsAt V A z) hne hA => delete_any g gz A z (all p.N.toNat) c V hl hs h (by omega) (by omega) hne hA)
  have HF : Hid ([z, kept z (all p.N.toNat)].flatten.length ≤ 1048576) := Lib.hid (by simp; omega)
  generalize kept z (all p.N.toNat) = kp at *
  generalize all p.N.toNat = al at *
  have H := Lib.hid h
  clear hp hM h hw hkl hal hN
  obtain ⟨pN, pT, pL, pW, pS, pR⟩ := p
  unfold P.val at HALL ⊢
  have HB0 := Lib.hid (balloc w (.cells #[.int .i64 pN, .int .i64 pT, .int .i64 pL, .int .i64 pW, .int .i64 pS, .int .i64 pR] 23))
  have HS := Lib.hid (Six.new w ⟨pN, pT, pL, pW, pS, pR⟩)
  go_enter Try.func36, Try.ntmps36
  go_wp2_with fail
  have hz : (w.alloc (.cells #[.int .i64 pN, .int .i64 pT, .int .i64 pL, .int .i64 pW, .int .i64 pS, .int .i64 pR] 23)).heap.size = w.heap.size + 1 := by simp
  generalize w.alloc (.cells #[.int .i64 pN, .int .i64 pT, .int .i64 pL, .int .i64 pW, .int .i64 pS, .int .i64 pR] 23) = w1 at *
  have hb2 := balloc w1 (.cells #[.slice A z.length c] 25)
  have hc : (w1.alloc (.cells #[.slice A z.length c] 25)).cell? ⟨w1.heap.size, 0, none⟩ = some (.slice A z.length c) := by simp [World.cell?_alloc_new]
  rw [hz] at hc
  have hs2 := HS.out.below hb2
  have hz2 : w1.heap.size < (w1.alloc (.cells #[.slice A z.length c] 25)).heap.size := by simp
  generalize w1.alloc (.cells #[.slice A z.length c] 25) = w2 at *
  have HB2 := Lib.hid (bstep HB0.out hb2)
  have HC := Lib.hid hc
  have c0 := hs2.c0; have c1 := hs2.c1; have c2 := hs2.c2; have c3 := hs2.c3; have c4 := hs2.c4; have c5 := hs2.c5
  simp only at c0 c1 c2 c3 c4 c5
  clear hs2 hc hb2
  refine (HALL.out _).mono ?_
  rintro e w3 ⟨g, rfl, hg, hgl, hb3⟩
  clear c0 c1 c2 c3 c4 c5
  have hlt : w.heap.size + 1 < w2.heap.size := by omega
  have hc3 : w3.cell? ⟨w.heap.size + 1, 0, none⟩ = some (.slice A z.length c) := (hb3.cell (p := ⟨w.heap.size + 1, 0, none⟩) hlt).trans HC.out
  have hin3 := H.out.below (bstep HB2.out hb3)
  have hfar : 0 < z.length → ∀ a, A = some a → a.block ≠ g := fun h0 a e => by
    have := (CellsAt.lt H.out (by rw [intV_len]; exact h0)) a e
    have := HB2.out.size
    omega
  have HD3 := Lib.hid (HD.out g (w.heap.size + 1) w3 hg hc3 hin3 (by omega) hfar)
  have HC3 := Lib.hid hc3; have HIN := Lib.hid hin3; have HFAR := Lib.hid hfar
  have HB3 := Lib.hid (bstep HB2.out hb3)
  have hgw : w.heap.size ≤ g := by have := HB2.out.size; omega
  have hgne : w.heap.size + 1 ≠ g := by omega
  clear hg hc3 hin3 hfar hb3
  go_wp2_with fail
  refine HD3.out.mono ?_
  rintro e w4 ⟨rfl, hk4, hq⟩
  have hc4 : w4.cell? ⟨w.heap.size + 1, 0, none⟩ = some (.slice A z.length c) := hq.cell HC3.out hgne
  have hin4 : IntsAt w4 A z := CellsAt.keep HIN.out hq fun h0 a e => HFAR.out (by rw [intV_len] at h0; exact h0) a e
  have hb4 : Below w.heap.size w w4 := below_keeps HB3.out hq (fun k hk => by rw [hk]; exact hgw) HB3.out.size
  have hr := RowsI.lit2 (c := c) (d := al.length) hin4 hk4 25
  have HR := Lib.hid hr; have HB4 := Lib.hid hb4
  clear hin4 hk4 hq hr hb4
  generalize al.length = aln at *
  have HCC := Lib.hid (fun V A2 (hh : RowsI V A2 [z, kp]) => concatI_any A2 [z, kp] 2 V hh (by simp) HF.out)
  go_wp2_with fail
  refine (HCC.out _ _ HR.out).mono ?_
  rintro e w5 ⟨X, d, rfl, h1, h2, h3, hb5, h5⟩
  have HB5 := Lib.hid (bstep HB4.out (bstep (balloc w4 _) hb5))
  have H5 := Lib.hid (h5.mono (bstep HB4.out (balloc w4 _)).size)
  have H3 := Lib.hid h3
  clear hb5 h5 h3
  generalize [z, kp].flatten = res at *
  go_wp2
  go_ret
  exact ⟨X, d, rfl, h1, h2, H3.out, HB5.out, H5.out⟩
end Go.Proofs.Ytompeiemioeohaa.Mask

/- package mask: lists fitted, quotients one behind the other, who is no custodian -/
set_option maxRecDepth 100000
namespace Go.Proofs.Ytompeiemioeohaa.Mask
open Go.RowKit PlanM StripeM DealM RebM ZeroM MaskM Plan

theorem splice_sized (l : List UInt8) (n : Nat) : splice (List.replicate n 0) 0 (l.take n) = sized l n := by
  refine PolyM.list_ext ?_ fun k => ?_
  · simp [splice, sized_len]; omega
  · unfold splice sized
    rw [PolyM.co_tab]
    simp only [List.take_zero, List.nil_append, Nat.zero_add]
    by_cases h : k < (l.take n).length
    · have h' : k < n ∧ k < l.length := by rw [List.length_take] at h; omega
      rw [co_left _ _ h, if_pos h'.1, co_take, if_pos h'.1]
    · obtain ⟨j, rfl⟩ : ∃ j, k = (l.take n).length + j := ⟨k - (l.take n).length, by omega⟩
      rw [co_right, co_drop]
      have e : ∀ i, PolyM.co (List.replicate n (0 : UInt8)) i = 0 := fun i => by
        unfold PolyM.co; rw [List.getD_eq_getElem?_getD, List.getElem?_replicate]; split <;> rfl
      rw [e]
      split
      · rw [PolyM.co_ge l _ (by rw [List.length_take] at *; omega)]
      · rfl
theorem fit_any (A : Option Addr) (l : List UInt8) (c n : Nat) (w : World) (h : BytesAt w A l) (hn : n ≤ 1048576) :
    Calls Try.prog 41 #[.slice A l.length c, .int .i64 (n : Nat)] w (RetNew w (sized l n)) := by
  have hmk := fun W => make_u8 n (by omega) W
  have hsp := Lib.hid (splice_sized l n)
  have hsl := Lib.hid (sized_len l n)
  have HM := Lib.hid (show n ≤ maxLen from by unfold maxLen; omega)
  have hfit : 0 + min l.length n ≤ (List.replicate n (0 : UInt8)).length := by simp; omega
  have hrow := Row.new w (List.replicate n 0)
  have h' := h.alloc (.cells (cells (List.replicate n 0)) 5)
  clear h
  go_enter Try.func41, Try.ntmps41
  go_wp2_with (with_reducible refine wpList_copy_u8 rfl (.tmp 8) (.tmp 9) rfl (some ⟨w.heap.size, 0, none⟩) n n A l c rfl rfl w.heap.size 0 (List.replicate n 0) hrow (fun _ => rfl) h' hfit ?_; intro w1 hr1 hb1)
  rw [hsp.out] at hr1
  have HR := Lib.hid hr1
  have hb2 := Lib.hid (show Below w.heap.size w w1 from (balloc w _).trans hb1)
  clear hr1 hb1 h' hrow hfit hmk
  go_wp2
  go_ret
  have C := RetNew.of_row HR.out hb2.out (by rw [hsl.out]; exact HM.out) (Nat.le_refl _)
  rw [hsl.out] at C
  exact C

theorem quo1_any (b0 gq : Nat) (B : Option Addr) (l : List UInt8) (c : Nat) (x : UInt8) (w : World) (ht : Gf.Tab w b0) (hs : w.cell? ⟨gq, 0, none⟩ = some (.pointer (some ⟨b0, 0, none⟩))) (h : BytesAt w B l) (hl : l.length ≤ 1099511627776) :
    Calls Try.prog 90 #[.slice B l.length c, .int .u8 (x.toNat : Nat), .pointer (some ⟨gq, 0, none⟩)] w
      fun e w' => ∃ X d, e = .returned (.slice X (PolyM.quo l x).length d) ∧ BytesAt w' X (PolyM.quo l x) ∧ Below w.heap.size w w' := by
  have HO := Lib.hid (Poly.over_any b0 B l c x w ht h hl)
  clear ht h
  generalize PolyM.quo l x = q at *
  generalize PolyM.ev l x = y at *
  go_enter Try.func90, Try.ntmps90
  go_wp2_with fail
  refine HO.out.mono ?_
  rintro e w1 ⟨X, d, rfl, hX, hb⟩
  have HX := Lib.hid hX
  clear hX
  go_wp2
  go_ret
  exact ⟨X, d, rfl, HX.out, hb⟩
theorem quotient_any (b0 : Nat) (w : World) :
    Calls Try.prog 52 #[.pointer (some ⟨b0, 0, none⟩)] w fun e w' => e = .returned (.func (.func 90) #[] #[.pointer (some ⟨w.heap.size, 0, none⟩)]) ∧ w'.cell? ⟨w.heap.size, 0, none⟩ = some (.pointer (some ⟨b0, 0, none⟩)) ∧ Below w.heap.size w w' := by
  go_enter Try.func52, Try.ntmps52
  go_wp2
  go_ret
  exact ⟨rfl, by simp [World.cell?_alloc_new], balloc _ _⟩
set_option maxHeartbeats 1000000 in
theorem over_any (b0 gq : Nat) (A C : Option Addr) (l cs : List UInt8) (c cc : Nat) (w : World) (ht : Gf.Tab w b0) (hs : w.cell? ⟨gq, 0, none⟩ = some (.pointer (some ⟨b0, 0, none⟩))) (h : BytesAt w A l) (hl : l.length ≤ 1048576) (hc : BytesAt w C cs) (hcl : cs.length ≤ 1048576) :
    Calls Try.prog 51 #[.slice A l.length c, .func (.func 90) #[] #[.pointer (some ⟨gq, 0, none⟩)], .slice C cs.length cc] w
      fun e w' => ∃ X d, e = .returned (.slice X (overs l cs).length d) ∧ BytesAt w' X (overs l cs) ∧ Below w.heap.size w w' := by
  have HQ := Lib.hid (fun W (hb : Below w.heap.size w W) B p d x (hB : BytesAt W B p) (hp : p.length ≤ 1048576) => quo1_any b0 gq B p d x W (ht.below hb) ((hb.cell (p := ⟨gq, 0, none⟩) (cell_lt hs)).trans hs) hB (by omega))
  have HCS := Lib.hid hc
  have HL := Lib.hid (fun k => overs_len l (cs.take k))
  have HA := Lib.hid h
  have HZ : Hid (overs l (cs.take 0) = l) := Lib.hid (by rw [List.take_zero]; rfl)
  have HLL := Lib.hid hl
  clear ht hs h hc hl
  go_enter Try.func51, Try.ntmps51
  go_wp2
  go_loopw [0, 11] (fun v i wr => ∃ k : Nat, k ≤ cs.length ∧ i = .int .i64 k ∧ (∃ X d, v = .slice X (overs l (cs.take k)).length d ∧ BytesAt wr X (overs l (cs.take k))) ∧ Below w.heap.size w wr)
    (fun _ i _ => cs.length - (intOf i).toNat)
  case atStart => exact ⟨0, Nat.zero_le _, rfl, ⟨A, c, by rw [HZ.out], by rw [HZ.out]; exact HA.out⟩, Below.refl _ _⟩
  case round =>
    obtain ⟨k, hk, rfl, ⟨X, d, rfl, hX⟩, hb⟩ := hrel
    rename World => wr
    by_cases hlt : k < cs.length
    · obtain ⟨b, o, rfl, e0⟩ := (HCS.out.below hb) k hlt
      have hle := HL.out k
      have hst := overs_take_succ l cs k hlt
      have HST := Lib.hid hst
      have hxl : (overs l (cs.take k)).length ≤ 1048576 := by have := HLL.out; omega
      have hQ := HQ.out wr hb X (overs l (cs.take k)) d cs[k] hX hxl
      rw [← hst] at hQ
      have HQ2 := Lib.hid hQ
      clear hst hQ hle hX hxl
      generalize cs[k] = x at *
      generalize (overs l (cs.take k)).length = nk at *
      have HB := Lib.hid hb
      clear hb
      go_wp2_with fail
      refine HQ2.out.mono ?_
      rintro e w1 ⟨Y, e', rfl, hY, hb1⟩
      have HY := Lib.hid hY
      have HB1 := Lib.hid (bstep HB.out hb1)
      clear hY hb1
      obtain ⟨ny, hny⟩ : ∃ ny, ny = (overs l (cs.take (k + 1))).length := ⟨_, rfl⟩
      rw [← hny]
      have HNY := Lib.hid hny
      clear hny
      go_wp2
      go_roundw
      case rel => exact ⟨k + 1, by omega, by go_num, ⟨Y, e', by rw [HNY.out], HY.out⟩, HB1.out⟩
      case measure => simp [intOf] <;> omega
    · obtain rfl : k = cs.length := by omega
      have e : cs.take cs.length = cs := List.take_length
      rw [e] at hX ⊢
      have HX := Lib.hid hX
      clear hX
      obtain ⟨n, hn⟩ : ∃ n, n = (overs l cs).length := ⟨_, rfl⟩
      rw [← hn]
      have HN := Lib.hid hn
      clear hn
      go_wp2
      go_ret
      exact ⟨X, d, by rw [← HN.out]; rfl, HX.out, hb⟩

/-! is there one who is no custodian? -/
def noIs (p : P) (who : List Int) : Bool := who.any fun i => !(p.isA i)
theorem noIs_yes {p : P} {who : List Int} {i : Nat} (hi : i < who.length) (h : p.isA who[i] = false) : noIs p who = true := by
  unfold noIs
  rw [List.any_eq_true]; exact ⟨who[i], List.getElem_mem hi, by rw [h]; rfl⟩
theorem noIs_no {p : P} {who : List Int} (h : ∀ i, (hi : i < who.length) → p.isA who[i] = true) : noIs p who = false := by
  unfold noIs
  rw [List.any_eq_false]
  intro x hx
  obtain ⟨i, hi, rfl⟩ := List.mem_iff_getElem.mp hx
  rw [h i hi]; decide
theorem noIs_all {p : P} (hp : p.May) (who : List Int) : noIs p who = !(isAll p who) := by
  unfold noIs isAll
  rw [List.any_eq_not_all_not]
  congr 1
  refine List.all_congr rfl fun i => ?_
  unfold P.isA; rw [P.right_yes hp]; simp
theorem wr1_any (g : Nat) (p : P) (i : Int) (w : World) (hp : p.In) (hi : In64 i) (hs : Six w g p) :
    Calls Try.prog 71 #[.int .i64 i, .pointer (some ⟨g, 0, none⟩)] w (Says w (.bool (!(p.isA i)))) := by
  have hI := fun V => Plan.is_any p i V hp hi
  generalize p.isA i = v at *
  clear hp
  obtain ⟨pN, pT, pL, pW, pS, pR⟩ := p
  unfold P.val at hI
  have HI := Lib.hid hI
  have c0 := hs.c0; have c1 := hs.c1; have c2 := hs.c2; have c3 := hs.c3; have c4 := hs.c4; have c5 := hs.c5
  simp only at c0 c1 c2 c3 c4 c5
  clear hs hI
  go_enter Try.func71, Try.ntmps71
  go_wp2_with fail
  refine (HI.out _).mono ?_
  rintro e w1 ⟨rfl, hb1⟩
  clear c0 c1 c2 c3 c4 c5
  cases v
  all_goals
    go_wp2
    go_ret
    exact ⟨rfl, hb1⟩
theorem indexW_any (A : Option Addr) (who : List Int) (c g : Nat) (p : P) (w : World) (hp : p.In) (hs : Six w g p) (h : IntsAt w A who) (hm : who.length ≤ 1048576) (hi : ∀ x ∈ who, In64 x) :
    Calls Try.prog 108 #[.slice A who.length c, .func (.func 71) #[] #[.pointer (some ⟨g, 0, none⟩)]] w fun e w' => (∃ r : Int, e = .returned (.int .i64 r) ∧ decide (0 ≤ r) = noIs p who) ∧ Below w.heap.size w w' := by
  have HS := Lib.hid hs; have H := Lib.hid h
  have HC := Lib.hid (fun i V (hi : In64 i) (hs : Six V g p) => wr1_any g p i V hp hi hs)
  have HI := Lib.hid hi
  clear hs h hi hp
  go_enter Try.func108, Try.ntmps108
  go_wp2
  go_loopw [8] (fun i wr => ∃ k : Nat, k ≤ who.length ∧ i = .int .i64 k ∧ Below w.heap.size w wr ∧ ∀ j, (hj : j < who.length) → j < k → p.isA who[j] = true)
    (fun i _ => who.length - (intOf i).toNat)
  case atStart => exact ⟨0, Nat.zero_le _, rfl, Below.refl _ _, fun j _ h => by omega⟩
  case round =>
    obtain ⟨k, hk, rfl, hb, hall⟩ := hrel
    rename World => wr
    have HALL := Lib.hid hall; have HB := Lib.hid hb
    clear hall hb
    by_cases hlt : k < who.length
    · obtain ⟨b, o, rfl, e0⟩ := (H.out.below HB.out).at hlt
      have hin := HI.out who[k] (List.getElem_mem hlt)
      have hC := HC.out who[k] wr hin (HS.out.below HB.out)
      obtain ⟨v, hv⟩ : ∃ v, v = p.isA who[k] := ⟨_, rfl⟩
      rw [← hv] at hC
      have HV := Lib.hid hv; have HC2 := Lib.hid hC
      clear hv hC hin
      cases v
      · go_wp2_with fail
        refine HC2.out.mono ?_
        rintro e w' ⟨rfl, hb'⟩
        go_wp2
        go_ret
        exact ⟨⟨k, rfl, by rw [noIs_yes hlt HV.out.symm]; simp⟩, bstep HB.out hb'⟩
      · go_wp2_with fail
        refine HC2.out.mono ?_
        rintro e w' ⟨rfl, hb'⟩
        go_wp2
        go_roundw
        case rel =>
          refine ⟨k + 1, by omega, by go_num, bstep HB.out hb', fun j hj hjk => ?_⟩
          by_cases e : j = k
          · subst e; exact HV.out.symm
          · exact HALL.out j hj (by omega)
        case measure => simp [intOf] <;> omega
    · obtain rfl : k = who.length := by omega
      go_wp2
      go_ret
      exact ⟨⟨-1, rfl, by rw [noIs_no fun i hi => HALL.out i hi hi]; rfl⟩, HB.out⟩
theorem containsW_any (A : Option Addr) (who : List Int) (c g : Nat) (p : P) (w : World) (hp : p.In) (hs : Six w g p) (h : IntsAt w A who) (hm : who.length ≤ 1048576) (hi : ∀ x ∈ who, In64 x) :
    Calls Try.prog 70 #[.slice A who.length c, .func (.func 71) #[] #[.pointer (some ⟨g, 0, none⟩)]] w (Says w (.bool (noIs p who))) := by
  have hC := indexW_any A who c g p w hp hs h hm hi
  clear hs h hp hi
  generalize noIs p who = al at *
  have HC := Lib.hid hC
  clear hC
  go_enter Try.func70, Try.ntmps70
  go_wp2_with fail
  refine HC.out.mono ?_
  rintro e w' ⟨⟨r, rfl, hr⟩, hb⟩
  rcases al with _ | _
  · have h0 : ¬ 0 ≤ r := of_decide_eq_false hr
    clear hr
    go_wp2
    go_ret
    exact ⟨by first | (simp; done) | (simp; omega), hb⟩
  · have h0 : 0 ≤ r := of_decide_eq_true hr
    clear hr
    go_wp2
    go_ret
    exact ⟨by first | (simp; done) | (simp; omega), hb⟩
/-! a tape to which a mask is added -/
theorem splice_put (n a : Nat) (m : List UInt8) (ha : a ≤ n) : splice (List.replicate n 0) a (m.take (n - a)) = put_ n (a : Int) m := by
  have e : ∀ j i, PolyM.co (List.replicate j (0 : UInt8)) i = 0 := fun j i => by
    unfold PolyM.co; rw [List.getD_eq_getElem?_getD, List.getElem?_replicate]; split <;> rfl
  refine PolyM.list_ext ?_ fun k => ?_
  · simp [splice, put_len]; omega
  · unfold splice put_
    rw [PolyM.co_tab, List.take_replicate, List.drop_replicate]
    by_cases h : k < a
    · rw [co_left _ _ (by simp; omega), e, if_pos (show k < n from by omega), if_neg (by omega)]
    · obtain ⟨j, rfl⟩ : ∃ j, k = (List.replicate (min a n) (0 : UInt8)).length + j := ⟨k - a, by simp; omega⟩
      rw [co_right, List.length_replicate, Nat.min_eq_left ha]
      by_cases h2 : j < (m.take (n - a)).length
      · have h3 : j < n - a ∧ j < m.length := by rw [List.length_take] at h2; omega
        rw [co_left _ _ h2, if_pos (by omega), if_pos (by omega), co_take, if_pos h3.1, show (((a + j : Nat) : Int) - (a : Int)).toNat = j from by omega]
      · obtain ⟨i, rfl⟩ : ∃ i, j = (m.take (n - a)).length + i := ⟨j - (m.take (n - a)).length, by omega⟩
        rw [co_right, e]
        split
        · rw [if_neg (by rw [List.length_take] at *; omega)]
        · rfl
set_option maxHeartbeats 1000000 in
theorem apply_any (A B : Option Addr) (tape m : List UInt8) (at_ : Int) (c d : Nat) (w : World) (h : BytesAt w A tape) (hm : BytesAt w B m) (hl : tape.length ≤ 1048576) (_hml : m.length ≤ 1048576) (hi : In64 at_) :
    Calls Try.prog 21 #[.slice A tape.length c, .int .i64 at_, .slice B m.length d] w (RetNew w (apply tape at_ m)) := by
  have hmk := fun W => make_u8 tape.length (by omega) W
  have HSUM := Lib.hid (fun g V (h1 : BytesAt V A tape) (h2 : Row V g (put_ tape.length at_ m)) => (show Calls Try.prog 50 #[.slice A tape.length c, .slice (some ⟨g, 0, none⟩) tape.length tape.length] V (RetNew V (apply tape at_ m)) from by
    have C := Poly.sum_new A (some ⟨g, 0, none⟩) tape (put_ tape.length at_ m) c tape.length V h1 h2.bytes (by omega) (by rw [put_len]; omega)
    rw [put_len, apply_put] at C
    exact C))
  by_cases h0 : 0 ≤ at_ ∧ at_ < tape.length
  · obtain ⟨a, ha⟩ : ∃ a : Nat, at_ = a := ⟨at_.toNat, by omega⟩
    subst ha
    have hlt : a < tape.length := by omega
    have hsp := splice_put tape.length a m (by omega)
    generalize put_ tape.length (a : Int) m = pt at *
    generalize apply tape (a : Int) m = res at *
    have hfit : a + min m.length (tape.length - a) ≤ (List.replicate tape.length (0 : UInt8)).length := by simp; omega
    have hrow := Row.new w (List.replicate tape.length 0)
    have h1' := h.alloc (.cells (cells (List.replicate tape.length 0)) 5)
    have h2' := hm.alloc (.cells (cells (List.replicate tape.length 0)) 5)
    have HLT := Lib.hid (h.lt (by omega))
    have HA := Lib.hid h1'; have HSP := Lib.hid hsp
    clear h hm h1' hsp h0
    generalize tape.length = n at *
    go_enter Try.func21, Try.ntmps21
    go_wp2_with (with_reducible refine wpList_copy_u8 rfl (.tmp 21) (.tmp 22) rfl (some ⟨w.heap.size, a, none⟩) (n - a) (n - a) B m d rfl rfl w.heap.size a (List.replicate n 0) hrow (fun _ => rfl) h2' hfit ?_; intro w1 hr1 hb1)
    rw [HSP.out] at hr1
    have HR := Lib.hid hr1
    have HA1 := Lib.hid (HA.out.keep hb1 HLT.out)
    have hb2 := Lib.hid (show Below w.heap.size w w1 from (balloc w _).trans hb1)
    clear hr1 hb1 h2' hrow hfit hmk
    go_wp2_with fail
    refine (HSUM.out w.heap.size w1 HA1.out HR.out).mono ?_
    rintro e w2 ⟨X, f, rfl, g1, g2, g3, hb3, hn⟩
    have HX := Lib.hid g3; have HN := Lib.hid (hn.mono hb2.out.size); have HB := Lib.hid (bstep hb2.out hb3)
    clear g3 hn hb3
    go_wp2
    go_ret
    exact ⟨X, f, rfl, g1, g2, HX.out, HB.out, HN.out⟩
  · have hrow := Row.new w (List.replicate tape.length 0)
    rw [← put_out tape.length at_ m h0] at hrow
    have hmk' := Lib.hid hmk
    rw [← put_out tape.length at_ m h0] at hmk
    have h1' := h.alloc (.cells (cells (put_ tape.length at_ m)) 5)
    have HR := Lib.hid hrow; have HA := Lib.hid h1'
    clear h hm hrow h1' hmk'
    generalize put_ tape.length at_ m = pt at *
    generalize apply tape at_ m = res at *
    generalize tape.length = n at *
    have HB0 := Lib.hid (balloc w (.cells (cells pt) 5))
    by_cases h1 : 0 ≤ at_
    · have h2 : ¬ at_ < (n : Int) := fun e => h0 ⟨h1, e⟩
      clear h0
      go_enter Try.func21, Try.ntmps21
      go_wp2_with fail
      refine (HSUM.out w.heap.size _ HA.out HR.out).mono ?_
      rintro e w2 ⟨X, f, rfl, g1, g2, g3, hb3, hn⟩
      have HX := Lib.hid g3; have HN := Lib.hid (hn.mono HB0.out.size); have HB := Lib.hid (bstep HB0.out hb3)
      clear g3 hn hb3
      go_wp2
      go_ret
      exact ⟨X, f, rfl, g1, g2, HX.out, HB.out, HN.out⟩
    · clear h0
      go_enter Try.func21, Try.ntmps21
      go_wp2_with fail
      refine (HSUM.out w.heap.size _ HA.out HR.out).mono ?_
      rintro e w2 ⟨X, f, rfl, g1, g2, g3, hb3, hn⟩
      have HX := Lib.hid g3; have HN := Lib.hid (hn.mono HB0.out.size); have HB := Lib.hid (bstep HB0.out hb3)
      clear g3 hn hb3
      go_wp2
      go_ret
      exact ⟨X, f, rfl, g1, g2, HX.out, HB.out, HN.out⟩
end Go.Proofs.Ytompeiemioeohaa.Mask

/- package mask: what is wrong, and Shift -/
set_option maxRecDepth 100000
namespace Go.Proofs.Ytompeiemioeohaa.Mask
open Go.RowKit PlanM StripeM DealM RebM ZeroM MaskM Plan

theorem sixs {w : World} {g : Nat} {p : P} (h : Six w g p) : w.cell? ⟨g, 0, none⟩ = some (.int .i64 p.N) ∧ w.cell? ⟨g, 1, none⟩ = some (.int .i64 p.T) ∧ w.cell? ⟨g, 2, none⟩ = some (.int .i64 p.L) ∧ w.cell? ⟨g, 3, none⟩ = some (.int .i64 p.W) ∧ w.cell? ⟨g, 4, none⟩ = some (.int .i64 p.S) ∧ w.cell? ⟨g, 5, none⟩ = some (.int .i64 p.R) := ⟨h.c0, h.c1, h.c2, h.c3, h.c4, h.c5⟩
/-- a list of so many numbers, in memory -/
def SP.iN (l : List Int) (n : Nat) : Drawn.SP := ⟨fun v w => ∃ X d, v = .slice X n d ∧ n ≤ d ∧ d ≤ maxLen ∧ IntsAt w X l, fun _ _ _ h hb => by
  obtain ⟨X, d, h1, h2, h3, h4⟩ := h; exact ⟨X, d, h1, h2, h3, h4.below hb⟩⟩
def SP.bN (l : List UInt8) (n : Nat) : Drawn.SP := ⟨fun v w => ∃ X d, v = .slice X n d ∧ BytesAt w X l, fun _ _ _ h hb => by
  obtain ⟨X, d, h1, h2⟩ := h; exact ⟨X, d, h1, h2.below hb⟩⟩
def SP.bO (l : List UInt8) (n : Nat) (ok : Bool) : Drawn.SP := ⟨fun v w => ∃ X d, v = .tuple #[.slice X n d, .bool ok] ∧ BytesAt w X l, fun _ _ _ h hb => by
  obtain ⟨X, d, h1, h2⟩ := h; exact ⟨X, d, h1, h2.below hb⟩⟩
/-- the closure that tells quotients -/
def SP.quo (b0 : Nat) : Drawn.SP := ⟨fun v w => ∃ g, v = .func (.func 90) #[] #[.pointer (some ⟨g, 0, none⟩)] ∧ w.cell? ⟨g, 0, none⟩ = some (.pointer (some ⟨b0, 0, none⟩)), fun _ _ _ h hb => by
  obtain ⟨g, h1, h2⟩ := h; exact ⟨g, h1, (hb.cell (p := ⟨g, 0, none⟩) (cell_lt h2)).trans h2⟩⟩
theorem pcheck_by (p : P) (delta : List UInt8) (z : List Int) : pcheck p delta z = if p.right then (if (delta.length : Int) ≠ p.L then 3 else if p.T < z.length then 2 else if noIs p z then 2 else if p.N < (withO p z).length then 5 else 0) else 1 := by
  unfold pcheck
  split
  · rename_i hr
    rw [noIs_all (of_decide_eq_true hr)]
    split
    · rfl
    · split
      · rfl
      · rcases Bool.eq_false_or_eq_true (isAll p z) with h | h
        · rw [h]; simp
        · rw [h]; simp
  · rfl

set_option maxHeartbeats 4000000 in
theorem wrong_any (p : P) (A1 A : Option Addr) (dn c1 : Nat) (delta : List UInt8) (hdn : dn = delta.length) (z : List Int) (c : Nat) (w : World) (hp : p.In) (h : IntsAt w A z) (hm : z.length ≤ 1048000) (hi : ∀ x ∈ z, In64 x) :
    Calls Try.prog 35 #[p.val, .slice A1 dn c1, .slice A z.length c] w (Says w (.int .i64 (mcheck p delta z))) := by
  have hR := Lib.hid (fun V => Plan.right_any p V hp)
  have HC := Lib.hid (fun g V (hs : Six V g p) (h : IntsAt V A z) => containsW_any A z c g p V hp hs h (by omega) hi)
  have HW := Lib.hid (fun (hM : p.May) V (h : IntsAt V A z) => withO_any p A z c V hp hM h hm)
  have HMay := Lib.hid (show p.right = true → p.May from fun h => of_decide_eq_true h)
  rw [← pcheck_eq, pcheck_by, ← hdn]
  generalize noIs p z = ni at *
  unfold RetInts at HW
  obtain ⟨wn, hwn⟩ : ∃ wn, wn = (withO p z).length := ⟨_, rfl⟩
  rw [← hwn] at HW ⊢
  generalize withO p z = wo at *
  have H := Lib.hid h
  generalize p.right = vr at *
  obtain ⟨zn, hzn⟩ : ∃ zn, zn = z.length := ⟨_, rfl⟩
  rw [← hzn] at HC HW ⊢
  obtain ⟨ans, hans⟩ : ∃ ans : Int, ans = (if vr then (if (dn : Int) ≠ p.L then 3 else if p.T < (zn : Int) then 2 else if ni then 2 else if p.N < (wn : Int) then 5 else 0) else 1) := ⟨_, rfl⟩
  rw [← hans]
  have HANS := Lib.hid hans
  clear hp h hi hm hwn hdn hans hzn
  have HMay2 := Lib.hid (fun h V hV => HW.out (HMay.out h) V hV)
  clear HW HMay
  obtain ⟨N, T, L, W, S, R⟩ := p
  unfold P.val at *
  simp only at *
  have HS := Lib.hid (Six.new w ⟨N, T, L, W, S, R⟩)
  have HB0 := Lib.hid (balloc w (.cells #[.int .i64 N, .int .i64 T, .int .i64 L, .int .i64 W, .int .i64 S, .int .i64 R] 23))
  go_enter Try.func35, Try.ntmps35
  go_wp2_with fail
  generalize w.alloc (.cells #[.int .i64 N, .int .i64 T, .int .i64 L, .int .i64 W, .int .i64 S, .int .i64 R] 23) = w0 at *
  obtain ⟨c0, c1, c2, c3, c4, c5⟩ := sixs HS.out
  simp only at c0 c1 c2 c3 c4 c5
  refine (hR.out _).mono ?_
  rintro e w1 ⟨rfl, hb1⟩
  clear c0 c1 c2 c3 c4 c5
  cases vr
  · have ha := HANS.out
    rw [if_neg (by decide)] at ha
    subst ha
    go_wp2
    go_ret
    exact ⟨rfl, bstep HB0.out hb1⟩
  have HW := Lib.hid (HMay2.out (by rfl))
  have HB1 := Lib.hid (bstep HB0.out hb1)
  have HS1 := Lib.hid (HS.out.below hb1)
  have ha := HANS.out
  rw [if_pos rfl] at ha
  clear hb1 HMay2 HANS
  obtain ⟨c0, c1, c2, c3, c4, c5⟩ := sixs HS1.out
  simp only at c0 c1 c2 c3 c4 c5
  by_cases hL : (dn : Int) = L
  rotate_left
  · rw [if_pos hL] at ha
    subst ha
    go_wp2
    go_ret
    exact ⟨rfl, HB1.out⟩
  rw [if_neg (fun h => h hL)] at ha
  by_cases hT : T < (zn : Int)
  · rw [if_pos hT] at ha
    subst ha
    go_wp2
    go_ret
    exact ⟨rfl, HB1.out⟩
  rw [if_neg hT] at ha
  have HAA := Lib.hid ha
  clear ha
  go_wp2_with fail
  refine (HC.out w.heap.size w1 HS1.out (H.out.below HB1.out)).mono ?_
  rintro e w2 ⟨rfl, hb2⟩
  have HB2 := Lib.hid (bstep HB1.out hb2)
  have HS2 := Lib.hid (HS1.out.below hb2)
  clear c0 c1 c2 c3 c4 c5 hb2
  have ha := HAA.out
  cases ni
  rotate_left
  · rw [if_pos rfl] at ha
    subst ha
    go_wp2
    go_ret
    exact ⟨rfl, HB2.out⟩
  rw [if_neg (by decide)] at ha
  have HAA := Lib.hid ha
  clear ha
  go_wp2_with fail
  refine Drawn.wp_region_flowL 8 [Drawn.SP.is (.agg #[.int .i64 N, .int .i64 T, .int .i64 L, .int .i64 W, .int .i64 S, .int .i64 R]), Drawn.SP.is (.slice A zn c), SP.iN wo wn, Drawn.SP.is (.int .i64 (wn : Nat)), Drawn.SP.is (.pointer (some ⟨w.heap.size, 0, none⟩)), Drawn.SP.is (.int .i64 N), Drawn.SP.is (.bool (decide (N < (wn : Int)))), Drawn.SP.is (.bool (decide (N < (wn : Int))))] (by kernel_rfl) (by kernel_rfl) ?_ ?_
  · intro i hi a wq hb hev hdep
    rcases (show i = 0 ∨ i = 1 ∨ i = 2 ∨ i = 3 ∨ i = 4 ∨ i = 5 ∨ i = 6 ∨ i = 7 by omega) with rfl | rfl | rfl | rfl | rfl | rfl | rfl | rfl
    · have e3 : a.tmps[3]?.getD undef = .pointer (some ⟨w.heap.size, 0, none⟩) := hev 3 rfl
      refine Drawn.wpOp_flow 29 rfl rfl rfl ?_
      obtain ⟨c0, c1, c2, c3, c4, c5⟩ := sixs (HS2.out.below hb)
      simp only at c0 c1 c2 c3 c4 c5
      clear hev hdep hb
      go_simp
      exact ⟨_, rfl, rfl, Below.refl _ _⟩
    · have e2 : a.tmps[2]?.getD undef = .slice A zn c := hev 2 rfl
      refine Drawn.wpOp_flow 30 rfl rfl rfl ?_
      clear hev hdep hb
      go_simp
      exact ⟨_, rfl, rfl, Below.refl _ _⟩
    · have d0 : a.tmps[29]?.getD undef = .agg #[.int .i64 N, .int .i64 T, .int .i64 L, .int .i64 W, .int .i64 S, .int .i64 R] := hdep 0 rfl
      have d1 : a.tmps[30]?.getD undef = .slice A zn c := hdep 1 rfl
      refine Drawn.wpOp_flow 31 rfl rfl rfl ?_
      clear hev hdep
      have C := HW.out wq (H.out.below (bstep HB2.out hb))
      clear hb
      go_simp
      refine C.mono ?_
      rintro e w' ⟨X, d, rfl, g1, g2, g3, hb', _⟩
      exact ⟨_, rfl, ⟨X, d, rfl, g1, g2, g3⟩, hb'⟩
    · obtain ⟨X, d, d2, q1, q2, q3⟩ : (SP.iN wo wn).p (a.tmps[31]?.getD undef) wq := hdep 2 rfl
      refine Drawn.wpOp_flow 32 rfl rfl rfl ?_
      clear hev hdep hb
      go_simp
      exact ⟨_, rfl, rfl, Below.refl _ _⟩
    · have e3 : a.tmps[3]?.getD undef = .pointer (some ⟨w.heap.size, 0, none⟩) := hev 3 rfl
      refine Drawn.wpOp_flow 33 rfl rfl rfl ?_
      clear hev hdep hb
      go_simp
      exact ⟨_, rfl, rfl, Below.refl _ _⟩
    · have d4 : a.tmps[33]?.getD undef = .pointer (some ⟨w.heap.size, 0, none⟩) := hdep 4 rfl
      refine Drawn.wpOp_flow 34 rfl rfl rfl ?_
      obtain ⟨c0, c1, c2, c3, c4, c5⟩ := sixs (HS2.out.below hb)
      simp only at c0 c1 c2 c3 c4 c5
      clear hev hdep hb
      go_simp
      exact ⟨_, rfl, rfl, Below.refl _ _⟩
    · have d3 : a.tmps[32]?.getD undef = .int .i64 (wn : Nat) := hdep 3 rfl
      have d5 : a.tmps[34]?.getD undef = .int .i64 N := hdep 5 rfl
      refine Drawn.wpOp_flow 35 rfl rfl rfl ?_
      clear hev hdep hb
      go_simp
      exact ⟨_, rfl, rfl, Below.refl _ _⟩
    · have d6 : a.tmps[35]?.getD undef = .bool (decide (N < (wn : Int))) := hdep 6 rfl
      refine Drawn.wpOp_flow 28 rfl rfl rfl ?_
      clear hev hdep hb
      go_simp
      exact ⟨_, rfl, rfl, Below.refl _ _⟩
  · intro xq wq hb hxq
    have vq0 : xq 0 = .agg #[.int .i64 N, .int .i64 T, .int .i64 L, .int .i64 W, .int .i64 S, .int .i64 R] := hxq 0 (by omega)
    have vq1 : xq 1 = .slice A zn c := hxq 1 (by omega)
    have vq3 : xq 3 = .int .i64 (wn : Nat) := hxq 3 (by omega)
    have vq4 : xq 4 = .pointer (some ⟨w.heap.size, 0, none⟩) := hxq 4 (by omega)
    have vq5 : xq 5 = .int .i64 N := hxq 5 (by omega)
    have vq6 : xq 6 = .bool (decide (N < (wn : Int))) := hxq 6 (by omega)
    have vq7 : xq 7 = .bool (decide (N < (wn : Int))) := hxq 7 (by omega)
    show Exit.then _ _ Exit.normal (Drawn.acts _ [(28, some (xq 7)), (35, some (xq 6)), (34, some (xq 5)), (33, some (xq 4)), (32, some (xq 3)), (31, some (xq 2)), (30, some (xq 1)), (29, some (xq 0))]) _
    rw [vq0, vq1, vq3, vq4, vq5, vq6, vq7]
    clear hxq vq0 vq1 vq3 vq4 vq5 vq6 vq7
    generalize xq 2 = yq2
    clear xq
    simp only [Drawn.acts]
    go_simp
    have HB3 := Lib.hid (bstep HB2.out hb)
    have ha := HAA.out
    clear hb
    by_cases hN : N < (wn : Int)
    · rw [if_pos hN] at ha
      subst ha
      go_at_K
      go_wp2
      go_ret
      exact ⟨rfl, HB3.out⟩
    · rw [if_neg hN] at ha
      subst ha
      go_at_K
      go_wp2
      go_ret
      exact ⟨rfl, HB3.out⟩
end Go.Proofs.Ytompeiemioeohaa.Mask

/- package mask: Shift -/
set_option maxRecDepth 100000
namespace Go.Proofs.Ytompeiemioeohaa.Mask
open Go.RowKit PlanM StripeM DealM RebM ZeroM MaskM Plan

/-- bytes and an error's number -/
def RetSE (w : World) (l : List UInt8) (r : Int) (e : Ending) (w' : World) : Prop :=
  ∃ X d, e = .returned (.tuple #[.slice X l.length d, .int .i64 r]) ∧ BytesAt w' X l ∧ Below w.heap.size w w'
def shiftA (p : P) (delta : List UInt8) (z : List Int) : List UInt8 := if mcheck p delta z = 0 then shift p delta z else []
set_option maxHeartbeats 1000000 in
theorem shift_no (b0 : Nat) (p : P) (A1 A : Option Addr) (delta : List UInt8) (c1 : Nat) (z : List Int) (c : Nat) (w : World) (hp : p.In) (h : IntsAt w A z) (hm : z.length ≤ 1048000) (hi : ∀ x ∈ z, In64 x) (he : mcheck p delta z ≠ 0) :
    Calls Try.prog 10 #[.pointer (some ⟨b0, 0, none⟩), p.val, .slice A1 delta.length c1, .slice A z.length c] w (RetSE w [] (mcheck p delta z)) := by
  have HW := Lib.hid (fun V (h : IntsAt V A z) => wrong_any p A1 A delta.length c1 delta rfl z c V hp h hm hi)
  have H := Lib.hid h
  generalize mcheck p delta z = er at *
  generalize z.length = zn at *
  generalize delta.length = dn at *
  have hne : (er != 0) = true := by simpa using he
  clear hp h hi hm he
  obtain ⟨N, T, L, W, S, R⟩ := p
  unfold P.val at *
  simp only at *
  have HS := Lib.hid (Six.new w ⟨N, T, L, W, S, R⟩)
  have HB0 := Lib.hid (balloc w (.cells #[.int .i64 N, .int .i64 T, .int .i64 L, .int .i64 W, .int .i64 S, .int .i64 R] 23))
  go_enter Try.func10, Try.ntmps10
  go_wp2_with fail
  generalize w.alloc (.cells #[.int .i64 N, .int .i64 T, .int .i64 L, .int .i64 W, .int .i64 S, .int .i64 R] 23) = w0 at *
  obtain ⟨c0, c1, c2, c3, c4, c5⟩ := sixs HS.out
  simp only at c0 c1 c2 c3 c4 c5
  refine (HW.out _ (H.out.below HB0.out)).mono ?_
  rintro e w1 ⟨rfl, hb1⟩
  clear c0 c1 c2 c3 c4 c5
  have HB1 := Lib.hid (bstep HB0.out hb1)
  clear hb1
  go_wp2
  go_ret2
  exact ⟨none, 0, rfl, BytesAt.nil _ _, HB1.out⟩

set_option maxHeartbeats 4000000 in
theorem shift_ok (b0 : Nat) (N L W S R : Int) (t0 : Nat) (A1 A : Option Addr) (delta : List UInt8) (c1 : Nat) (z : List Int) (c : Nat) (w : World) (hp : (⟨N, t0, L, W, S, R⟩ : P).In) (ht : Gf.Tab w b0) (h1 : BytesAt w A1 delta) (h : IntsAt w A z) (hm : z.length ≤ 1048000) (hi : ∀ x ∈ z, In64 x) (hok : MOk ⟨N, t0, L, W, S, R⟩ delta z) :
    Calls Try.prog 10 #[.pointer (some ⟨b0, 0, none⟩), .agg #[.int .i64 N, .int .i64 (t0 : Nat), .int .i64 L, .int .i64 W, .int .i64 S, .int .i64 R], .slice A1 delta.length c1, .slice A z.length c] w (RetSE w (shift ⟨N, t0, L, W, S, R⟩ delta z) 0) := by
  obtain ⟨q, hq⟩ : ∃ q : P, q = ⟨N, t0, L, W, S, R⟩ := ⟨_, rfl⟩
  have hv : q.val = .agg #[.int .i64 N, .int .i64 (t0 : Nat), .int .i64 L, .int .i64 W, .int .i64 S, .int .i64 R] := by rw [hq]; rfl
  rw [← hq] at hp hok ⊢
  have hM := hok.may
  have hM' := hM
  unfold P.May at hM'
  have eT : q.T.toNat = t0 := by rw [hq]; exact Int.toNat_natCast _
  have hW := fun V (h : IntsAt V A z) => wrong_any q A1 A delta.length c1 delta rfl z c V hp h hm hi
  rw [mcheck_of hok, hv] at hW
  have hO := fun V (h : IntsAt V A z) => withO_any q A z c V hp hM h hm
  rw [hv] at hO
  have hS := fun V => Plan.secrets_own q V hp
  rw [hv, show q.secretsA = q.secrets from by simp only [P.secretsA, P.right_yes hM]; rfl] at hS
  have htw := withO_len hok
  rw [eT] at htw
  have hmost := withO_most q z
  have hwi := withO_is hok
  have hps := pshift_eq hok
  have hnd := pshift_nodup hok
  unfold pshift at hps
  rw [eT] at hps hnd
  have hsl := secrets_len q
  have hshl := shift_len hok
  have hP := fun V X d (hx : IntsAt V X ((withO q z).take t0)) (h2 : t0 ≤ d) (h3 : d ≤ maxLen) => (show Calls Try.prog 39 #[.slice X t0 d] V (RetOwn V (points ((withO q z).take t0))) from by
    have hl : ((withO q z).take t0).length = t0 := by rw [List.length_take]; omega
    have C := Plan.points_any X ((withO q z).take t0) d V hx (by omega) (by omega) h3 fun x hx => by
      have := of_decide_eq_true (hwi x (List.mem_of_mem_take hx))
      unfold In64; omega
    rw [hl] at C
    exact C)
  have hpl : (points ((withO q z).take t0)).length ≤ 256 := by rw [points_len, List.length_take]; omega
  unfold RetInts at hO
  obtain ⟨wn, hwn⟩ : ∃ wn, wn = (withO q z).length := ⟨_, rfl⟩
  rw [← hwn] at hO htw
  generalize withO q z = wo at *
  generalize shift q delta z = sh at *
  generalize points (wo.take t0) = pts at *
  generalize q.secrets = sec at *
  have HCC := Lib.hid (fun V X (hx : RowsAt V X [sec, pts]) => (show Calls Try.prog 37 #[.slice X 2 2] V (RetNew V (sec ++ pts)) from by
    have C := CrcA.concat_any X [sec, pts] 2 V hx (by simp) (by simp; omega)
    simp only [List.flatten_cons, List.flatten_nil, List.append_nil] at C
    exact C))
  have HF := Lib.hid (fun V (hx : BytesAt V A1 delta) => fit_any A1 delta c1 (sec ++ pts).length V hx (by rw [List.length_append]; omega))
  have hxl : (sec ++ pts).length ≤ 1048576 := by rw [List.length_append]; omega
  generalize sec ++ pts = xs at *
  have hzl := sized_len delta xs.length
  generalize sized delta xs.length = ys at *
  have HTH := Lib.hid (fun V X d Y f (ht : Gf.Tab V b0) (hx : BytesAt V X xs) (hy : BytesAt V Y ys) => (show Calls Try.prog 40 #[.pointer (some ⟨b0, 0, none⟩), .slice X xs.length d, .slice Y xs.length f] V fun e w' => ∃ B d, e = .returned (.tuple #[.slice B sh.length d, .bool true]) ∧ BytesAt w' B sh ∧ Below V.heap.size V w' from by
    have C := Lagr.through_yes b0 X Y xs ys d f V ht hx hy hxl hzl.symm ((LagrM.unl_iff _).mpr hnd)
    rw [hzl, hps] at C
    refine C.mono ?_
    rintro e w' ⟨B, d, h1, h2, h3, _⟩
    exact ⟨B, d, h1, h2, h3⟩))
  unfold RetNew at HF HCC
  rw [hzl] at HF
  have HW := Lib.hid hW; have HO := Lib.hid hO; have HSEC := Lib.hid hS; have HP := Lib.hid hP
  have H1 := Lib.hid h1; have H := Lib.hid h; have HT := Lib.hid ht; have HTW := Lib.hid htw
  have HSL : Hid (sec.length ≤ 256) := Lib.hid (by omega)
  have HPL := Lib.hid hpl
  generalize xs.length = xn at *
  generalize z.length = zn at *
  generalize delta.length = dn at *
  clear hW hO hS hP h1 h ht htw hpl hp hM hM' hok hi hm hmost hwi hps hnd hsl hxl hzl hwn hq hv eT hshl
  clear q
  have HS := Lib.hid (Six.new w ⟨N, t0, L, W, S, R⟩)
  have HB0 := Lib.hid (balloc w (.cells #[.int .i64 N, .int .i64 (t0 : Nat), .int .i64 L, .int .i64 W, .int .i64 S, .int .i64 R] 23))
  go_enter Try.func10, Try.ntmps10
  go_wp2_with fail
  generalize w.alloc (.cells #[.int .i64 N, .int .i64 (t0 : Nat), .int .i64 L, .int .i64 W, .int .i64 S, .int .i64 R] 23) = w0 at *
  obtain ⟨c0, c1, c2, c3, c4, c5⟩ := sixs HS.out
  simp only at c0 c1 c2 c3 c4 c5
  refine (HW.out _ (H.out.below HB0.out)).mono ?_
  rintro e w1 ⟨rfl, hb1⟩
  clear c0 c1 c2 c3 c4 c5
  have HB1 := Lib.hid (bstep HB0.out hb1)
  have HS1 := Lib.hid (HS.out.below hb1)
  clear hb1
  go_wp2_with fail
  refine Drawn.wp_region_flowL 7 [Drawn.SP.is (.agg #[.int .i64 N, .int .i64 (t0 : Nat), .int .i64 L, .int .i64 W, .int .i64 S, .int .i64 R]), Drawn.SP.is (.slice A zn c), SP.iN wo wn, Drawn.SP.is (.pointer (some ⟨w.heap.size, 1, none⟩)), Drawn.SP.is (.int .i64 (t0 : Nat)), SP.iN (wo.take t0) t0, SP.iN (wo.take t0) t0] (by kernel_rfl) (by kernel_rfl) ?_ ?_
  · intro i hi a wq hb hev hdep
    rcases (show i = 0 ∨ i = 1 ∨ i = 2 ∨ i = 3 ∨ i = 4 ∨ i = 5 ∨ i = 6 by omega) with rfl | rfl | rfl | rfl | rfl | rfl | rfl
    · have e5 : a.tmps[5]?.getD undef = .pointer (some ⟨w.heap.size, 0, none⟩) := hev 5 rfl
      refine Drawn.wpOp_flow 22 rfl rfl rfl ?_
      obtain ⟨c0, c1, c2, c3, c4, c5⟩ := sixs (HS1.out.below hb)
      simp only at c0 c1 c2 c3 c4 c5
      clear hev hdep hb
      go_simp
      exact ⟨_, rfl, rfl, Below.refl _ _⟩
    · have e3 : a.tmps[3]?.getD undef = .slice A zn c := hev 3 rfl
      refine Drawn.wpOp_flow 23 rfl rfl rfl ?_
      clear hev hdep hb
      go_simp
      exact ⟨_, rfl, rfl, Below.refl _ _⟩
    · have d0 : a.tmps[22]?.getD undef = .agg #[.int .i64 N, .int .i64 (t0 : Nat), .int .i64 L, .int .i64 W, .int .i64 S, .int .i64 R] := hdep 0 rfl
      have d1 : a.tmps[23]?.getD undef = .slice A zn c := hdep 1 rfl
      refine Drawn.wpOp_flow 24 rfl rfl rfl ?_
      clear hev hdep
      have C := HO.out wq (H.out.below (bstep HB1.out hb))
      clear hb
      go_simp
      refine C.mono ?_
      rintro e w' ⟨X, d, rfl, g1, g2, g3, hb', _⟩
      exact ⟨_, rfl, ⟨X, d, rfl, g1, g2, g3⟩, hb'⟩
    · have e5 : a.tmps[5]?.getD undef = .pointer (some ⟨w.heap.size, 0, none⟩) := hev 5 rfl
      refine Drawn.wpOp_flow 25 rfl rfl rfl ?_
      clear hev hdep hb
      go_simp
      exact ⟨_, rfl, rfl, Below.refl _ _⟩
    · have d3 : a.tmps[25]?.getD undef = .pointer (some ⟨w.heap.size, 1, none⟩) := hdep 3 rfl
      refine Drawn.wpOp_flow 26 rfl rfl rfl ?_
      obtain ⟨c0, c1, c2, c3, c4, c5⟩ := sixs (HS1.out.below hb)
      simp only at c0 c1 c2 c3 c4 c5
      clear hev hdep hb
      go_simp
      exact ⟨_, rfl, rfl, Below.refl _ _⟩
    · obtain ⟨X, d, d2, q1, q2, q3⟩ : (SP.iN wo wn).p (a.tmps[24]?.getD undef) wq := hdep 2 rfl
      have d4 : a.tmps[26]?.getD undef = .int .i64 (t0 : Nat) := hdep 4 rfl
      refine Drawn.wpOp_flow 27 rfl rfl rfl ?_
      clear hev hdep
      clear hb
      have hcap : t0 ≤ d := by have := HTW.out; omega
      have g3 := CellsAt.take q3 t0
      rw [show (intV wo).take t0 = intV (wo.take t0) from by unfold intV; rw [List.map_take]] at g3
      have HG := Lib.hid (show IntsAt wq X (wo.take t0) from g3)
      clear g3 q3
      go_simp
      exact ⟨_, rfl, ⟨X, d, rfl, hcap, q2, HG.out⟩, Below.refl _ _⟩
    · have d5 := hdep 5 rfl
      refine Drawn.wpOp_flow 11 rfl rfl rfl ?_
      clear hev hdep hb
      go_simp
      exact ⟨_, rfl, d5, Below.refl _ _⟩
  · intro xq wq hb hxq
    have vq0 : xq 0 = .agg #[.int .i64 N, .int .i64 (t0 : Nat), .int .i64 L, .int .i64 W, .int .i64 S, .int .i64 R] := hxq 0 (by omega)
    have vq1 : xq 1 = .slice A zn c := hxq 1 (by omega)
    have vq3 : xq 3 = .pointer (some ⟨w.heap.size, 1, none⟩) := hxq 3 (by omega)
    have vq4 : xq 4 = .int .i64 (t0 : Nat) := hxq 4 (by omega)
    obtain ⟨X, d, vq6, q1, q2, q3⟩ : (SP.iN (wo.take t0) t0).p (xq 6) wq := hxq 6 (by omega)
    show Exit.then _ _ Exit.normal (Drawn.acts _ [(11, some (xq 6)), (27, some (xq 5)), (26, some (xq 4)), (25, some (xq 3)), (24, some (xq 2)), (23, some (xq 1)), (22, some (xq 0))]) _
    rw [vq0, vq1, vq3, vq4, vq6]
    clear hxq vq0 vq1 vq3 vq4 vq6
    generalize xq 2 = yq2
    generalize xq 5 = yq5
    clear xq
    simp only [Drawn.acts]
    go_simp
    have HX := Lib.hid q3
    have HB2 := Lib.hid (bstep HB1.out hb)
    have HS2 := Lib.hid (HS1.out.below hb)
    clear q3 hb
    obtain ⟨c0, c1, c2, c3, c4, c5⟩ := sixs HS2.out
    simp only at c0 c1 c2 c3 c4 c5
    go_at_K
    go_wp2_with fail
    refine (HSEC.out _).mono ?_
    rintro e w3 hr3
    obtain ⟨Y, dy, rfl, y1, y2, y3, hb3, _⟩ := hr3.new
    clear c0 c1 c2 c3 c4 c5 hr3
    have HX3 := Lib.hid (HX.out.below hb3); have HY := Lib.hid y3; have HB3 := Lib.hid (bstep HB2.out hb3)
    have HY2 := Lib.hid y1; have HY3 := Lib.hid y2
    clear y1 y2 y3 hb3
    go_wp2_with fail
    refine (HP.out w3 X d HX3.out q1 q2).mono ?_
    rintro e w4 hr4
    obtain ⟨V, dv, rfl, v1, v2, v3, hb4, _⟩ := hr4.new
    have hr := RowsAt.lit2 (HY.out.below hb4) HY2.out HY3.out v3 v1 v2
    have HR := Lib.hid hr; have HB4 := Lib.hid (bstep HB3.out hb4)
    clear hr4 v1 v2 v3 hb4 hr
    have HSLL := HSL.out; have HPLL := HPL.out
    go_wp2_with fail
    refine (HCC.out _ _ HR.out).mono ?_
    rintro e w5 ⟨V2, d2, rfl, _, _, u3, hb5, _⟩
    have HU := Lib.hid u3; have HB5 := Lib.hid (bstep HB4.out (bstep (balloc _ _) hb5))
    clear u3 hb5
    go_wp2_with fail
    refine (HF.out w5 (H1.out.below HB5.out)).mono ?_
    rintro e w6 ⟨Z, dz, rfl, _, _, z3, hb6, _⟩
    have HU6 := Lib.hid (HU.out.below hb6); have HZ := Lib.hid z3; have HB6 := Lib.hid (bstep HB5.out hb6)
    clear z3 hb6
    obtain ⟨sn, hsn⟩ : ∃ sn, sn = sh.length := ⟨_, rfl⟩
    have HSN := Lib.hid hsn
    rw [← hsn] at HTH
    clear hsn
    go_wp2_with fail
    refine (HTH.out w6 _ _ _ _ (HT.out.below HB6.out) HU6.out HZ.out).mono ?_
    rintro e w7 ⟨B, f, rfl, b3, hb7⟩
    have HBB := Lib.hid b3; have HB7 := Lib.hid (bstep HB6.out hb7)
    clear b3 hb7
    go_wp2
    go_ret2
    exact ⟨B, f, by rw [← HSN.out]; rfl, HBB.out, HB7.out⟩
theorem shift_any (b0 : Nat) (p : P) (A1 A : Option Addr) (delta : List UInt8) (c1 : Nat) (z : List Int) (c : Nat) (w : World) (hp : p.In) (ht : Gf.Tab w b0) (h1 : BytesAt w A1 delta) (h : IntsAt w A z) (hm : z.length ≤ 1048000) (hi : ∀ x ∈ z, In64 x) :
    Calls Try.prog 10 #[.pointer (some ⟨b0, 0, none⟩), p.val, .slice A1 delta.length c1, .slice A z.length c] w (RetSE w (shiftA p delta z) (mcheck p delta z)) := by
  unfold shiftA
  by_cases he : mcheck p delta z = 0
  · rw [if_pos he, he]
    have hok := mcheck_ok he
    have hT := hok.may
    obtain ⟨N, T, L, W, S, R⟩ := p
    unfold P.May at hT
    simp only at hT
    obtain ⟨t0, rfl⟩ : ∃ t0 : Nat, T = t0 := ⟨T.toNat, by omega⟩
    exact shift_ok b0 N L W S R t0 A1 A delta c1 z c w hp ht h1 h hm hi hok
  · rw [if_neg he]
    exact shift_no b0 p A1 A delta c1 z c w hp h hm hi he
end Go.Proofs.Ytompeiemioeohaa.Mask

/- package mask: Zero, Deal, Blind -/
set_option maxRecDepth 100000
namespace Go.Proofs.Ytompeiemioeohaa.Mask
open Go.RowKit PlanM StripeM DealM RebM ZeroM MaskM Plan

def RetB (w : World) (l : List UInt8) (e : Ending) (w' : World) : Prop := ∃ X d, e = .returned (.slice X l.length d) ∧ BytesAt w' X l ∧ Below w.heap.size w w'
def zeroA (p : P) (sh : List UInt8) : List UInt8 := if p.right then mzero p sh else []
def dealA (p : P) (delta sh : List UInt8) : List UInt8 := if p.right then mdeal p delta sh else []
def blindA (p : P) (sh : List UInt8) (t : Int) : List UInt8 := if p.isA t then mblind p sh t else []
set_option maxHeartbeats 1000000 in
theorem zero_no (b0 : Nat) (p : P) (A : Option Addr) (n c : Nat) (w : World) (hp : p.In) (hM : ¬ p.May) :
    Calls Try.prog 19 #[.pointer (some ⟨b0, 0, none⟩), p.val, .slice A n c] w (RetB w []) := by
  have hR := Lib.hid (fun V => Plan.right_any p V hp)
  rw [P.right_no hM] at hR
  clear hp hM
  obtain ⟨N, T, L, W, S, R⟩ := p
  unfold P.val at *
  simp only at *
  have HS := Lib.hid (Six.new w ⟨N, T, L, W, S, R⟩)
  have HB0 := Lib.hid (balloc w (.cells #[.int .i64 N, .int .i64 T, .int .i64 L, .int .i64 W, .int .i64 S, .int .i64 R] 23))
  go_enter Try.func19, Try.ntmps19
  go_wp2_with fail
  generalize w.alloc (.cells #[.int .i64 N, .int .i64 T, .int .i64 L, .int .i64 W, .int .i64 S, .int .i64 R] 23) = w0 at *
  obtain ⟨c0, c1, c2, c3, c4, c5⟩ := sixs HS.out
  simp only at c0 c1 c2 c3 c4 c5
  refine (hR.out _).mono ?_
  rintro e w1 ⟨rfl, hb1⟩
  clear c0 c1 c2 c3 c4 c5
  go_wp2
  go_ret
  exact ⟨none, 0, rfl, BytesAt.nil _ _, bstep HB0.out hb1⟩
set_option maxHeartbeats 1000000 in
theorem deal_no (b0 : Nat) (p : P) (A1 A : Option Addr) (m c1 n c : Nat) (w : World) (hp : p.In) (hM : ¬ p.May) :
    Calls Try.prog 18 #[.pointer (some ⟨b0, 0, none⟩), p.val, .slice A1 m c1, .slice A n c] w (RetB w []) := by
  have hR := Lib.hid (fun V => Plan.right_any p V hp)
  rw [P.right_no hM] at hR
  clear hp hM
  obtain ⟨N, T, L, W, S, R⟩ := p
  unfold P.val at *
  simp only at *
  have HS := Lib.hid (Six.new w ⟨N, T, L, W, S, R⟩)
  have HB0 := Lib.hid (balloc w (.cells #[.int .i64 N, .int .i64 T, .int .i64 L, .int .i64 W, .int .i64 S, .int .i64 R] 23))
  go_enter Try.func18, Try.ntmps18
  go_wp2_with fail
  generalize w.alloc (.cells #[.int .i64 N, .int .i64 T, .int .i64 L, .int .i64 W, .int .i64 S, .int .i64 R] 23) = w0 at *
  obtain ⟨c0, c1, c2, c3, c4, c5⟩ := sixs HS.out
  simp only at c0 c1 c2 c3 c4 c5
  refine (hR.out _).mono ?_
  rintro e w1 ⟨rfl, hb1⟩
  clear c0 c1 c2 c3 c4 c5
  go_wp2
  go_ret
  exact ⟨none, 0, rfl, BytesAt.nil _ _, bstep HB0.out hb1⟩

set_option maxHeartbeats 4000000 in
theorem zero_ok (b0 : Nat) (N L W S R : Int) (t0 : Nat) (A : Option Addr) (sh : List UInt8) (c : Nat) (w : World) (hp : (⟨N, t0, L, W, S, R⟩ : P).In) (hM : (⟨N, t0, L, W, S, R⟩ : P).May) (ht : Gf.Tab w b0) (h : BytesAt w A sh) (hl : sh.length ≤ 256) :
    Calls Try.prog 19 #[.pointer (some ⟨b0, 0, none⟩), .agg #[.int .i64 N, .int .i64 (t0 : Nat), .int .i64 L, .int .i64 W, .int .i64 S, .int .i64 R], .slice A sh.length c] w (RetB w (mzero ⟨N, t0, L, W, S, R⟩ sh)) := by
  obtain ⟨q, hq⟩ : ∃ q : P, q = ⟨N, t0, L, W, S, R⟩ := ⟨_, rfl⟩
  have hv : q.val = .agg #[.int .i64 N, .int .i64 (t0 : Nat), .int .i64 L, .int .i64 W, .int .i64 S, .int .i64 R] := by rw [hq]; rfl
  have eT : q.T.toNat = t0 := by rw [hq]; exact Int.toNat_natCast _
  have hpq := hp
  rw [← hq] at hpq hM ⊢
  have hM' := hM
  unfold P.May at hM'
  have hS := fun V => Plan.secrets_own q V hpq
  rw [hv, show q.secretsA = q.secrets from by simp only [P.secretsA, P.right_yes hM]; rfl] at hS
  have hsl : q.secrets.length ≤ 256 := by rw [secrets_len]; omega
  have hnd := May.secrets hM
  have hR := Lib.hid (fun V => Plan.right_any q V hpq)
  rw [P.right_yes hM, hv] at hR
  have hz : mzero q sh = sized (overs sh q.secrets) t0 := by unfold mzero; rw [overs_over hnd hl, eT]
  rw [hz]
  have hol := overs_len sh q.secrets
  have hOV := fun gq X d V (ht : Gf.Tab V b0) (hs : V.cell? ⟨gq, 0, none⟩ = some (.pointer (some ⟨b0, 0, none⟩))) (h : BytesAt V A sh) (hx : BytesAt V X q.secrets) => over_any b0 gq A X sh q.secrets c d V ht hs h (by omega) hx (by omega)
  generalize overs sh q.secrets = ov at *
  have hFT := fun X d V (hx : BytesAt V X ov) => fit_any X ov d t0 V hx (by omega)
  have hrl := sized_len ov t0
  generalize sized ov t0 = res at *
  have HFT := Lib.hid (fun X d V (hx : BytesAt V X ov) => (show Calls Try.prog 41 #[.slice X ov.length d, .int .i64 (t0 : Nat)] V fun e w' => ∃ Y f, e = .returned (.slice Y t0 f) ∧ BytesAt w' Y res ∧ Below V.heap.size V w' from (hFT X d V hx).mono fun e w' ⟨Y, f, h1, _, _, h2, h3, _⟩ => ⟨Y, f, by rw [h1, hrl], h2, h3⟩))
  unfold RetB
  rw [hrl]
  obtain ⟨on, hon⟩ : ∃ on, on = ov.length := ⟨_, rfl⟩
  obtain ⟨sl, hsn⟩ : ∃ sl, sl = q.secrets.length := ⟨_, rfl⟩
  rw [← hon] at HFT hOV
  rw [← hsn] at hOV
  have HSN := Lib.hid hsn
  generalize q.secrets = sec at *
  obtain ⟨n, hn⟩ : ∃ n, n = sh.length := ⟨_, rfl⟩
  rw [← hn] at hOV ⊢
  have HOV := Lib.hid hOV; have HSEC := Lib.hid hS; have H := Lib.hid h; have HT := Lib.hid ht
  clear hOV hS h ht hl hp hpq hM hM' hsl hnd hz hol hFT hrl hon hsn hn hq hv eT
  clear q
  have HS := Lib.hid (Six.new w ⟨N, t0, L, W, S, R⟩)
  have HB0 := Lib.hid (balloc w (.cells #[.int .i64 N, .int .i64 (t0 : Nat), .int .i64 L, .int .i64 W, .int .i64 S, .int .i64 R] 23))
  go_enter Try.func19, Try.ntmps19
  go_wp2_with fail
  generalize w.alloc (.cells #[.int .i64 N, .int .i64 (t0 : Nat), .int .i64 L, .int .i64 W, .int .i64 S, .int .i64 R] 23) = w0 at *
  obtain ⟨c0, c1, c2, c3, c4, c5⟩ := sixs HS.out
  simp only at c0 c1 c2 c3 c4 c5
  refine (hR.out _).mono ?_
  rintro e w1 ⟨rfl, hb1⟩
  clear c0 c1 c2 c3 c4 c5
  have HB1 := Lib.hid (bstep HB0.out hb1)
  have HS1 := Lib.hid (HS.out.below hb1)
  clear hb1
  go_wp2_with fail
  refine Drawn.wp_region_flowL 10 [Drawn.SP.is (.slice A n c), Drawn.SP.is (.pointer (some ⟨b0, 0, none⟩)), SP.quo b0, Drawn.SP.is (.agg #[.int .i64 N, .int .i64 (t0 : Nat), .int .i64 L, .int .i64 W, .int .i64 S, .int .i64 R]), SP.bN sec sl, SP.bN ov on, Drawn.SP.is (.pointer (some ⟨w.heap.size, 1, none⟩)), Drawn.SP.is (.int .i64 (t0 : Nat)), SP.bN res t0, SP.bN res t0] (by kernel_rfl) (by kernel_rfl) ?_ ?_
  · intro i hi a wq hb hev hdep
    rcases (show i = 0 ∨ i = 1 ∨ i = 2 ∨ i = 3 ∨ i = 4 ∨ i = 5 ∨ i = 6 ∨ i = 7 ∨ i = 8 ∨ i = 9 by omega) with rfl | rfl | rfl | rfl | rfl | rfl | rfl | rfl | rfl | rfl
    · have e2 : a.tmps[2]?.getD undef = .slice A n c := hev 2 rfl
      refine Drawn.wpOp_flow 10 rfl rfl rfl ?_
      clear hev hdep hb
      go_simp
      exact ⟨_, rfl, rfl, Below.refl _ _⟩
    · have e0 : a.tmps[0]?.getD undef = .pointer (some ⟨b0, 0, none⟩) := hev 0 rfl
      refine Drawn.wpOp_flow 11 rfl rfl rfl ?_
      clear hev hdep hb
      go_simp
      exact ⟨_, rfl, rfl, Below.refl _ _⟩
    · have d1 : a.tmps[11]?.getD undef = .pointer (some ⟨b0, 0, none⟩) := hdep 1 rfl
      refine Drawn.wpOp_flow 12 rfl rfl rfl ?_
      clear hev hdep
      clear hb
      go_simp
      refine (quotient_any b0 wq).mono ?_
      rintro e w' ⟨rfl, hc, hb'⟩
      exact ⟨_, rfl, ⟨_, rfl, hc⟩, hb'⟩
    · have e4 : a.tmps[4]?.getD undef = .pointer (some ⟨w.heap.size, 0, none⟩) := hev 4 rfl
      refine Drawn.wpOp_flow 13 rfl rfl rfl ?_
      obtain ⟨c0, c1, c2, c3, c4, c5⟩ := sixs (HS1.out.below hb)
      simp only at c0 c1 c2 c3 c4 c5
      clear hev hdep hb
      go_simp
      exact ⟨_, rfl, rfl, Below.refl _ _⟩
    · have d3 : a.tmps[13]?.getD undef = .agg #[.int .i64 N, .int .i64 (t0 : Nat), .int .i64 L, .int .i64 W, .int .i64 S, .int .i64 R] := hdep 3 rfl
      refine Drawn.wpOp_flow 14 rfl rfl rfl ?_
      clear hev hdep
      have C := HSEC.out wq
      clear hb
      go_simp
      refine C.mono ?_
      rintro e w' hr
      obtain ⟨Y, dy, rfl, y1, y2, y3, hb', _⟩ := hr.new
      exact ⟨_, rfl, ⟨Y, dy, by rw [HSN.out], y3⟩, hb'⟩
    · have d0 : a.tmps[10]?.getD undef = .slice A n c := hdep 0 rfl
      obtain ⟨gq, d2, hgq⟩ : (SP.quo b0).p (a.tmps[12]?.getD undef) wq := hdep 2 rfl
      obtain ⟨Xs, ds, d4, hxs⟩ : (SP.bN sec sl).p (a.tmps[14]?.getD undef) wq := hdep 4 rfl
      refine Drawn.wpOp_flow 15 rfl rfl rfl ?_
      clear hev hdep
      have C := HOV.out gq Xs ds wq (HT.out.below (bstep HB1.out hb)) hgq (H.out.below (bstep HB1.out hb)) hxs
      clear hgq hxs
      clear hb
      go_simp
      refine C.mono ?_
      rintro e w' ⟨X, d, rfl, g3, hb'⟩
      exact ⟨_, rfl, ⟨X, d, rfl, g3⟩, hb'⟩
    · have e4 : a.tmps[4]?.getD undef = .pointer (some ⟨w.heap.size, 0, none⟩) := hev 4 rfl
      refine Drawn.wpOp_flow 16 rfl rfl rfl ?_
      clear hev hdep hb
      go_simp
      exact ⟨_, rfl, rfl, Below.refl _ _⟩
    · have d6 : a.tmps[16]?.getD undef = .pointer (some ⟨w.heap.size, 1, none⟩) := hdep 6 rfl
      refine Drawn.wpOp_flow 17 rfl rfl rfl ?_
      obtain ⟨c0, c1, c2, c3, c4, c5⟩ := sixs (HS1.out.below hb)
      simp only at c0 c1 c2 c3 c4 c5
      clear hev hdep hb
      go_simp
      exact ⟨_, rfl, rfl, Below.refl _ _⟩
    · obtain ⟨Xo, d3, d5, hxo⟩ : (SP.bN ov on).p (a.tmps[15]?.getD undef) wq := hdep 5 rfl
      have d7 : a.tmps[17]?.getD undef = .int .i64 (t0 : Nat) := hdep 7 rfl
      refine Drawn.wpOp_flow 18 rfl rfl rfl ?_
      clear hev hdep
      have C := HFT.out Xo d3 wq hxo
      clear hxo
      clear hb
      go_simp
      refine C.mono ?_
      rintro e w' ⟨X, d, rfl, g3, hb'⟩
      exact ⟨_, rfl, ⟨X, d, rfl, g3⟩, hb'⟩
    · have d8 := hdep 8 rfl
      refine Drawn.wpOp_flow 6 rfl rfl rfl ?_
      clear hev hdep hb
      go_simp
      exact ⟨_, rfl, d8, Below.refl _ _⟩
  · intro xq wq hb hxq
    have vq0 : xq 0 = .slice A n c := hxq 0 (by omega)
    have vq1 : xq 1 = .pointer (some ⟨b0, 0, none⟩) := hxq 1 (by omega)
    have vq3 : xq 3 = .agg #[.int .i64 N, .int .i64 (t0 : Nat), .int .i64 L, .int .i64 W, .int .i64 S, .int .i64 R] := hxq 3 (by omega)
    have vq6 : xq 6 = .pointer (some ⟨w.heap.size, 1, none⟩) := hxq 6 (by omega)
    have vq7 : xq 7 = .int .i64 (t0 : Nat) := hxq 7 (by omega)
    obtain ⟨Xr, dr, vq9, hxr⟩ : (SP.bN res t0).p (xq 9) wq := hxq 9 (by omega)
    show Exit.then _ _ Exit.normal (Drawn.acts _ [(6, some (xq 9)), (18, some (xq 8)), (17, some (xq 7)), (16, some (xq 6)), (15, some (xq 5)), (14, some (xq 4)), (13, some (xq 3)), (12, some (xq 2)), (11, some (xq 1)), (10, some (xq 0))]) _
    rw [vq0, vq1, vq3, vq6, vq7, vq9]
    clear hxq vq0 vq1 vq3 vq6 vq7 vq9
    generalize xq 2 = yq2
    generalize xq 4 = yq4
    generalize xq 5 = yq5
    generalize xq 8 = yq8
    clear xq
    simp only [Drawn.acts]
    go_simp
    have HX := Lib.hid hxr
    have HB2 := Lib.hid (bstep HB1.out hb)
    clear hxr hb
    go_at_K
    go_wp2
    go_ret
    exact ⟨Xr, dr, rfl, HX.out, HB2.out⟩
theorem zero_any (b0 : Nat) (p : P) (A : Option Addr) (sh : List UInt8) (c : Nat) (w : World) (hp : p.In) (ht : Gf.Tab w b0) (h : BytesAt w A sh) (hl : sh.length ≤ 256) :
    Calls Try.prog 19 #[.pointer (some ⟨b0, 0, none⟩), p.val, .slice A sh.length c] w (RetB w (zeroA p sh)) := by
  unfold zeroA
  by_cases hM : p.May
  · rw [P.right_yes hM, if_pos rfl]
    have hT := hM
    obtain ⟨N, T, L, W, S, R⟩ := p
    unfold P.May at hT
    simp only at hT
    obtain ⟨t0, rfl⟩ : ∃ t0 : Nat, T = t0 := ⟨T.toNat, by omega⟩
    exact zero_ok b0 N L W S R t0 A sh c w hp hM ht h hl
  · rw [P.right_no hM, if_neg (by decide)]
    exact zero_no b0 p A sh.length c w hp hM

set_option maxHeartbeats 4000000 in
theorem deal_ok (b0 : Nat) (N T W S R : Int) (l0 : Nat) (A1 A : Option Addr) (delta sh : List UInt8) (c1 c : Nat) (w : World) (hp : (⟨N, T, l0, W, S, R⟩ : P).In) (hM : (⟨N, T, l0, W, S, R⟩ : P).May) (ht : Gf.Tab w b0) (h1 : BytesAt w A1 delta) (h : BytesAt w A sh) (hl : sh.length ≤ 256) :
    Calls Try.prog 18 #[.pointer (some ⟨b0, 0, none⟩), .agg #[.int .i64 N, .int .i64 T, .int .i64 (l0 : Nat), .int .i64 W, .int .i64 S, .int .i64 R], .slice A1 delta.length c1, .slice A sh.length c] w (RetB w (mdeal ⟨N, T, l0, W, S, R⟩ delta sh)) := by
  obtain ⟨q, hq⟩ : ∃ q : P, q = ⟨N, T, l0, W, S, R⟩ := ⟨_, rfl⟩
  have hv : q.val = .agg #[.int .i64 N, .int .i64 T, .int .i64 (l0 : Nat), .int .i64 W, .int .i64 S, .int .i64 R] := by rw [hq]; rfl
  have eL : q.L.toNat = l0 := by rw [hq]; exact Int.toNat_natCast _
  have hpq := hp
  rw [← hq] at hpq hM ⊢
  have hM' := hM
  unfold P.May at hM'
  have hS := fun V => Plan.secrets_own q V hpq
  rw [hv, show q.secretsA = q.secrets from by simp only [P.secretsA, P.right_yes hM]; rfl] at hS
  have hsl : q.secrets.length ≤ 256 := by rw [secrets_len]; omega
  have hnd := May.secrets hM
  have hR := Lib.hid (fun V => Plan.right_any q V hpq)
  rw [P.right_yes hM, hv] at hR
  have hsl2 := secrets_len q
  rw [eL] at hsl2
  have hfl := sized_len delta l0
  have hFT := fun V (hx : BytesAt V A1 delta) => fit_any A1 delta c1 l0 V hx (by omega)
  unfold RetNew at hFT
  rw [hfl] at hFT
  have hz : mdeal q delta sh = zeroA q (PolyM.padd sh (LagrM.thr q.secrets (sized delta l0))) := by unfold mdeal zeroA mzero; rw [P.right_yes hM, if_pos rfl, hsl2]
  rw [hz]
  generalize sized delta l0 = sd at *
  have htl := LagrM.thr_len q.secrets sd
  have hTH := fun X d Y f V (ht : Gf.Tab V b0) (hx : BytesAt V X q.secrets) (hy : BytesAt V Y sd) => Lagr.through_yes b0 X Y q.secrets sd d f V ht hx hy (by omega) (by omega) ((LagrM.unl_iff _).mpr hnd)
  rw [hfl] at hTH
  generalize LagrM.thr q.secrets sd = th at *
  have hSM := fun X d V (ha : BytesAt V A sh) (hx : BytesAt V X th) => Poly.sum_new A X sh th c d V ha hx (by omega) (by omega)
  have hml := LagrM.padd_len sh th
  generalize PolyM.padd sh th = sm at *
  have hZ := fun X d V (ht : Gf.Tab V b0) (hx : BytesAt V X sm) => zero_any b0 q X sm d V hpq ht hx (by omega)
  rw [hv] at hZ
  generalize zeroA q sm = res at *
  have HFT := Lib.hid (fun V (hx : BytesAt V A1 delta) => (hFT V hx).mono fun e w' (h : ∃ Y f, e = .returned (.slice Y l0 f) ∧ l0 ≤ f ∧ f ≤ maxLen ∧ BytesAt w' Y sd ∧ Below V.heap.size V w' ∧ New V Y) => (show ∃ Y f, e = .returned (.slice Y l0 f) ∧ BytesAt w' Y sd ∧ Below V.heap.size V w' from by obtain ⟨Y, f, h1, _, _, h2, h3, _⟩ := h; exact ⟨Y, f, h1, h2, h3⟩))
  have HTH := Lib.hid (fun X d Y f V ht hx hy => (hTH X d Y f V ht hx hy).mono fun e w' (h : ∃ B d, e = .returned (.tuple #[.slice B th.length d, .bool true]) ∧ BytesAt w' B th ∧ Below V.heap.size V w' ∧ New V B ∧ d ≤ maxLen) => (show ∃ B d, e = .returned (.tuple #[.slice B th.length d, .bool true]) ∧ BytesAt w' B th ∧ Below V.heap.size V w' from by obtain ⟨B, d, h1, h2, h3, _⟩ := h; exact ⟨B, d, h1, h2, h3⟩))
  have HSM := Lib.hid (fun X d V ha hx => (hSM X d V ha hx).mono fun e w' (h : RetNew V sm e w') => (show ∃ Y f, e = .returned (.slice Y sm.length f) ∧ BytesAt w' Y sm ∧ Below V.heap.size V w' from by obtain ⟨Y, f, h1, _, _, h2, h3, _⟩ := h; exact ⟨Y, f, h1, h2, h3⟩))
  have HZ := Lib.hid hZ
  unfold RetB at HZ ⊢
  obtain ⟨rn, hrn⟩ : ∃ rn, rn = res.length := ⟨_, rfl⟩
  obtain ⟨mn, hmn⟩ : ∃ mn, mn = sm.length := ⟨_, rfl⟩
  obtain ⟨tn, htn⟩ : ∃ tn, tn = th.length := ⟨_, rfl⟩
  obtain ⟨sl, hsn⟩ : ∃ sl, sl = q.secrets.length := ⟨_, rfl⟩
  obtain ⟨n, hn⟩ : ∃ n, n = sh.length := ⟨_, rfl⟩
  obtain ⟨m, hm⟩ : ∃ m, m = delta.length := ⟨_, rfl⟩
  rw [← hrn] at HZ ⊢
  rw [← hmn] at HZ HSM
  rw [← htn] at HTH HSM
  rw [← hsn] at HTH
  rw [← hn] at HSM ⊢
  rw [← hm] at HFT ⊢
  have HSN := Lib.hid hsn
  generalize q.secrets = sec at *
  have HSEC := Lib.hid hS; have H := Lib.hid h; have H1 := Lib.hid h1; have HT := Lib.hid ht
  clear hS h h1 ht hl hp hpq hM hM' hsl hsl2 hnd hz hfl hFT htl hTH hSM hml hZ hrn hmn htn hsn hn hm hq hv eL
  clear q
  have HS := Lib.hid (Six.new w ⟨N, T, l0, W, S, R⟩)
  have HB0 := Lib.hid (balloc w (.cells #[.int .i64 N, .int .i64 T, .int .i64 (l0 : Nat), .int .i64 W, .int .i64 S, .int .i64 R] 23))
  go_enter Try.func18, Try.ntmps18
  go_wp2_with fail
  generalize w.alloc (.cells #[.int .i64 N, .int .i64 T, .int .i64 (l0 : Nat), .int .i64 W, .int .i64 S, .int .i64 R] 23) = w0 at *
  obtain ⟨c0, c1, c2, c3, c4, c5⟩ := sixs HS.out
  simp only at c0 c1 c2 c3 c4 c5
  refine (hR.out _).mono ?_
  rintro e w1 ⟨rfl, hb1⟩
  clear c0 c1 c2 c3 c4 c5
  have HB1 := Lib.hid (bstep HB0.out hb1)
  have HS1 := Lib.hid (HS.out.below hb1)
  clear hb1
  go_wp2_with fail
  refine Drawn.wp_region_flowL 13 [Drawn.SP.is (.pointer (some ⟨b0, 0, none⟩)), Drawn.SP.is (.agg #[.int .i64 N, .int .i64 T, .int .i64 (l0 : Nat), .int .i64 W, .int .i64 S, .int .i64 R]), SP.bN sec sl, Drawn.SP.is (.slice A1 m c1), Drawn.SP.is (.pointer (some ⟨w.heap.size, 2, none⟩)), Drawn.SP.is (.int .i64 (l0 : Nat)), SP.bN sd l0, SP.bO th tn true, SP.bO th tn true, SP.bN th tn, Drawn.SP.is (.bool true), SP.bN th tn, Drawn.SP.is (.bool true)] (by kernel_rfl) (by kernel_rfl) ?_ ?_
  · intro i hi a wq hb hev hdep
    rcases (show i = 0 ∨ i = 1 ∨ i = 2 ∨ i = 3 ∨ i = 4 ∨ i = 5 ∨ i = 6 ∨ i = 7 ∨ i = 8 ∨ i = 9 ∨ i = 10 ∨ i = 11 ∨ i = 12 by omega) with rfl | rfl | rfl | rfl | rfl | rfl | rfl | rfl | rfl | rfl | rfl | rfl | rfl
    · have e0 : a.tmps[0]?.getD undef = .pointer (some ⟨b0, 0, none⟩) := hev 0 rfl
      refine Drawn.wpOp_flow 15 rfl rfl rfl ?_
      clear hev hdep hb
      go_simp
      exact ⟨_, rfl, rfl, Below.refl _ _⟩
    · have e5 : a.tmps[5]?.getD undef = .pointer (some ⟨w.heap.size, 0, none⟩) := hev 5 rfl
      refine Drawn.wpOp_flow 16 rfl rfl rfl ?_
      obtain ⟨c0, c1, c2, c3, c4, c5⟩ := sixs (HS1.out.below hb)
      simp only at c0 c1 c2 c3 c4 c5
      clear hev hdep hb
      go_simp
      exact ⟨_, rfl, rfl, Below.refl _ _⟩
    · have d1 : a.tmps[16]?.getD undef = .agg #[.int .i64 N, .int .i64 T, .int .i64 (l0 : Nat), .int .i64 W, .int .i64 S, .int .i64 R] := hdep 1 rfl
      refine Drawn.wpOp_flow 17 rfl rfl rfl ?_
      clear hev hdep
      have C := HSEC.out wq
      clear hb
      go_simp
      refine C.mono ?_
      rintro e w' hr
      obtain ⟨Y, dy, rfl, y1, y2, y3, hb', _⟩ := hr.new
      exact ⟨_, rfl, ⟨Y, dy, by rw [HSN.out], y3⟩, hb'⟩
    · have e2 : a.tmps[2]?.getD undef = .slice A1 m c1 := hev 2 rfl
      refine Drawn.wpOp_flow 18 rfl rfl rfl ?_
      clear hev hdep hb
      go_simp
      exact ⟨_, rfl, rfl, Below.refl _ _⟩
    · have e5 : a.tmps[5]?.getD undef = .pointer (some ⟨w.heap.size, 0, none⟩) := hev 5 rfl
      refine Drawn.wpOp_flow 19 rfl rfl rfl ?_
      clear hev hdep hb
      go_simp
      exact ⟨_, rfl, rfl, Below.refl _ _⟩
    · have d4 : a.tmps[19]?.getD undef = .pointer (some ⟨w.heap.size, 2, none⟩) := hdep 4 rfl
      refine Drawn.wpOp_flow 20 rfl rfl rfl ?_
      obtain ⟨c0, c1, c2, c3, c4, c5⟩ := sixs (HS1.out.below hb)
      simp only at c0 c1 c2 c3 c4 c5
      clear hev hdep hb
      go_simp
      exact ⟨_, rfl, rfl, Below.refl _ _⟩
    · have d3 : a.tmps[18]?.getD undef = .slice A1 m c1 := hdep 3 rfl
      have d5 : a.tmps[20]?.getD undef = .int .i64 (l0 : Nat) := hdep 5 rfl
      refine Drawn.wpOp_flow 21 rfl rfl rfl ?_
      clear hev hdep
      have C := HFT.out wq (H1.out.below (bstep HB1.out hb))
      clear hb
      go_simp
      refine C.mono ?_
      rintro e w' ⟨X, d, rfl, g3, hb'⟩
      exact ⟨_, rfl, ⟨X, d, rfl, g3⟩, hb'⟩
    · have d0 : a.tmps[15]?.getD undef = .pointer (some ⟨b0, 0, none⟩) := hdep 0 rfl
      obtain ⟨Xs, ds, d2, hxs⟩ : (SP.bN sec sl).p (a.tmps[17]?.getD undef) wq := hdep 2 rfl
      obtain ⟨Xf, d2, d6, hxf⟩ : (SP.bN sd l0).p (a.tmps[21]?.getD undef) wq := hdep 6 rfl
      refine Drawn.wpOp_flow 22 rfl rfl rfl ?_
      clear hev hdep
      have C := HTH.out Xs ds Xf d2 wq (HT.out.below (bstep HB1.out hb)) hxs hxf
      clear hxs hxf
      clear hb
      go_simp
      refine C.mono ?_
      rintro e w' ⟨X, d, rfl, g3, hb'⟩
      exact ⟨_, rfl, ⟨X, d, rfl, g3⟩, hb'⟩
    · have d7 := hdep 7 rfl
      refine Drawn.wpOp_flow 14 rfl rfl rfl ?_
      clear hev hdep hb
      go_simp
      exact ⟨_, rfl, d7, Below.refl _ _⟩
    · obtain ⟨Xt, dt, d8, hxt⟩ : (SP.bO th tn true).p (a.tmps[14]?.getD undef) wq := hdep 8 rfl
      refine Drawn.wpOp_flow 23 rfl rfl rfl ?_
      clear hev hdep
      clear hb
      go_simp
      exact ⟨_, rfl, ⟨Xt, dt, rfl, hxt⟩, Below.refl _ _⟩
    · obtain ⟨Xt, dt, d8, hxt⟩ : (SP.bO th tn true).p (a.tmps[14]?.getD undef) wq := hdep 8 rfl
      refine Drawn.wpOp_flow 24 rfl rfl rfl ?_
      clear hev hdep hb
      go_simp
      exact ⟨_, rfl, rfl, Below.refl _ _⟩
    · have d9 := hdep 9 rfl
      refine Drawn.wpOp_flow 9 rfl rfl rfl ?_
      clear hev hdep hb
      go_simp
      exact ⟨_, rfl, d9, Below.refl _ _⟩
    · have d10 : a.tmps[24]?.getD undef = .bool true := hdep 10 rfl
      refine Drawn.wpOp_flow 10 rfl rfl rfl ?_
      clear hev hdep hb
      go_simp
      exact ⟨_, rfl, rfl, Below.refl _ _⟩
  · intro xq wq hb hxq
    have vq0 : xq 0 = .pointer (some ⟨b0, 0, none⟩) := hxq 0 (by omega)
    have vq1 : xq 1 = .agg #[.int .i64 N, .int .i64 T, .int .i64 (l0 : Nat), .int .i64 W, .int .i64 S, .int .i64 R] := hxq 1 (by omega)
    have vq3 : xq 3 = .slice A1 m c1 := hxq 3 (by omega)
    have vq4 : xq 4 = .pointer (some ⟨w.heap.size, 2, none⟩) := hxq 4 (by omega)
    have vq5 : xq 5 = .int .i64 (l0 : Nat) := hxq 5 (by omega)
    have vq10 : xq 10 = .bool true := hxq 10 (by omega)
    obtain ⟨Xt, dt, vq11, hxt⟩ : (SP.bN th tn).p (xq 11) wq := hxq 11 (by omega)
    have vq12 : xq 12 = .bool true := hxq 12 (by omega)
    show Exit.then _ _ Exit.normal (Drawn.acts _ [(10, some (xq 12)), (9, some (xq 11)), (24, some (xq 10)), (23, some (xq 9)), (14, some (xq 8)), (22, some (xq 7)), (21, some (xq 6)), (20, some (xq 5)), (19, some (xq 4)), (18, some (xq 3)), (17, some (xq 2)), (16, some (xq 1)), (15, some (xq 0))]) _
    rw [vq0, vq1, vq3, vq4, vq5, vq10, vq11, vq12]
    clear hxq vq0 vq1 vq3 vq4 vq5 vq10 vq11 vq12
    generalize xq 2 = yq2
    generalize xq 6 = yq6
    generalize xq 7 = yq7
    generalize xq 8 = yq8
    generalize xq 9 = yq9
    clear xq
    simp only [Drawn.acts]
    go_simp
    have HX := Lib.hid hxt
    have HB2 := Lib.hid (bstep HB1.out hb)
    have HS2 := Lib.hid (HS1.out.below hb)
    clear hxt hb
    go_at_K
    go_wp2_with fail
    refine Drawn.wp_region_flowL 7 [Drawn.SP.is (.pointer (some ⟨b0, 0, none⟩)), Drawn.SP.is (.agg #[.int .i64 N, .int .i64 T, .int .i64 (l0 : Nat), .int .i64 W, .int .i64 S, .int .i64 R]), Drawn.SP.is (.slice A n c), Drawn.SP.is (.slice Xt tn dt), SP.bN sm mn, SP.bN res rn, SP.bN res rn] (by kernel_rfl) (by kernel_rfl) ?_ ?_
    · intro i hi a w9 hb hev hdep
      rcases (show i = 0 ∨ i = 1 ∨ i = 2 ∨ i = 3 ∨ i = 4 ∨ i = 5 ∨ i = 6 by omega) with rfl | rfl | rfl | rfl | rfl | rfl | rfl
      · have e0 : a.tmps[0]?.getD undef = .pointer (some ⟨b0, 0, none⟩) := hev 0 rfl
        refine Drawn.wpOp_flow 25 rfl rfl rfl ?_
        clear hev hdep hb
        go_simp
        exact ⟨_, rfl, rfl, Below.refl _ _⟩
      · have e5 : a.tmps[5]?.getD undef = .pointer (some ⟨w.heap.size, 0, none⟩) := hev 5 rfl
        refine Drawn.wpOp_flow 26 rfl rfl rfl ?_
        obtain ⟨c0, c1, c2, c3, c4, c5⟩ := sixs (HS2.out.below hb)
        simp only at c0 c1 c2 c3 c4 c5
        clear hev hdep hb
        go_simp
        exact ⟨_, rfl, rfl, Below.refl _ _⟩
      · have e3 : a.tmps[3]?.getD undef = .slice A n c := hev 3 rfl
        refine Drawn.wpOp_flow 27 rfl rfl rfl ?_
        clear hev hdep hb
        go_simp
        exact ⟨_, rfl, rfl, Below.refl _ _⟩
      · have e9 : a.tmps[9]?.getD undef = .slice Xt tn dt := hev 9 rfl
        refine Drawn.wpOp_flow 28 rfl rfl rfl ?_
        clear hev hdep hb
        go_simp
        exact ⟨_, rfl, rfl, Below.refl _ _⟩
      · have d2 : a.tmps[27]?.getD undef = .slice A n c := hdep 2 rfl
        have d3 : a.tmps[28]?.getD undef = .slice Xt tn dt := hdep 3 rfl
        refine Drawn.wpOp_flow 29 rfl rfl rfl ?_
        clear hev hdep
        have C := HSM.out Xt dt w9 (H.out.below (bstep HB2.out hb)) (HX.out.below hb)
        clear hb
        go_simp
        refine C.mono ?_
        rintro e w' ⟨X, d, rfl, g3, hb'⟩
        exact ⟨_, rfl, ⟨X, d, rfl, g3⟩, hb'⟩
      · have d0 : a.tmps[25]?.getD undef = .pointer (some ⟨b0, 0, none⟩) := hdep 0 rfl
        have d1 : a.tmps[26]?.getD undef = .agg #[.int .i64 N, .int .i64 T, .int .i64 (l0 : Nat), .int .i64 W, .int .i64 S, .int .i64 R] := hdep 1 rfl
        obtain ⟨Xm, dm, d4, hxm⟩ : (SP.bN sm mn).p (a.tmps[29]?.getD undef) w9 := hdep 4 rfl
        refine Drawn.wpOp_flow 30 rfl rfl rfl ?_
        clear hev hdep
        have C := HZ.out Xm dm w9 (HT.out.below (bstep HB2.out hb)) hxm
        clear hxm
        clear hb
        go_simp
        refine C.mono ?_
        rintro e w' ⟨X, d, rfl, g3, hb'⟩
        exact ⟨_, rfl, ⟨X, d, rfl, g3⟩, hb'⟩
      · have d5 := hdep 5 rfl
        refine Drawn.wpOp_flow 8 rfl rfl rfl ?_
        clear hev hdep hb
        go_simp
        exact ⟨_, rfl, d5, Below.refl _ _⟩
    · intro xq w9 hb hxq
      have vq0 : xq 0 = .pointer (some ⟨b0, 0, none⟩) := hxq 0 (by omega)
      have vq1 : xq 1 = .agg #[.int .i64 N, .int .i64 T, .int .i64 (l0 : Nat), .int .i64 W, .int .i64 S, .int .i64 R] := hxq 1 (by omega)
      have vq2 : xq 2 = .slice A n c := hxq 2 (by omega)
      have vq3 : xq 3 = .slice Xt tn dt := hxq 3 (by omega)
      obtain ⟨Xr, dr, vq6, hxr⟩ : (SP.bN res rn).p (xq 6) w9 := hxq 6 (by omega)
      show Exit.then _ _ Exit.normal (Drawn.acts _ [(8, some (xq 6)), (30, some (xq 5)), (29, some (xq 4)), (28, some (xq 3)), (27, some (xq 2)), (26, some (xq 1)), (25, some (xq 0))]) _
      rw [vq0, vq1, vq2, vq3, vq6]
      clear hxq vq0 vq1 vq2 vq3 vq6
      generalize xq 4 = yq4
      generalize xq 5 = yq5
      clear xq
      simp only [Drawn.acts]
      go_simp
      have HXR := Lib.hid hxr
      have HB3 := Lib.hid (bstep HB2.out hb)
      clear hxr hb
      go_at_K
      go_wp2
      go_ret
      exact ⟨Xr, dr, rfl, HXR.out, HB3.out⟩
theorem deal_any (b0 : Nat) (p : P) (A1 A : Option Addr) (delta sh : List UInt8) (c1 c : Nat) (w : World) (hp : p.In) (ht : Gf.Tab w b0) (h1 : BytesAt w A1 delta) (h : BytesAt w A sh) (hl : sh.length ≤ 256) :
    Calls Try.prog 18 #[.pointer (some ⟨b0, 0, none⟩), p.val, .slice A1 delta.length c1, .slice A sh.length c] w (RetB w (dealA p delta sh)) := by
  unfold dealA
  by_cases hM : p.May
  · rw [P.right_yes hM, if_pos rfl]
    have hT := hM
    obtain ⟨N, T, L, W, S, R⟩ := p
    unfold P.May at hT
    simp only at hT
    obtain ⟨l0, rfl⟩ : ∃ l0 : Nat, L = l0 := ⟨L.toNat, by omega⟩
    exact deal_ok b0 N T W S R l0 A1 A delta sh c1 c w hp hM ht h1 h hl
  · rw [P.right_no hM, if_neg (by decide)]
    exact deal_no b0 p A1 A delta.length c1 sh.length c w hp hM

set_option maxHeartbeats 1000000 in
theorem blind_no (b0 : Nat) (p : P) (A : Option Addr) (n c : Nat) (t : Int) (w : World) (hp : p.In) (hi : In64 t) (h : p.isA t = false) :
    Calls Try.prog 20 #[.pointer (some ⟨b0, 0, none⟩), p.val, .slice A n c, .int .i64 t] w (RetB w []) := by
  have hR := Lib.hid (fun V => Plan.is_any p t V hp hi)
  rw [h] at hR
  clear hp hi h
  obtain ⟨N, T, L, W, S, R⟩ := p
  unfold P.val at *
  simp only at *
  have HS := Lib.hid (Six.new w ⟨N, T, L, W, S, R⟩)
  have HB0 := Lib.hid (balloc w (.cells #[.int .i64 N, .int .i64 T, .int .i64 L, .int .i64 W, .int .i64 S, .int .i64 R] 23))
  go_enter Try.func20, Try.ntmps20
  go_wp2_with fail
  generalize w.alloc (.cells #[.int .i64 N, .int .i64 T, .int .i64 L, .int .i64 W, .int .i64 S, .int .i64 R] 23) = w0 at *
  obtain ⟨c0, c1, c2, c3, c4, c5⟩ := sixs HS.out
  simp only at c0 c1 c2 c3 c4 c5
  refine (hR.out _).mono ?_
  rintro e w1 ⟨rfl, hb1⟩
  clear c0 c1 c2 c3 c4 c5
  go_wp2
  go_ret
  exact ⟨none, 0, rfl, BytesAt.nil _ _, bstep HB0.out hb1⟩
set_option maxHeartbeats 4000000 in
theorem blind_ok (b0 : Nat) (p : P) (A : Option Addr) (sh : List UInt8) (c : Nat) (t : Int) (w : World) (hp : p.In) (hi : In64 t) (ht : Gf.Tab w b0) (h : BytesAt w A sh) (hl : sh.length ≤ 256) (hy : p.isA t = true) :
    Calls Try.prog 20 #[.pointer (some ⟨b0, 0, none⟩), p.val, .slice A sh.length c, .int .i64 t] w (RetB w (mblind p sh t)) := by
  have hR := Lib.hid (fun V => Plan.is_any p t V hp hi)
  rw [hy] at hR
  have hM : p.May := by
    unfold P.isA at hy
    rw [Bool.and_eq_true] at hy
    exact of_decide_eq_true hy.1
  have hM' := hM
  unfold P.May at hM'
  obtain ⟨wd, hwd⟩ : ∃ wd : Nat, p.T + p.L - 1 = wd := ⟨(p.T + p.L - 1).toNat, by omega⟩
  have HWD : Hid (wd ≤ 256) := Lib.hid (by omega)
  have hN := fun V => Plan.need_any p V hp
  rw [show p.needA = (wd : Int) + 1 from by unfold P.needA; rw [P.right_yes hM, if_pos rfl]; omega] at hN
  have hPT := fun V => Plan.point_any t V hi
  generalize hpt : point t = pt at hPT
  have hz : mblind p sh t = sized (overs sh [pt]) wd := by unfold mblind width; rw [overs_one _ _ hl, hpt, hwd, Int.toNat_natCast]
  rw [hz]
  have hol := overs_len sh [pt]
  have hOV := fun gq X d V (ht : Gf.Tab V b0) (hs : V.cell? ⟨gq, 0, none⟩ = some (.pointer (some ⟨b0, 0, none⟩))) (h : BytesAt V A sh) (hx : BytesAt V X [pt]) => over_any b0 gq A X sh [pt] c d V ht hs h (by omega) hx (by simp)
  generalize overs sh [pt] = ov at *
  have hFT := fun X d V (hx : BytesAt V X ov) => fit_any X ov d wd V hx (by omega)
  have hrl := sized_len ov wd
  generalize sized ov wd = res at *
  have HFT := Lib.hid (fun X d V (hx : BytesAt V X ov) => (show Calls Try.prog 41 #[.slice X ov.length d, .int .i64 (wd : Nat)] V fun e w' => ∃ Y f, e = .returned (.slice Y wd f) ∧ BytesAt w' Y res ∧ Below V.heap.size V w' from (hFT X d V hx).mono fun e w' ⟨Y, f, h1, _, _, h2, h3, _⟩ => ⟨Y, f, by rw [h1, hrl], h2, h3⟩))
  unfold RetB
  rw [hrl]
  obtain ⟨on, hon⟩ : ∃ on, on = ov.length := ⟨_, rfl⟩
  rw [← hon] at HFT hOV
  obtain ⟨n, hn⟩ : ∃ n, n = sh.length := ⟨_, rfl⟩
  rw [← hn] at hOV ⊢
  have HOV := Lib.hid hOV; have HND := Lib.hid hN; have HPT := Lib.hid hPT; have H := Lib.hid h; have HT := Lib.hid ht
  simp only [List.length_singleton] at HOV
  clear hOV hN hPT h ht hl hp hi hM hM' hz hol hFT hrl hon hn hwd hpt hy
  obtain ⟨N, T, L, W, S, R⟩ := p
  unfold P.val at *
  simp only at *
  have HS := Lib.hid (Six.new w ⟨N, T, L, W, S, R⟩)
  have HB0 := Lib.hid (balloc w (.cells #[.int .i64 N, .int .i64 T, .int .i64 L, .int .i64 W, .int .i64 S, .int .i64 R] 23))
  go_enter Try.func20, Try.ntmps20
  go_wp2_with fail
  generalize w.alloc (.cells #[.int .i64 N, .int .i64 T, .int .i64 L, .int .i64 W, .int .i64 S, .int .i64 R] 23) = w0 at *
  obtain ⟨c0, c1, c2, c3, c4, c5⟩ := sixs HS.out
  simp only at c0 c1 c2 c3 c4 c5
  refine (hR.out _).mono ?_
  rintro e w1 ⟨rfl, hb1⟩
  clear c0 c1 c2 c3 c4 c5
  have HB1 := Lib.hid (bstep HB0.out hb1)
  have HS1 := Lib.hid (HS.out.below hb1)
  clear hb1
  go_wp2_with fail
  refine Drawn.wp_region_flowL 12 [Drawn.SP.is (.slice A n c), Drawn.SP.is (.pointer (some ⟨b0, 0, none⟩)), SP.quo b0, Drawn.SP.is (.int .i64 t), Drawn.SP.is (.int .u8 (pt.toNat : Nat)), SP.bN [pt] 1, SP.bN ov on, Drawn.SP.is (.agg #[.int .i64 N, .int .i64 T, .int .i64 L, .int .i64 W, .int .i64 S, .int .i64 R]), Drawn.SP.is (.int .i64 ((wd : Int) + 1)), Drawn.SP.is (.int .i64 (wd : Nat)), SP.bN res wd, SP.bN res wd] (by kernel_rfl) (by kernel_rfl) ?_ ?_
  · intro i hi a wq hb hev hdep
    rcases (show i = 0 ∨ i = 1 ∨ i = 2 ∨ i = 3 ∨ i = 4 ∨ i = 5 ∨ i = 6 ∨ i = 7 ∨ i = 8 ∨ i = 9 ∨ i = 10 ∨ i = 11 by omega) with rfl | rfl | rfl | rfl | rfl | rfl | rfl | rfl | rfl | rfl | rfl | rfl
    · have e2 : a.tmps[2]?.getD undef = .slice A n c := hev 2 rfl
      refine Drawn.wpOp_flow 13 rfl rfl rfl ?_
      clear hev hdep hb
      go_simp
      exact ⟨_, rfl, rfl, Below.refl _ _⟩
    · have e0 : a.tmps[0]?.getD undef = .pointer (some ⟨b0, 0, none⟩) := hev 0 rfl
      refine Drawn.wpOp_flow 14 rfl rfl rfl ?_
      clear hev hdep hb
      go_simp
      exact ⟨_, rfl, rfl, Below.refl _ _⟩
    · have d1 : a.tmps[14]?.getD undef = .pointer (some ⟨b0, 0, none⟩) := hdep 1 rfl
      refine Drawn.wpOp_flow 15 rfl rfl rfl ?_
      clear hev hdep
      clear hb
      go_simp
      refine (quotient_any b0 wq).mono ?_
      rintro e w' ⟨rfl, hc, hb'⟩
      exact ⟨_, rfl, ⟨_, rfl, hc⟩, hb'⟩
    · have e3 : a.tmps[3]?.getD undef = .int .i64 t := hev 3 rfl
      refine Drawn.wpOp_flow 16 rfl rfl rfl ?_
      clear hev hdep hb
      go_simp
      exact ⟨_, rfl, rfl, Below.refl _ _⟩
    · have d3 : a.tmps[16]?.getD undef = .int .i64 t := hdep 3 rfl
      refine Drawn.wpOp_flow 17 rfl rfl rfl ?_
      clear hev hdep
      have C := HPT.out wq
      clear hb
      go_simp
      refine C.mono ?_
      rintro e w' ⟨rfl, hb'⟩
      exact ⟨_, rfl, rfl, hb'⟩
    · have d4 : a.tmps[17]?.getD undef = .int .u8 (pt.toNat : Nat) := hdep 4 rfl
      refine Drawn.wpOp_flow 18 rfl rfl rfl ?_
      clear hev hdep
      clear hb
      go_simp
      exact ⟨_, rfl, ⟨_, _, rfl, (Row.new wq [pt]).bytes⟩, balloc _ _⟩
    · have d0 : a.tmps[13]?.getD undef = .slice A n c := hdep 0 rfl
      obtain ⟨gq, d2, hgq⟩ : (SP.quo b0).p (a.tmps[15]?.getD undef) wq := hdep 2 rfl
      obtain ⟨Xs, ds, d5, hxs⟩ : (SP.bN [pt] 1).p (a.tmps[18]?.getD undef) wq := hdep 5 rfl
      refine Drawn.wpOp_flow 19 rfl rfl rfl ?_
      clear hev hdep
      have C := HOV.out gq Xs ds wq (HT.out.below (bstep HB1.out hb)) hgq (H.out.below (bstep HB1.out hb)) hxs
      clear hgq hxs
      clear hb
      go_simp
      refine C.mono ?_
      rintro e w' ⟨X, d, rfl, g3, hb'⟩
      exact ⟨_, rfl, ⟨X, d, rfl, g3⟩, hb'⟩
    · have e5 : a.tmps[5]?.getD undef = .pointer (some ⟨w.heap.size, 0, none⟩) := hev 5 rfl
      refine Drawn.wpOp_flow 20 rfl rfl rfl ?_
      obtain ⟨c0, c1, c2, c3, c4, c5⟩ := sixs (HS1.out.below hb)
      simp only at c0 c1 c2 c3 c4 c5
      clear hev hdep hb
      go_simp
      exact ⟨_, rfl, rfl, Below.refl _ _⟩
    · have d7 : a.tmps[20]?.getD undef = .agg #[.int .i64 N, .int .i64 T, .int .i64 L, .int .i64 W, .int .i64 S, .int .i64 R] := hdep 7 rfl
      refine Drawn.wpOp_flow 21 rfl rfl rfl ?_
      clear hev hdep
      have C := HND.out wq
      clear hb
      go_simp
      refine C.mono ?_
      rintro e w' ⟨rfl, hb'⟩
      exact ⟨_, rfl, rfl, hb'⟩
    · have d8 : a.tmps[21]?.getD undef = .int .i64 ((wd : Int) + 1) := hdep 8 rfl
      refine Drawn.wpOp_flow 22 rfl rfl rfl ?_
      clear hev hdep
      clear hb
      have i1 : IntKind.i64.wrap (wd : Int) = (wd : Int) := by have := HWD.out; exact IntWalk.i64_in _ (by omega)
      go_simp
      exact ⟨_, rfl, rfl, Below.refl _ _⟩
    · obtain ⟨Xo, d3, d6, hxo⟩ : (SP.bN ov on).p (a.tmps[19]?.getD undef) wq := hdep 6 rfl
      have d9 : a.tmps[22]?.getD undef = .int .i64 (wd : Nat) := hdep 9 rfl
      refine Drawn.wpOp_flow 23 rfl rfl rfl ?_
      clear hev hdep
      have C := HFT.out Xo d3 wq hxo
      clear hxo
      clear hb
      go_simp
      refine C.mono ?_
      rintro e w' ⟨X, d, rfl, g3, hb'⟩
      exact ⟨_, rfl, ⟨X, d, rfl, g3⟩, hb'⟩
    · have d10 := hdep 10 rfl
      refine Drawn.wpOp_flow 8 rfl rfl rfl ?_
      clear hev hdep hb
      go_simp
      exact ⟨_, rfl, d10, Below.refl _ _⟩
  · intro xq wq hb hxq
    have vq0 : xq 0 = .slice A n c := hxq 0 (by omega)
    have vq1 : xq 1 = .pointer (some ⟨b0, 0, none⟩) := hxq 1 (by omega)
    have vq3 : xq 3 = .int .i64 t := hxq 3 (by omega)
    have vq4 : xq 4 = .int .u8 (pt.toNat : Nat) := hxq 4 (by omega)
    have vq7 : xq 7 = .agg #[.int .i64 N, .int .i64 T, .int .i64 L, .int .i64 W, .int .i64 S, .int .i64 R] := hxq 7 (by omega)
    have vq8 : xq 8 = .int .i64 ((wd : Int) + 1) := hxq 8 (by omega)
    have vq9 : xq 9 = .int .i64 (wd : Nat) := hxq 9 (by omega)
    obtain ⟨Xr, dr, vq11, hxr⟩ : (SP.bN res wd).p (xq 11) wq := hxq 11 (by omega)
    show Exit.then _ _ Exit.normal (Drawn.acts _ [(8, some (xq 11)), (23, some (xq 10)), (22, some (xq 9)), (21, some (xq 8)), (20, some (xq 7)), (19, some (xq 6)), (18, some (xq 5)), (17, some (xq 4)), (16, some (xq 3)), (15, some (xq 2)), (14, some (xq 1)), (13, some (xq 0))]) _
    rw [vq0, vq1, vq3, vq4, vq7, vq8, vq9, vq11]
    clear hxq vq0 vq1 vq3 vq4 vq7 vq8 vq9 vq11
    generalize xq 2 = yq2
    generalize xq 5 = yq5
    generalize xq 6 = yq6
    generalize xq 10 = yq10
    clear xq
    simp only [Drawn.acts]
    go_simp
    have HX := Lib.hid hxr
    have HB2 := Lib.hid (bstep HB1.out hb)
    clear hxr hb
    go_at_K
    go_wp2
    go_ret
    exact ⟨Xr, dr, rfl, HX.out, HB2.out⟩
theorem blind_any (b0 : Nat) (p : P) (A : Option Addr) (sh : List UInt8) (c : Nat) (t : Int) (w : World) (hp : p.In) (hi : In64 t) (ht : Gf.Tab w b0) (h : BytesAt w A sh) (hl : sh.length ≤ 256) :
    Calls Try.prog 20 #[.pointer (some ⟨b0, 0, none⟩), p.val, .slice A sh.length c, .int .i64 t] w (RetB w (blindA p sh t)) := by
  unfold blindA
  rcases hy : p.isA t with _ | _
  · rw [if_neg (by decide)]; exact blind_no b0 p A sh.length c t w hp hi hy
  · rw [if_pos rfl]; exact blind_ok b0 p A sh c t w hp hi ht h hl hy
end Go.Proofs.Ytompeiemioeohaa.Mask
