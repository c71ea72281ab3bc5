/- the contracts of package plan -/
import Derived.Test.YtmeenipcfmeopaaPlanB
set_option maxRecDepth 100000
namespace Go.Proofs.Ytmeenipcfmeopaa.Plan
open Go.RowKit PlanM

theorem Own.lower {w : World} {b b' : Nat} {v : Value} {l : List UInt8} (h : Own w b v l) (hb : b' ≤ b) : Own w b' v l := by
  refine ⟨h.1, ?_⟩
  rcases h.2 with h2 | ⟨g, cap, cur, h1, h2, h3⟩
  · exact .inl h2
  · exact .inr ⟨g, cap, cur, h1, Nat.le_trans hb h2, h3⟩
theorem RetOwn.later {w w1 w2 : World} {l : List UInt8} {e : Ending} (h : RetOwn w1 l e w2) (hb : Below w.heap.size w w1) : RetOwn w l e w2 := by
  obtain ⟨v, rfl, h1, h2⟩ := h
  exact ⟨v, rfl, Own.lower h1 hb.size, bstep hb h2⟩
theorem RetInts.later {w w1 w2 : World} {l : List Int} {e : Ending} (h : RetInts w1 l e w2) (hb : Below w.heap.size w w1) : RetInts w l e w2 := by
  obtain ⟨A, c, rfl, h1, h2, h3, h4, h5⟩ := h
  exact ⟨A, c, rfl, h1, h2, h3, bstep hb h4, h5.mono hb.size⟩
theorem Says.later {w w1 w2 : World} {v : Value} {e : Ending} (h : Says w1 v e w2) (hb : Below w.heap.size w w1) : Says w v e w2 := ⟨h.1, bstep hb h.2⟩
theorem RetOwn.of_nil {w w' : World} (hb : Below w.heap.size w w') : RetOwn w [] (.returned (.slice none 0 0)) w' := ⟨_, rfl, Own.nil _ _, hb⟩
theorem RetInts.of_nil {w w' : World} (hb : Below w.heap.size w w') : RetInts w [] (.returned (.slice none 0 0)) w' := ⟨none, 0, rfl, Nat.le_refl _, Nat.zero_le _, CellsAt.nil _ _, hb, New.none w⟩

theorem of_Secrets (p : P) (g : Nat) (l : List UInt8) (w : World) (hp : p.In) (hM : p.May) (hq : ∀ W, Below w.heap.size w W → Calls Try.prog 62 #[.pointer (some ⟨g, 0, none⟩)] W (RetOwn W l)) :
    Calls Try.prog 61 #[p.val, .func (.func 62) #[] #[.pointer (some ⟨g, 0, none⟩)]] w (RetOwn w l) := by
  have HR := Lib.hid (fun W => right_any p W hp)
  have HQ := Lib.hid hq
  rw [P.right_yes hM] at HR
  clear hM hq
  obtain ⟨N, T, L, W, S, R⟩ := p
  unfold P.val at HR ⊢
  clear hp
  go_enter Try.func61, Try.ntmps61
  go_wp2_with fail
  refine (HR.out _).mono ?_
  rintro e w1 ⟨rfl, hb1⟩
  go_wp2_with fail
  refine (HQ.out w1 (bstep (balloc _ _) hb1)).mono ?_
  rintro e w2 ⟨v, rfl, hv, hb2⟩
  go_wp2
  go_ret
  exact ret_own (Own.lower hv (bstep (balloc _ _) hb1).size) (bstep (balloc _ _) (bstep hb1 hb2))
theorem no_Secrets (p : P) (g : Nat) (w : World) (hp : p.In) (hM : ¬ p.May) :
    Calls Try.prog 61 #[p.val, .func (.func 62) #[] #[.pointer (some ⟨g, 0, none⟩)]] w (RetOwn w []) := by
  have HR := Lib.hid (fun W => right_any p W hp)
  rw [P.right_no hM] at HR
  clear hM
  obtain ⟨N, T, L, W, S, R⟩ := p
  unfold P.val at HR ⊢
  clear hp
  go_enter Try.func61, Try.ntmps61
  go_wp2_with fail
  refine (HR.out _).mono ?_
  rintro e w1 ⟨rfl, hb1⟩
  go_wp2
  go_ret
  exact RetOwn.of_nil (bstep (balloc _ _) hb1)

theorem of_All (p : P) (g : Nat) (l : List Int) (w : World) (hp : p.In) (hM : p.May) (hq : ∀ W, Below w.heap.size w W → Calls Try.prog 35 #[.pointer (some ⟨g, 0, none⟩)] W (RetInts W l)) :
    Calls Try.prog 34 #[p.val, .func (.func 35) #[] #[.pointer (some ⟨g, 0, none⟩)]] w (RetInts w l) := by
  have HR := Lib.hid (fun W => right_any p W hp)
  have HQ := Lib.hid hq
  rw [P.right_yes hM] at HR
  clear hM hq
  obtain ⟨N, T, L, W, S, R⟩ := p
  unfold P.val at HR ⊢
  clear hp
  go_enter Try.func34, Try.ntmps34
  go_wp2_with fail
  refine (HR.out _).mono ?_
  rintro e w1 ⟨rfl, hb1⟩
  go_wp2_with fail
  refine (HQ.out w1 (bstep (balloc _ _) hb1)).mono ?_
  rintro e w2 ⟨A, c, rfl, h1, h2, h3, hb2, h5⟩
  go_wp2
  go_ret
  exact ⟨A, c, rfl, h1, h2, h3, bstep (balloc _ _) (bstep hb1 hb2), h5.mono (bstep (balloc _ _) hb1).size⟩
theorem no_All (p : P) (g : Nat) (w : World) (hp : p.In) (hM : ¬ p.May) :
    Calls Try.prog 34 #[p.val, .func (.func 35) #[] #[.pointer (some ⟨g, 0, none⟩)]] w (RetInts w []) := by
  have HR := Lib.hid (fun W => right_any p W hp)
  rw [P.right_no hM] at HR
  clear hM
  obtain ⟨N, T, L, W, S, R⟩ := p
  unfold P.val at HR ⊢
  clear hp
  go_enter Try.func34, Try.ntmps34
  go_wp2_with fail
  refine (HR.out _).mono ?_
  rintro e w1 ⟨rfl, hb1⟩
  go_wp2
  go_ret
  exact RetInts.of_nil (bstep (balloc _ _) hb1)

theorem of_Is (p : P) (g gi : Nat) (v : Bool) (w : World) (hp : p.In) (hM : p.May) (hq : ∀ W, Below w.heap.size w W → Calls Try.prog 39 #[.pointer (some ⟨gi, 0, none⟩), .pointer (some ⟨g, 0, none⟩)] W (Says W (.bool v))) :
    Calls Try.prog 38 #[p.val, .func (.func 39) #[] #[.pointer (some ⟨gi, 0, none⟩), .pointer (some ⟨g, 0, none⟩)]] w (Says w (.bool v)) := by
  have HR := Lib.hid (fun W => right_any p W hp)
  have HQ := Lib.hid hq
  rw [P.right_yes hM] at HR
  clear hM hq
  obtain ⟨N, T, L, W, S, R⟩ := p
  unfold P.val at HR ⊢
  clear hp
  go_enter Try.func38, Try.ntmps38
  go_wp2_with fail
  refine (HR.out _).mono ?_
  rintro e w1 ⟨rfl, hb1⟩
  go_wp2_with fail
  refine (HQ.out w1 (bstep (balloc _ _) hb1)).mono ?_
  rintro e w2 ⟨rfl, hb2⟩
  go_wp2
  go_ret
  exact ⟨rfl, bstep (balloc _ _) (bstep hb1 hb2)⟩
theorem no_Is (p : P) (g gi : Nat) (w : World) (hp : p.In) (hM : ¬ p.May) :
    Calls Try.prog 38 #[p.val, .func (.func 39) #[] #[.pointer (some ⟨gi, 0, none⟩), .pointer (some ⟨g, 0, none⟩)]] w (Says w (.bool false)) := by
  have HR := Lib.hid (fun W => right_any p W hp)
  rw [P.right_no hM] at HR
  clear hM
  obtain ⟨N, T, L, W, S, R⟩ := p
  unfold P.val at HR ⊢
  clear hp
  go_enter Try.func38, Try.ntmps38
  go_wp2_with fail
  refine (HR.out _).mono ?_
  rintro e w1 ⟨rfl, hb1⟩
  go_wp2
  go_ret
  exact ⟨rfl, bstep (balloc _ _) hb1⟩

theorem of_Stripes (p : P) (g gi : Nat) (v : Int) (w : World) (hp : p.In) (hM : p.May) (hq : ∀ W, Below w.heap.size w W → Calls Try.prog 41 #[.pointer (some ⟨gi, 0, none⟩), .pointer (some ⟨g, 0, none⟩)] W (Says W (.int .i64 v))) :
    Calls Try.prog 40 #[p.val, .func (.func 41) #[] #[.pointer (some ⟨gi, 0, none⟩), .pointer (some ⟨g, 0, none⟩)]] w (Says w (.int .i64 v)) := by
  have HR := Lib.hid (fun W => right_any p W hp)
  have HQ := Lib.hid hq
  rw [P.right_yes hM] at HR
  clear hM hq
  obtain ⟨N, T, L, W, S, R⟩ := p
  unfold P.val at HR ⊢
  clear hp
  go_enter Try.func40, Try.ntmps40
  go_wp2_with fail
  refine (HR.out _).mono ?_
  rintro e w1 ⟨rfl, hb1⟩
  go_wp2_with fail
  refine (HQ.out w1 (bstep (balloc _ _) hb1)).mono ?_
  rintro e w2 ⟨rfl, hb2⟩
  go_wp2
  go_ret
  exact ⟨rfl, bstep (balloc _ _) (bstep hb1 hb2)⟩
theorem no_Stripes (p : P) (g gi : Nat) (w : World) (hp : p.In) (hM : ¬ p.May) :
    Calls Try.prog 40 #[p.val, .func (.func 41) #[] #[.pointer (some ⟨gi, 0, none⟩), .pointer (some ⟨g, 0, none⟩)]] w (Says w (.int .i64 0)) := by
  have HR := Lib.hid (fun W => right_any p W hp)
  rw [P.right_no hM] at HR
  clear hM
  obtain ⟨N, T, L, W, S, R⟩ := p
  unfold P.val at HR ⊢
  clear hp
  go_enter Try.func40, Try.ntmps40
  go_wp2_with fail
  refine (HR.out _).mono ?_
  rintro e w1 ⟨rfl, hb1⟩
  go_wp2
  go_ret
  exact ⟨rfl, bstep (balloc _ _) hb1⟩

theorem Is_body (g gi : Nat) (p : P) (i : Int) (w : World) (h : Six w g p) (hi : w.cell? ⟨gi, 0, none⟩ = some (.int .i64 i)) : Calls Try.prog 39 #[.pointer (some ⟨gi, 0, none⟩), .pointer (some ⟨g, 0, none⟩)] w (Says w (.bool (p.is i))) := by
  obtain ⟨N, T, L, W, S, R⟩ := p
  obtain ⟨c0, c1, c2, c3, c4, c5⟩ := h
  simp only at *
  have HW := Lib.hid (fun W => within_any i 1 N W)
  rw [show wi i 1 N = P.is ⟨N, T, L, W, S, R⟩ i from rfl] at HW
  generalize P.is ⟨N, T, L, W, S, R⟩ i = b at *
  go_enter Try.func39, Try.ntmps39
  go_wp2_with fail
  refine (HW.out _).mono ?_
  rintro e w1 ⟨rfl, rfl⟩
  go_wp2
  go_ret
  exact ⟨rfl, Below.refl _ _⟩
theorem Stripes_body (g gi : Nat) (p : P) (size : Int) (w : World) (h : Six w g p) (hi : w.cell? ⟨gi, 0, none⟩ = some (.int .i64 size)) (hM : p.May) : Calls Try.prog 41 #[.pointer (some ⟨gi, 0, none⟩), .pointer (some ⟨g, 0, none⟩)] w (Says w (.int .i64 (p.stripes size : Nat))) := by
  unfold P.stripes
  obtain ⟨N, T, L, W, S, R⟩ := p
  obtain ⟨c0, c1, c2, c3, c4, c5⟩ := h
  unfold P.May at hM
  simp only at *
  have HW := Lib.hid (fun W => within_any size 1 240 W)
  by_cases hs : 1 ≤ size ∧ size ≤ 240
  · rw [wi_yes hs] at HW
    rw [if_neg (by omega)]
    have hd : 0 ≤ (size + L - 1) / L := Int.ediv_nonneg (by omega) (by omega)
    have i1 : IntKind.i64.wrap (size + L) = size + L := IntWalk.i64_in _ (by omega)
    have i2 : IntKind.i64.wrap (size + L - 1) = size + L - 1 := IntWalk.i64_in _ (by omega)
    have hq : (size + L - 1).tdiv L = (size + L - 1) / L := Int.tdiv_eq_ediv_of_nonneg (by omega)
    have hu : (size + L - 1) / L ≤ size + L - 1 := Int.ediv_le_self _ (by omega)
    have i3 : IntKind.i64.wrap ((size + L - 1) / L) = (size + L - 1) / L := IntWalk.i64_in _ (by omega)
    have hz : (L == 0) = false := by simp; omega
    rw [show (((size + L - 1) / L).toNat : Int) = (size + L - 1) / L from by omega]
    generalize (size + L - 1) / L = q at *
    have hz2 : ¬ L = 0 := by omega
    clear hM hu hd
    go_enter Try.func41, Try.ntmps41
    go_wp2_with fail
    refine (HW.out _).mono ?_
    rintro e w1 ⟨rfl, rfl⟩
    go_wp2
    go_ret
    exact ⟨rfl, Below.refl _ _⟩
  · rw [wi_no hs] at HW
    rw [if_pos (by omega)]
    clear hM
    go_enter Try.func41, Try.ntmps41
    go_wp2_with fail
    refine (HW.out _).mono ?_
    rintro e w1 ⟨rfl, rfl⟩
    go_wp2
    go_ret
    exact ⟨rfl, Below.refl _ _⟩
theorem All_body (g : Nat) (p : P) (w : World) (h : Six w g p) (hM : p.May) : Calls Try.prog 35 #[.pointer (some ⟨g, 0, none⟩)] w (RetInts w (all p.N.toNat)) := by
  obtain ⟨N, T, L, W, S, R⟩ := p
  obtain ⟨c0, c1, c2, c3, c4, c5⟩ := h
  unfold P.May at hM
  simp only at *
  obtain ⟨n, hn⟩ : ∃ n : Nat, N = n := ⟨N.toNat, by omega⟩
  subst hn
  have HN := Lib.hid (fun W => numbers_any 1 n W (by omega) (by omega) (by omega))
  rw [nums_all] at HN
  rw [Int.toNat_natCast]
  generalize all n = l at *
  clear hM
  go_enter Try.func35, Try.ntmps35
  go_wp2_with fail
  refine (HN.out _).mono ?_
  rintro e w1 ⟨A, c, rfl, h1, h2, h3, hb2, h5⟩
  go_wp2
  go_ret
  exact ⟨A, c, rfl, h1, h2, h3, hb2, h5⟩
theorem Secrets_body (g : Nat) (p : P) (w : World) (h : Six w g p) (hM : p.May) : Calls Try.prog 62 #[.pointer (some ⟨g, 0, none⟩)] w (RetOwn w p.secrets) := by
  unfold P.secrets
  obtain ⟨N, T, L, W, S, R⟩ := p
  obtain ⟨c0, c1, c2, c3, c4, c5⟩ := h
  unfold P.May at hM
  simp only at *
  obtain ⟨n, hn⟩ : ∃ n : Nat, N = n := ⟨N.toNat, by omega⟩
  subst hn
  obtain ⟨m, hm⟩ : ∃ n : Nat, L = n := ⟨L.toNat, by omega⟩
  subst hm
  rw [Int.toNat_natCast, Int.toNat_natCast]
  have i1 : IntKind.i64.wrap ((n : Int) + 1) = (n : Int) + 1 := IntWalk.i64_in _ (by omega)
  have HN := Lib.hid (fun W => numbers_any ((n : Int) + 1) m W (by omega) (by omega) (by omega))
  have HP := Lib.hid (fun A c W h => points_own A (nums ((n : Int) + 1) m) c W h (by rw [nums_len]; omega) (nums_in _ _ (by omega) (by omega)))
  rw [nums_points _ _ (by omega), nums_len] at HP
  have hl := nums_len ((n : Int) + 1) m
  generalize nums ((n : Int) + 1) m = l at *
  generalize from_ n m = q at *
  clear hM
  go_enter Try.func62, Try.ntmps62
  go_wp2_with fail
  refine (HN.out _).mono ?_
  rintro e w1 ⟨A, c, rfl, h1, h2, h3, hb1, h5⟩
  rw [hl] at *
  clear hl
  go_wp2_with fail
  refine (HP.out _ _ _ h3).mono ?_
  rintro e w2 ⟨v, rfl, hv, hb2⟩
  go_wp2
  go_ret
  exact ret_own (Own.lower hv hb1.size) (bstep hb1 hb2)

end Go.Proofs.Ytmeenipcfmeopaa.Plan
