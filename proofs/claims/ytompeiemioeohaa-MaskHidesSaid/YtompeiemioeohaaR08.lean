/- the document's own answers of layer 8 -/
import Derived.Test.YtompeiemioeohaaInts
import Derived.Test.YtompeiemioeohaaMB
import Derived.Deep.QuietTactic
import Derived.IntWalk
import Derived.Deep.RegionHeld3
set_option maxRecDepth 100000
namespace Go.Proofs.Ytompeiemioeohaa.R08
open Go.RowKit PlanM

theorem is_any (p : P) (i : Int) (w : World) : Calls Try.prog 23 #[p.val, .int .i64 i] w fun e w' => e = .returned (.bool (p.is i)) ∧ Below w.heap.size w w' := by
  obtain ⟨N, T, L, W, S, R⟩ := p
  unfold P.val
  obtain ⟨b, hb⟩ : ∃ b, b = P.is ⟨N, T, L, W, S, R⟩ i := ⟨_, rfl⟩
  rw [← hb]
  by_cases h1 : 1 ≤ i
  · by_cases h2 : i ≤ N
    · obtain rfl : b = true := by rw [hb]; exact decide_eq_true ⟨h1, h2⟩
      clear hb
      go_enter Try.func23, Try.ntmps23
      go_wp2
      go_ret
      exact ⟨rfl, balloc _ _⟩
    · obtain rfl : b = false := by rw [hb]; exact decide_eq_false (fun h => h2 h.2)
      clear hb
      go_enter Try.func23, Try.ntmps23
      go_wp2
      go_ret
      exact ⟨rfl, balloc _ _⟩
  · obtain rfl : b = false := by rw [hb]; exact decide_eq_false (fun h => h1 h.1)
    clear hb
    go_enter Try.func23, Try.ntmps23
    go_wp2
    go_ret
    exact ⟨rfl, balloc _ _⟩

theorem point_any (i : Int) (w : World) : Calls Try.prog 17 #[.int .i64 i] w fun e w' => e = .returned (.int .u8 ((point i).toNat : Nat)) ∧ w = w' := by
  by_cases h1 : i < 1
  · have hp : point i = 0 := by unfold point; rw [if_pos (Or.inl h1)]
    rw [hp]
    go_enter Try.func17, Try.ntmps17
    go_wp2
    go_ret
    exact ⟨rfl, rfl⟩
  by_cases h2 : 256 < i
  · have hp : point i = 0 := by unfold point; rw [if_pos (Or.inr h2)]
    rw [hp]
    go_enter Try.func17, Try.ntmps17
    go_wp2
    go_ret
    exact ⟨rfl, rfl⟩
  have hp : ((point i).toNat : Int) = i - 1 := by
    unfold point
    rw [if_neg (by omega), UInt8.toNat_ofNat_of_lt' (by simp only [UInt8.size]; omega)]
    omega
  have i1 : IntKind.i64.wrap (i - 1) = i - 1 := IntWalk.i64_in _ (by omega)
  have i2 : IntKind.u8.wrap (i - 1) = i - 1 := by rw [IntKind.wrap_u8]; omega
  rw [hp]
  clear hp
  go_enter Try.func17, Try.ntmps17
  go_wp2
  go_ret
  exact ⟨rfl, rfl⟩

set_option maxHeartbeats 2000000 in
theorem right_any (p : P) (w : World) (hp : p.In) : Calls Try.prog 22 #[p.val] w fun e w' => e = .returned (.bool p.right) ∧ Below w.heap.size w w' := by
  obtain ⟨hn, ht, hl, hw, hs, hr⟩ := hp
  unfold In64 at hn ht hl hw hs hr
  by_cases hM : p.May
  · rw [P.right_yes hM]
    unfold P.May at hM
    obtain ⟨N, T, L, W, S, R⟩ := p
    unfold P.val
    simp only at *
    obtain ⟨m1, m2, m3, m4, m5, m6, m7, m8, m9⟩ := hM
    have i1 : IntKind.i64.wrap (T + L) = T + L := IntWalk.i64_in _ (by omega)
    have i2 : IntKind.i64.wrap (N + L) = N + L := IntWalk.i64_in _ (by omega)
    go_enter Try.func22, Try.ntmps22
    go_wp2
    go_ret
    exact ⟨rfl, balloc _ _⟩
  · rw [P.right_no hM]
    unfold P.May at hM
    obtain ⟨N, T, L, W, S, R⟩ := p
    unfold P.val
    simp only at *
    by_cases m1 : T < 1
    · clear hM
      go_enter Try.func22, Try.ntmps22
      go_wp2
      go_ret
      exact ⟨rfl, balloc _ _⟩
    by_cases m2 : L < 1
    · clear hM
      go_enter Try.func22, Try.ntmps22
      go_wp2
      go_ret
      exact ⟨rfl, balloc _ _⟩
    by_cases m3 : 256 < N
    · clear hM
      go_enter Try.func22, Try.ntmps22
      go_wp2
      go_ret
      exact ⟨rfl, balloc _ _⟩
    by_cases m4 : N < W
    · clear hM
      go_enter Try.func22, Try.ntmps22
      go_wp2
      go_ret
      exact ⟨rfl, balloc _ _⟩
    by_cases m5 : 256 < T
    · clear hM
      go_enter Try.func22, Try.ntmps22
      go_wp2
      go_ret
      exact ⟨rfl, balloc _ _⟩
    by_cases m6 : 256 < L
    · clear hM
      go_enter Try.func22, Try.ntmps22
      go_wp2
      go_ret
      exact ⟨rfl, balloc _ _⟩
    have i1 : IntKind.i64.wrap (T + L) = T + L := IntWalk.i64_in _ (by omega)
    by_cases m7 : T + L ≤ W
    · have i2 : IntKind.i64.wrap (N + L) = N + L := IntWalk.i64_in _ (by omega)
      by_cases m8 : N + L ≤ 256
      · by_cases m9 : 1 ≤ S
        · by_cases m10 : S ≤ 256
          · by_cases m11 : 1 ≤ R
            · have m12 : ¬ R ≤ 64 := fun h => hM ⟨by omega, by omega, by omega, by omega, by omega, by omega, by omega, by omega, by omega⟩
              clear hM
              go_enter Try.func22, Try.ntmps22
              go_wp2
              go_ret
              exact ⟨rfl, balloc _ _⟩
            · clear hM
              go_enter Try.func22, Try.ntmps22
              go_wp2
              go_ret
              exact ⟨rfl, balloc _ _⟩
          · clear hM
            go_enter Try.func22, Try.ntmps22
            go_wp2
            go_ret
            exact ⟨rfl, balloc _ _⟩
        · clear hM
          go_enter Try.func22, Try.ntmps22
          go_wp2
          go_ret
          exact ⟨rfl, balloc _ _⟩
      · clear hM
        go_enter Try.func22, Try.ntmps22
        go_wp2
        go_ret
        exact ⟨rfl, balloc _ _⟩
    · clear hM
      go_enter Try.func22, Try.ntmps22
      go_wp2
      go_ret
      exact ⟨rfl, balloc _ _⟩

set_option maxHeartbeats 2000000 in
theorem stripes_any (p : P) (size : Int) (w : World) (hL : 1 ≤ p.L ∧ p.L ≤ 256) : Calls Try.prog 59 #[p.val, .int .i64 size] w fun e w' => e = .returned (.int .i64 (p.stripes size : Nat)) ∧ Below w.heap.size w w' := by
  by_cases h1 : size < 1
  · have hp : p.stripes size = 0 := by unfold P.stripes; rw [if_pos (Or.inl h1)]
    rw [hp]
    clear hp
    obtain ⟨N, T, L, W, S, R⟩ := p
    unfold P.val
    go_enter Try.func59, Try.ntmps59
    go_wp2
    go_ret
    exact ⟨rfl, balloc _ _⟩
  by_cases h2 : 240 < size
  · have hp : p.stripes size = 0 := by unfold P.stripes; rw [if_pos (Or.inr h2)]
    rw [hp]
    clear hp
    obtain ⟨N, T, L, W, S, R⟩ := p
    unfold P.val
    go_enter Try.func59, Try.ntmps59
    go_wp2
    go_ret
    exact ⟨rfl, balloc _ _⟩
  obtain ⟨M, hM⟩ : ∃ M, M = p.stripes size := ⟨_, rfl⟩
  have hM2 : (M : Int) = (size + p.L - 1) / p.L := by
    rw [hM]; unfold P.stripes; rw [if_neg (by omega)]
    have : 0 ≤ (size + p.L - 1) / p.L := Int.ediv_nonneg (by omega) (by omega)
    omega
  rw [← hM]
  clear hM
  obtain ⟨N, T, L, W, S, R⟩ := p
  unfold P.val
  simp only at hM2 hL
  have hup : ∀ k : Nat, (k : Int) * L < size → (k : Int) + 1 ≤ M := fun k h => by rw [hM2]; exact stripes_step hL.1 h
  have hend : ∀ k : Nat, size ≤ (k : Int) * L → (M : Int) ≤ k := fun k h => by rw [hM2]; exact stripes_end hL.1 (by omega)
  have h240 := hend 240 (by simp; omega)
  simp only [Int.cast_ofNat_Int] at h240
  have HU := Lib.hid hup; have HE := Lib.hid hend
  clear hup hend hM2
  go_enter Try.func59, Try.ntmps59
  go_wp2
  have hbw := balloc w (.cells #[.int .i64 N, .int .i64 T, .int .i64 L, .int .i64 W, .int .i64 S, .int .i64 R] 23)
  obtain ⟨b0, o0, e0, cl⟩ := CellsAt.lit w #[.int .i64 N, .int .i64 T, .int .i64 L, .int .i64 W, .int .i64 S, .int .i64 R] 23 2 (by simp)
  injection e0 with e0; injection e0 with e1 e2; subst e1; subst e2
  replace cl : (w.alloc (.cells #[.int .i64 N, .int .i64 T, .int .i64 L, .int .i64 W, .int .i64 S, .int .i64 R] 23)).cell? ⟨w.heap.size, 2, none⟩ = some (.int .i64 L) := cl
  generalize w.alloc (.cells #[.int .i64 N, .int .i64 T, .int .i64 L, .int .i64 W, .int .i64 S, .int .i64 R] 23) = w2 at *
  go_loop [5] (fun i => ∃ k : Nat, (k : Int) ≤ M ∧ (k : Int) * L ≤ size + L ∧ 0 ≤ (k : Int) * L ∧ i = .int .i64 k) (fun i => M - (intOf i).toNat)
  case atStart => exact ⟨0, by omega, by simp; omega, by simp, rfl⟩
  case round =>
    obtain ⟨k, hk, hkl, hk0, rfl⟩ := hrel
    have i1 : IntKind.i64.wrap ((k : Int) * L) = (k : Int) * L := IntWalk.i64_in _ (by omega)
    by_cases hlt : (k : Int) * L < size
    · have hk1 := HU.out k hlt
      have e1 : ((k + 1 : Nat) : Int) * L = (k : Int) * L + L := by rw [Int.natCast_add, Int.add_mul]; simp
      have HE1 := Lib.hid e1
      clear e1
      go_wp2
      go_round
      case rel => exact ⟨k + 1, by omega, by rw [HE1.out]; omega, by rw [HE1.out]; omega, by go_num⟩
      case measure => simp [intOf] <;> omega
    · have hk1 := HE.out k (by omega)
      obtain rfl : k = M := by omega
      go_wp2
      go_ret
      exact ⟨rfl, hbw⟩

/-- where a plan's numbers lie when it is passed -/
theorem plan_cell (w : World) (N T L W S R : Int) (i : Nat) (v : Value) (h : [Value.int .i64 N, .int .i64 T, .int .i64 L, .int .i64 W, .int .i64 S, .int .i64 R][i]? = some v) :
    (w.alloc (.cells #[.int .i64 N, .int .i64 T, .int .i64 L, .int .i64 W, .int .i64 S, .int .i64 R] 23)).cell? ⟨w.heap.size, i, none⟩ = some v := by
  obtain ⟨hi, hv⟩ := List.getElem?_eq_some_iff.mp h
  obtain ⟨b0, o0, e0, cl⟩ := CellsAt.lit w #[.int .i64 N, .int .i64 T, .int .i64 L, .int .i64 W, .int .i64 S, .int .i64 R] 23 i hi
  injection e0 with e0; injection e0 with e1 e2; subst e1; subst e2
  rw [Nat.zero_add] at cl
  rw [cl]; exact congrArg some hv

set_option maxHeartbeats 2000000 in
theorem secrets_any (p : P) (w : World) (hN : 0 ≤ p.N) (hL : 0 ≤ p.L) (hNL : p.N + p.L ≤ 256) : Calls Try.prog 15 #[p.val] w (RetNew w p.secrets) := by
  obtain ⟨N, T, L, W, S, R⟩ := p
  unfold P.val P.secrets
  simp only at hN hL hNL
  obtain ⟨n, rfl⟩ : ∃ n : Nat, N = n := ⟨N.toNat, by omega⟩
  obtain ⟨l, rfl⟩ : ∃ l : Nat, L = l := ⟨L.toNat, by omega⟩
  simp only [Int.toNat_natCast]
  have i0 : IntKind.i64.wrap ((n : Int) + l) = (n : Int) + l := IntWalk.i64_in _ (by omega)
  go_enter Try.func15, Try.ntmps15
  go_wp2_with fail
  have hbw := balloc w (.cells #[.int .i64 n, .int .i64 T, .int .i64 l, .int .i64 W, .int .i64 S, .int .i64 R] 23)
  have cn := plan_cell w n T l W S R 0 _ rfl
  have cl := plan_cell w n T l W S R 2 _ rfl
  generalize w.alloc (.cells #[.int .i64 n, .int .i64 T, .int .i64 l, .int .i64 W, .int .i64 S, .int .i64 R] 23) = w2 at *
  have hgl := cell_lt cn
  simp only at hgl
  go_wp2_with fail
  go_loopw [3, 4] (fun v i wr => ∃ k : Nat, k ≤ l ∧ i = .int .i64 ((n : Int) + k) ∧ Own wr w2.heap.size v (from_ n k) ∧ Below w2.heap.size w2 wr)
    (fun _ i _ => n + l - (intOf i).toNat)
  case atStart => exact ⟨0, Nat.zero_le _, by simp, Own.nil _ _, Below.refl _ _⟩
  case round =>
    obtain ⟨k, hk, rfl, hown, hb⟩ := hrel
    have hz := hb.size
    have HO := Lib.hid hown
    have HN := Lib.hid cn; have HL := Lib.hid cl
    have cn' := (hb.cell (p := ⟨w.heap.size, 0, none⟩) hgl).trans cn
    have cl' := (hb.cell (p := ⟨w.heap.size, 2, none⟩) hgl).trans cl
    clear cn cl
    by_cases hlt : k < l
    · have hg : decide ((n : Int) + k < (n : Int) + l) = true := by simp; omega
      have hs := from_succ n k
      have hlen := from_len n k
      obtain ⟨F, hF⟩ : ∃ F, F = from_ n k := ⟨_, rfl⟩
      rw [← hF] at hs hlen HO
      have hu : ((UInt8.ofNat (n + k)).toNat : Int) = (n : Int) + k := by rw [UInt8.toNat_ofNat_of_lt' (by simp only [UInt8.size]; omega)]; omega
      obtain ⟨u, hu2⟩ : ∃ u, u = UInt8.ofNat (n + k) := ⟨_, rfl⟩
      rw [← hu2] at hs hu
      have i1 : IntKind.u8.wrap ((n : Int) + k) = (u.toNat : Int) := by rw [IntKind.wrap_u8]; omega
      have HS := Lib.hid hs; have HLEN := Lib.hid hlen
      have hlen2 : F.length ≤ 256 := by omega
      clear hs hu hu2 hF hown hlen
      go_wp2_with (at_builtin; refine wpList_append_u8 rfl _ _ rfl w2.heap.size _ _ rfl (HO.out.alloc _) wr.heap.size 1 u rfl (by simp) (by omega) (by simp; omega) ?_; intro v' w1 hown1 hb1)
      go_roundw
      case rel => exact ⟨k + 1, by omega, by go_num, by rw [HS.out]; exact hown1, (hb.alloc hz _).trans hb1⟩
      case measure => simp [intOf] <;> omega
    · obtain rfl : k = l := by omega
      clear hown
      go_wp2
      go_ret
      have h3 := HO.out.new
      obtain ⟨X, d, rfl, h1, h2, hX, hnx⟩ := h3
      exact ⟨X, d, rfl, h1, h2, hX, hbw.trans (hb.mono (by have := hbw.size; omega)), fun a e => by have := hnx a e; have := hbw.size; omega⟩

theorem points_any (A : Option Addr) (l : List Int) (c : Nat) (w : World) (h : IntsAt w A l) (hl : l.length ≤ 1099511627) : Calls Try.prog 45 #[.slice A l.length c] w (RetNew w (points l)) := by
  go_enter Try.func45, Try.ntmps45
  go_wp2
  go_loopw [3, 4] (fun v i wr => ∃ k : Nat, k ≤ l.length ∧ i = .int .i64 k ∧ Own wr w.heap.size v (points (l.take k)) ∧ Below w.heap.size w wr)
    (fun _ i _ => l.length - (intOf i).toNat)
  case atStart => exact ⟨0, Nat.zero_le _, rfl, Own.nil _ _, Below.refl _ _⟩
  case round =>
    obtain ⟨k, hk, rfl, hown, hb⟩ := hrel
    have hz := hb.size
    have HO := Lib.hid hown
    have h0 := h.below hb
    by_cases hlt : k < l.length
    · obtain ⟨b, o, hA, e⟩ := h0.at hlt
      subst hA
      have hs : points (l.take (k + 1)) = points (l.take k) ++ [point l[k]] := by
        rw [List.take_succ_eq_append_getElem hlt]; unfold points; rw [List.map_append]; rfl
      obtain ⟨F, hF⟩ : ∃ F, F = points (l.take k) := ⟨_, rfl⟩
      have hlen : F.length ≤ 1099511627 := by rw [hF, points_len, List.length_take]; omega
      rw [← hF] at hs HO
      obtain ⟨u, hu⟩ : ∃ u, u = point l[k] := ⟨_, rfl⟩
      have C := fun W => point_any l[k] W
      rw [← hu] at hs C
      have HS := Lib.hid hs; have HC := Lib.hid C
      clear hs C hu hF hown h0
      go_wp2_with (first
        | (go_at_call 17; refine (HC.out _).mono ?_; rintro e w' ⟨rfl, rfl⟩)
        | (at_builtin; refine wpList_append_u8 rfl _ _ rfl w.heap.size _ _ rfl (HO.out.alloc _) wr.heap.size 1 u rfl (by simp) (by omega) (by simp; omega) ?_; intro v' w1 hown1 hb1))
      go_roundw
      case rel => exact ⟨k + 1, by omega, by go_num, by rw [HS.out]; exact hown1, (hb.alloc hz _).trans hb1⟩
      case measure => simp [intOf] <;> omega
    · obtain rfl : k = l.length := by omega
      have hfull : points (l.take l.length) = points l := by rw [List.take_length]
      rw [hfull] at HO
      clear hown hfull h0
      go_wp2
      go_ret
      exact RetNew.of_own HO.out hb

theorem sameI_at {l1 l2 : List Int} (k : Nat) (h1 : k < l1.length) (h2 : k < l2.length) (h : l1[k] ≠ l2[k]) : decide (l1 = l2) = false :=
  decide_eq_false fun e => h (by subst e; rfl)
theorem sameI_all {l1 l2 : List Int} (h : l1.length = l2.length) (hs : ∀ i (h1 : i < l1.length) (h2 : i < l2.length), l1[i] = l2[i]) : decide (l1 = l2) = true :=
  decide_eq_true (List.ext_getElem h fun i h1 h2 => hs i h1 h2)
end Go.Proofs.Ytompeiemioeohaa.R08
