/- merged: R20, R20B, R20C, R20D -/
import Derived.Test.YtnjghhkebcojnaaMRX
import Derived.Test.YtnjghhkebcojnaaR07
import Derived.Test.YtnjghhkebcojnaaInts
import Derived.Test.YtnjghhkebcojnaaR18
import Derived.Test.YtnjghhkebcojnaaR15
import Derived.Test.YtnjghhkebcojnaaR06
import Derived.Test.YtnjghhkebcojnaaMRM
import Derived.Test.YtnjghhkebcojnaaKnown

/- the document's own answers of layer 20: Far, Role, Count, Right -/
set_option maxRecDepth 100000
namespace Go.Proofs.Ytnjghhkebcojnaa.R20
open Go.RowKit RecM Record

def farB (h : Hd) (n : Nat) : Bool := decide (40 < h.s.size) || decide (300 < n)
theorem far_any (h : Hd) (B : Option Addr) (n c : Nat) (w : World) :
    Calls Try.prog 7 #[.agg #[.int .i64 h.K, .string h.s, .int .i64 h.A, .int .i64 h.E, .int .i64 h.M, .int .i64 h.S, .slice B n c]] w fun e w' => e = .returned (.bool (farB h n)) ∧ Below w.heap.size w w' := by
  unfold farB
  by_cases h1 : 40 < h.s.size
  · have i1 : (40 : Int) < (h.s.size : Nat) := by omega
    have hq : (decide (40 < h.s.size) || decide (300 < n)) = true := by rw [decide_eq_true h1]; rfl
    rw [hq]
    clear hq
    go_enter Try.func7, Try.ntmps7
    go_wp2
    go_ret
    exact ⟨rfl, balloc _ _⟩
  · have i1 : ¬ (40 : Int) < (h.s.size : Nat) := by omega
    have hq : (decide (40 < h.s.size) || decide (300 < n)) = decide ((300 : Int) < (n : Nat)) := by rw [decide_eq_false h1, Bool.false_or]; exact decide_eq_decide.2 (by omega)
    rw [hq]
    clear hq h1
    go_enter Try.func7, Try.ntmps7
    go_wp2
    go_ret
    exact ⟨rfl, balloc _ _⟩
theorem role_any (n : Int) (hn : -9223372036854775808 ≤ n ∧ n ≤ 9223372036854775807) (w : World) : Calls Try.prog 14 #[.int .i64 n] w fun e w' => e = .returned (.int .i64 (role n)) ∧ Below w.heap.size w w' := by
  by_cases h1 : n < 1
  · have hr : role n = -1 := by unfold role; rw [if_pos (.inl h1)]
    rw [hr]
    go_enter Try.func14, Try.ntmps14
    go_wp2
    go_ret
    exact ⟨rfl, Below.refl _ _⟩
  by_cases h2 : n > 5
  · have hr : role n = -1 := by unfold role; rw [if_pos (.inr h2)]
    rw [hr]
    go_enter Try.func14, Try.ntmps14
    go_wp2
    go_ret
    exact ⟨rfl, Below.refl _ _⟩
  rcases (show n = 1 ∨ n = 2 ∨ n = 3 ∨ n = 4 ∨ n = 5 by omega) with rfl | rfl | rfl | rfl | rfl
  all_goals (
    clear h1 h2 hn
    go_enter Try.func14, Try.ntmps14
    go_wp2
    go_ret
    exact ⟨rfl, balloc _ _⟩)
theorem count_any (h : Hd) (B : Option Addr) (n c : Nat) (hl : n ≤ 1048576) (w : World) :
    Calls Try.prog 21 #[.agg #[.int .i64 h.K, .string h.s, .int .i64 h.A, .int .i64 h.E, .int .i64 h.M, .int .i64 h.S, .slice B n c]] w fun e w' => e = .returned (.int .i64 ((1 + pieces n : Nat) : Int)) ∧ Below w.heap.size w w' := by
  have HEND : Hid (∀ k : Nat, k < pieces n ↔ ((k * 48 : Nat) : Int) < (n : Nat)) := Lib.hid fun k => by unfold pieces; omega
  have hp : pieces n ≤ 30000 := by unfold pieces; omega
  have HR := RecB.new w h B n c
  have hb := balloc w (.cells #[.int .i64 h.K, .string h.s, .int .i64 h.A, .int .i64 h.E, .int .i64 h.M, .int .i64 h.S, .slice B n c] 24)
  generalize pieces n = N at *
  go_enter Try.func21, Try.ntmps21
  go_wp2
  have c6 := HR.c6
  have HB := Lib.hid hb
  clear HR hb
  obtain ⟨g, hg⟩ : ∃ g, g = w.heap.size := ⟨_, rfl⟩
  rw [← hg] at c6 ⊢
  generalize w.alloc (.cells #[.int .i64 h.K, .string h.s, .int .i64 h.A, .int .i64 h.E, .int .i64 h.M, .int .i64 h.S, .slice B n c] 24) = w1 at *
  clear hg
  go_loopw [4, 3] (fun i v wr => ∃ k : Nat, k ≤ N ∧ i = .int .i64 ((k * 48 : Nat) : Int) ∧ v = .int .i64 ((1 + k : Nat) : Int) ∧ wr = w1)
    (fun i _ _ => 2000000 - (intOf i).toNat)
  case atStart => exact ⟨0, Nat.zero_le _, rfl, rfl, rfl⟩
  case round =>
    obtain ⟨k, hk, rfl, rfl, rfl⟩ := hrel
    by_cases hlt : k < N
    · have h1 := (HEND.out k).1 hlt
      obtain ⟨x, hx⟩ : ∃ x, x = k * 48 := ⟨_, rfl⟩
      have HX := Lib.hid hx
      have hx2 : x < 2000000 := by omega
      rw [← hx] at h1 ⊢
      clear hx
      have i1 : IntKind.i64.wrap ((x : Int) + 48) = ((x + 48 : Nat) : Int) := by rw [IntWalk.i64_in _ (by omega)]; omega
      have i2 : IntKind.i64.wrap (((1 + k : Nat) : Int) + 1) = ((1 + (k + 1) : Nat) : Int) := by rw [IntWalk.i64_in _ (by omega)]; omega
      go_wp2
      go_roundw
      case rel => exact ⟨k + 1, by omega, by have := HX.out; congr 1; omega, by first | rfl | (congr 1; omega), trivial⟩
      case measure => simp [intOf] <;> omega
    · obtain rfl : k = N := by omega
      have h1 : ¬ ((k * 48 : Nat) : Int) < (n : Nat) := fun e => hlt ((HEND.out k).2 e)
      generalize ((k * 48 : Nat) : Int) = x at *
      go_wp2
      go_ret
      exact ⟨ret_int (by omega), HB.out⟩
theorem tri_cells (w : World) (A E M : Int) : (w.alloc (.cells #[.int .i64 A, .int .i64 E, .int .i64 M] 3)).cell? ⟨w.heap.size, 0, none⟩ = some (.int .i64 A) ∧ (w.alloc (.cells #[.int .i64 A, .int .i64 E, .int .i64 M] 3)).cell? ⟨w.heap.size, 1, none⟩ = some (.int .i64 E) ∧
    (w.alloc (.cells #[.int .i64 A, .int .i64 E, .int .i64 M] 3)).cell? ⟨w.heap.size, 2, none⟩ = some (.int .i64 M) := ⟨by simp, by simp, by simp⟩
/-- which of three numbers -/
def tri (A E M : Int) (k : Nat) : Int := if k = 0 then A else if k = 1 then E else M
set_option maxHeartbeats 4000000 in
theorem right_any (h : Hd) (hs : h.s.size ≤ 9223372036854775807) (B : Option Addr) (sh : List UInt8) (c : Nat) (w : World) :
    Calls Try.prog 11 #[.agg #[.int .i64 h.K, .string h.s, .int .i64 h.A, .int .i64 h.E, .int .i64 h.M, .int .i64 h.S, .slice B sh.length c]] w fun e w' => e = .returned (.bool (h.rc sh).right) ∧ Below w.heap.size w w' := by
  obtain ⟨K, s, A, E, M, S⟩ := h
  have hQ : ((⟨K, s, A, E, M, S⟩ : Hd).rc sh).right = (LabM.right s.data.toList && decide (num A) && decide (num E) && decide (num M) && decide (0 ≤ S ∧ S ≤ 240) && decide (0 ≤ (sh.length : Int) ∧ (sh.length : Int) ≤ 240) && decide (kindP K A E M S sh.length)) := may_all ((⟨K, s, A, E, M, S⟩ : Hd).rc sh)
  generalize ((⟨K, s, A, E, M, S⟩ : Hd).rc sh).right = Q at *
  simp only at hs ⊢
  obtain ⟨n, hn⟩ : ∃ n, n = sh.length := ⟨_, rfl⟩
  rw [← hn] at hQ ⊢
  clear hn
  have CN := Lib.hid (fun W => R07.right_any s W hs)
  generalize LabM.right s.data.toList = b0 at *
  have HQ := Lib.hid hQ
  have HBF : Hid (∀ k, k < 3 → ¬ num (tri A E M k) → Q = false) := Lib.hid fun k hk hn => by
    have : num A ∧ num E ∧ num M → False := fun ⟨h1, h2, h3⟩ => hn (by unfold tri; split <;> (try split) <;> assumption)
    rw [hQ]
    by_cases h1 : num A
    · by_cases h2 : num E
      · have h3 : ¬ num M := fun h3 => this ⟨h1, h2, h3⟩
        simp [h3]
      · simp [h2]
    · simp [h1]
  have HR := RecB.new w ⟨K, s, A, E, M, S⟩ B n c
  have hb := balloc w (.cells #[.int .i64 K, .string s, .int .i64 A, .int .i64 E, .int .i64 M, .int .i64 S, .slice B n c] 24)
  clear hQ
  go_enter Try.func11, Try.ntmps11
  go_wp2
  obtain ⟨t0, t1, t2⟩ := tri_cells (w.alloc (.cells #[.int .i64 K, .string s, .int .i64 A, .int .i64 E, .int .i64 M, .int .i64 S, .slice B n c] 24)) A E M
  have HR1 := HR.below (balloc _ (.cells #[.int .i64 A, .int .i64 E, .int .i64 M] 3))
  have hb1 := bstep hb (balloc _ (.cells #[.int .i64 A, .int .i64 E, .int .i64 M] 3))
  have hz : (w.alloc (.cells #[.int .i64 K, .string s, .int .i64 A, .int .i64 E, .int .i64 M, .int .i64 S, .slice B n c] 24)).heap.size = w.heap.size + 1 := by simp
  rw [hz] at t0 t1 t2
  obtain ⟨g, hg⟩ : ∃ g, g = w.heap.size := ⟨_, rfl⟩
  obtain ⟨p, hp⟩ : ∃ p, p = w.heap.size + 1 := ⟨_, rfl⟩
  rw [← hp] at t0 t1 t2
  rw [← hg] at HR1
  first | rw [← hp] | skip
  first | rw [← hg] | skip
  first | (rw [hg, ← hp, ← hg]) | skip
  have HR1 := Lib.hid HR1
  have HB1 := Lib.hid hb1
  clear HR hb hb1 hz hg hp
  generalize (w.alloc (.cells #[.int .i64 K, .string s, .int .i64 A, .int .i64 E, .int .i64 M, .int .i64 S, .slice B n c] 24)).alloc (.cells #[.int .i64 A, .int .i64 E, .int .i64 M] 3) = w1 at *
  go_loopw [4] (fun i wr => ∃ k : Nat, k ≤ 3 ∧ i = .int .i64 k ∧ wr = w1 ∧ ∀ j, j < k → num (tri A E M j))
    (fun i _ => 3 - (intOf i).toNat)
  case atStart => exact ⟨0, Nat.zero_le _, rfl, rfl, fun j hj => absurd hj (by omega)⟩
  case round =>
    obtain ⟨k, hk, rfl, rfl, hall⟩ := hrel
    by_cases hlt : k < 3
    · have hck : wr.cell? ⟨p, k, none⟩ = some (.int .i64 (tri A E M k)) := by
        rcases (show k = 0 ∨ k = 1 ∨ k = 2 by omega) with rfl | rfl | rfl
        · exact t0
        · exact t1
        · exact t2
      have hbf := HBF.out k hlt
      have HALL := Lib.hid hall
      clear t0 t1 t2 hall
      obtain ⟨x, hx0⟩ : ∃ x, x = tri A E M k := ⟨_, rfl⟩
      have HX0 := Lib.hid hx0
      rw [← hx0] at hck hbf
      clear hx0
      by_cases h0 : x < 0
      · have hq : Q = false := hbf (fun e => by unfold num at e; omega)
        subst hq
        clear hbf HQ HBF
        go_wp2
        go_ret
        exact ⟨rfl, HB1.out⟩
      by_cases h1 : x > 4294967295
      · have hq : Q = false := hbf (fun e => by unfold num at e; omega)
        subst hq
        clear hbf HQ HBF
        go_wp2
        go_ret
        exact ⟨rfl, HB1.out⟩
      have hx : num x := ⟨by omega, by omega⟩
      have HX := Lib.hid hx
      clear hbf hx
      go_wp2
      go_roundw
      case rel => exact ⟨k + 1, by omega, by go_num, trivial, fun j hj => by
        rcases Nat.lt_or_ge j k with h | h
        · exact HALL.out j h
        · have e : j = k := by omega
          subst e
          rw [← HX0.out]
          exact HX.out⟩
      case measure => simp [intOf] <;> omega
    · obtain rfl : k = 3 := by omega
      have hA : num A := hall 0 (by omega)
      have hE : num E := hall 1 (by omega)
      have hM : num M := hall 2 (by omega)
      have hQ2 : Q = (b0 && decide (0 ≤ S ∧ S ≤ 240) && decide (0 ≤ (n : Int) ∧ (n : Int) ≤ 240) && decide (kindP K A E M S n)) := by
        rw [HQ.out, decide_eq_true hA, decide_eq_true hE, decide_eq_true hM]; simp
      have HQ := Lib.hid hQ2
      obtain ⟨c0, c1, c2, c3, c4, c5, c6⟩ := HR1.out.all
      simp only at c0 c1 c2 c3 c4 c5 c6
      clear HBF hall hQ2 t0 t1 t2 hA hE hM
      go_wp2_with fail
      refine (CN.out wr).mono ?_
      rintro e w2 ⟨rfl, rfl⟩
      clear CN
      cases b0
      · have hq : Q = false := by rw [HQ.out]; rfl
        subst hq
        clear HQ
        go_wp2
        go_ret
        exact ⟨rfl, HB1.out⟩
      by_cases s0 : S < 0
      · have hq : Q = false := by rw [HQ.out, decide_eq_false (show ¬ (0 ≤ S ∧ S ≤ 240) by omega)]; rfl
        subst hq
        clear HQ
        go_wp2
        go_ret
        exact ⟨rfl, HB1.out⟩
      by_cases s1 : S > 240
      · have hq : Q = false := by rw [HQ.out, decide_eq_false (show ¬ (0 ≤ S ∧ S ≤ 240) by omega)]; rfl
        subst hq
        clear HQ
        go_wp2
        go_ret
        exact ⟨rfl, HB1.out⟩
      by_cases n1 : (n : Int) > 240
      · have hq : Q = false := by rw [HQ.out, decide_eq_false (show ¬ (0 ≤ (n : Int) ∧ (n : Int) ≤ 240) by omega)]; simp
        subst hq
        clear HQ
        go_wp2
        go_ret
        exact ⟨rfl, HB1.out⟩
      have hQ3 : Q = decide (kindP K A E M S n) := by
        rw [HQ.out, decide_eq_true (show 0 ≤ S ∧ S ≤ 240 by omega), decide_eq_true (show 0 ≤ (n : Int) ∧ (n : Int) ≤ 240 by omega)]; rfl
      have HQ := Lib.hid hQ3
      clear hQ3
      rcases (show K = 1 ∨ K = 2 ∨ K = 5 ∨ K = 3 ∨ K = 4 ∨ (¬ K = 1 ∧ ¬ K = 2 ∧ ¬ K = 5 ∧ ¬ K = 3 ∧ ¬ K = 4) by omega) with rfl | rfl | rfl | rfl | rfl | ⟨k1, k2, k5, k3, k4⟩
      · by_cases a : A > 0
        · by_cases e : E > 0
          · by_cases x : E = A
            · have hq : Q = decide (M = 0) := by rw [HQ.out]; exact decide_eq_decide.2 (by unfold kindP; omega)
              subst hq
              clear HQ
              go_wp2
              go_ret
              exact ⟨rfl, HB1.out⟩
            · have hq : Q = false := by rw [HQ.out]; exact decide_eq_false (by unfold kindP; omega)
              subst hq
              clear HQ
              go_wp2
              go_ret
              exact ⟨rfl, HB1.out⟩
          · by_cases x : E = A
            · exact absurd (show E > 0 by omega) e
            · have hq : Q = false := by rw [HQ.out]; exact decide_eq_false (by unfold kindP; omega)
              subst hq
              clear HQ
              go_wp2
              go_ret
              exact ⟨rfl, HB1.out⟩
        · have hq : Q = false := by rw [HQ.out]; exact decide_eq_false (by unfold kindP; omega)
          subst hq
          clear HQ
          go_wp2
          go_ret
          exact ⟨rfl, HB1.out⟩
      · by_cases a : A > 0
        · by_cases e : E > 0
          · have hq : Q = decide (M > 0) := by rw [HQ.out]; exact decide_eq_decide.2 (by unfold kindP; omega)
            subst hq
            clear HQ
            go_wp2
            go_ret
            exact ⟨rfl, HB1.out⟩
          · have hq : Q = false := by rw [HQ.out]; exact decide_eq_false (by unfold kindP; omega)
            subst hq
            clear HQ
            go_wp2
            go_ret
            exact ⟨rfl, HB1.out⟩
        · have hq : Q = false := by rw [HQ.out]; exact decide_eq_false (by unfold kindP; omega)
          subst hq
          clear HQ
          go_wp2
          go_ret
          exact ⟨rfl, HB1.out⟩
      · by_cases a : A > 0
        · by_cases e : E > 0
          · have hq : Q = decide (M > 0) := by rw [HQ.out]; exact decide_eq_decide.2 (by unfold kindP; omega)
            subst hq
            clear HQ
            go_wp2
            go_ret
            exact ⟨rfl, HB1.out⟩
          · have hq : Q = false := by rw [HQ.out]; exact decide_eq_false (by unfold kindP; omega)
            subst hq
            clear HQ
            go_wp2
            go_ret
            exact ⟨rfl, HB1.out⟩
        · have hq : Q = false := by rw [HQ.out]; exact decide_eq_false (by unfold kindP; omega)
          subst hq
          clear HQ
          go_wp2
          go_ret
          exact ⟨rfl, HB1.out⟩
      · by_cases a : A > 0
        · by_cases e : E > 0
          · by_cases m : M > 0
            · have hq : Q = decide ((n : Int) = 0) := by rw [HQ.out]; exact decide_eq_decide.2 (by unfold kindP; omega)
              subst hq
              clear HQ
              go_wp2
              go_ret
              exact ⟨rfl, HB1.out⟩
            · have hq : Q = false := by rw [HQ.out]; exact decide_eq_false (by unfold kindP; omega)
              subst hq
              clear HQ
              go_wp2
              go_ret
              exact ⟨rfl, HB1.out⟩
          · have hq : Q = false := by rw [HQ.out]; exact decide_eq_false (by unfold kindP; omega)
            subst hq
            clear HQ
            go_wp2
            go_ret
            exact ⟨rfl, HB1.out⟩
        · have hq : Q = false := by rw [HQ.out]; exact decide_eq_false (by unfold kindP; omega)
          subst hq
          clear HQ
          go_wp2
          go_ret
          exact ⟨rfl, HB1.out⟩
      · by_cases x : A = 0
        · subst x
          by_cases y : E = 0
          · subst y
            by_cases m : M > 0
            · by_cases z : S = 0
              · subst z
                have hq : Q = decide ((n : Int) = 0) := by rw [HQ.out]; exact decide_eq_decide.2 (by unfold kindP; omega)
                subst hq
                clear HQ
                go_wp2
                go_ret
                exact ⟨rfl, HB1.out⟩
              · have hq : Q = false := by rw [HQ.out]; exact decide_eq_false (by unfold kindP; omega)
                subst hq
                clear HQ
                go_wp2
                go_ret
                exact ⟨rfl, HB1.out⟩
            · have hq : Q = false := by rw [HQ.out]; exact decide_eq_false (by unfold kindP; omega)
              subst hq
              clear HQ
              go_wp2
              go_ret
              exact ⟨rfl, HB1.out⟩
          · have hq : Q = false := by rw [HQ.out]; exact decide_eq_false (by unfold kindP; omega)
            subst hq
            clear HQ
            go_wp2
            go_ret
            exact ⟨rfl, HB1.out⟩
        · by_cases a : A > 0
          · by_cases e : E > 0
            · have hq : Q = false := by rw [HQ.out]; exact decide_eq_false (by unfold kindP; omega)
              subst hq
              clear HQ
              go_wp2
              go_ret
              exact ⟨rfl, HB1.out⟩
            · have hq : Q = false := by rw [HQ.out]; exact decide_eq_false (by unfold kindP; omega)
              subst hq
              clear HQ
              go_wp2
              go_ret
              exact ⟨rfl, HB1.out⟩
          · have hq : Q = false := by rw [HQ.out]; exact decide_eq_false (by unfold kindP; omega)
            subst hq
            clear HQ
            go_wp2
            go_ret
            exact ⟨rfl, HB1.out⟩
      · by_cases a : A > 0
        · by_cases e : E > 0
          · have hq : Q = false := by rw [HQ.out]; exact decide_eq_false (by unfold kindP; omega)
            subst hq
            clear HQ
            go_wp2
            go_ret
            exact ⟨rfl, HB1.out⟩
          · have hq : Q = false := by rw [HQ.out]; exact decide_eq_false (by unfold kindP; omega)
            subst hq
            clear HQ
            go_wp2
            go_ret
            exact ⟨rfl, HB1.out⟩
        · have hq : Q = false := by rw [HQ.out]; exact decide_eq_false (by unfold kindP; omega)
          subst hq
          clear HQ
          go_wp2
          go_ret
          exact ⟨rfl, HB1.out⟩
end Go.Proofs.Ytnjghhkebcojnaa.R20

/- the document's own answers of layer 20: Put -/
set_option maxRecDepth 100000
namespace Go.Proofs.Ytnjghhkebcojnaa.R20
open Go.RowKit RecM Record

def SP.own (B : Nat) (l : List UInt8) : Drawn.SP := ⟨fun v w => ∃ u, v = u ∧ Own w B u l, fun _ _ _ h hb => by
  obtain ⟨u, h1, h2⟩ := h; exact ⟨u, h1, h2.below hb⟩⟩
theorem byte_of (n : Nat) (h : n < 256) : ((UInt8.ofNat n).toNat : Int) = n := by
  rw [UInt8.toNat_ofNat_of_lt' (by simp only [UInt8.size]; omega)]
/-- literals of bytes, to append to -/
theorem own_lit (w : World) (B : Nat) (hB : B ≤ w.heap.size) (l : List UInt8) (hl : l.length ≤ 100) : Own (w.alloc (.cells (cells l) 5)) B (.slice (some ⟨w.heap.size, 0, none⟩) l.length l.length) l :=
  R18.Own.of_row (Row.new w l) hB (by unfold maxLen; omega)
theorem own_lit2 (w : World) (B : Nat) (hB : B ≤ w.heap.size) (x y : UInt8) (X Y : Int) (hx : (x.toNat : Int) = X) (hy : (y.toNat : Int) = Y) : Own (w.alloc (.cells #[.int .u8 X, .int .u8 Y] 5)) B (.slice (some ⟨w.heap.size, 0, none⟩) 2 2) [x, y] := by
  subst hx hy; exact own_lit w B hB [x, y] (by simp)
theorem own_lit3 (w : World) (B : Nat) (hB : B ≤ w.heap.size) (x y z : UInt8) (X Y Z : Int) (hx : (x.toNat : Int) = X) (hy : (y.toNat : Int) = Y) (hz : (z.toNat : Int) = Z) : Own (w.alloc (.cells #[.int .u8 X, .int .u8 Y, .int .u8 Z] 5)) B (.slice (some ⟨w.heap.size, 0, none⟩) 3 3) [x, y, z] := by
  subst hx hy hz; exact own_lit w B hB [x, y, z] (by simp)
theorem bytes_lit1 (w : World) (x : UInt8) (X : Int) (hx : (x.toNat : Int) = X) : BytesAt (w.alloc (.cells #[.int .u8 X] 5)) (some ⟨w.heap.size, 0, none⟩) [x] := by
  subst hx; exact (Row.new w [x]).bytes
/-- the rows when k bodies are told -/
def putTo (r : Rc) (k : Nat) : List (List UInt8) := SecM.sec r.head :: (List.range k).map fun i => SecM.sec (r.body i)
theorem putTo_succ (r : Rc) (k : Nat) : putTo r (k + 1) = putTo r k ++ [SecM.sec (r.body k)] := by unfold putTo; rw [List.range_succ]; simp
theorem putTo_len (r : Rc) (k : Nat) : (putTo r k).length = k + 1 := by unfold putTo; simp
theorem putTo_all (r : Rc) : putTo r (pieces r.sh.length) = r.put := rfl
theorem head_is (h : Hd) (sh : List UInt8) : [72, UInt8.ofNat h.K.toNat] ++ LabM.putB h.s.data.toList ++ PackM.numB 4 h.A ++ PackM.numB 4 h.E ++ PackM.numB 4 h.M ++ PackM.numB 2 h.S ++ [UInt8.ofNat sh.length] = (h.rc sh).head := by
  unfold Rc.head
  rw [numB_four, numB_four, numB_four, numB_two]
  simp only [List.append_assoc]
  rfl
theorem body_is (h : Hd) (sh : List UInt8) (k : Nat) : [66, UInt8.ofNat k, UInt8.ofNat h.K.toNat] ++ PackM.numB 4 h.A ++ PackM.numB 4 h.E ++ [UInt8.ofNat (piece sh k).length] ++ piece sh k = (h.rc sh).body k := by
  unfold Rc.body
  rw [numB_four, numB_four]
  simp only [List.append_assoc]
  rfl
/-- a call that hands back rows, all their bytes new -/
def RetRowsN (w : World) (m : List (List UInt8)) (e : Ending) (w' : World) : Prop :=
  ∃ A c, e = .returned (.slice A m.length c) ∧ m.length ≤ c ∧ c ≤ maxLen ∧ RowsP (fun k => w.heap.size ≤ k) w' A m ∧ Below w.heap.size w w' ∧ New w A
set_option maxHeartbeats 8000000 in
theorem put_new (h : Hd) (hf : Fits h) (B : Option Addr) (sh : List UInt8) (c : Nat) (w : World) (hB : BytesAt w B sh) (hc : sh.length ≤ c) (_hc2 : c ≤ maxLen) (hm : (h.rc sh).May) :
    Calls Try.prog 20 #[.agg #[.int .i64 h.K, .string h.s, .int .i64 h.A, .int .i64 h.E, .int .i64 h.M, .int .i64 h.S, .slice B sh.length c]] w (RetRowsN w (h.rc sh).put) := by
  have hK : 1 ≤ h.K ∧ h.K ≤ 5 := by have := hm.kind; unfold Rc.kind at this; have e : (h.rc sh).K = h.K := rfl; omega
  have hsl : sh.length ≤ 240 := hm.sh
  rw [← putTo_all]
  rw [show pieces (h.rc sh).sh.length = pieces sh.length from rfl]
  have HBN : Hid (∀ k, k < pieces sh.length ↔ 48 * k < sh.length) := Lib.hid fun k => by unfold pieces; omega
  have hpc : pieces sh.length ≤ 5 := by unfold pieces; omega
  have HHD := Lib.hid (head_is h sh)
  have HBD := Lib.hid (fun k => body_is h sh k)
  have CN := Lib.hid (fun W => R07.put_any h.s W hf.s)
  have CA := Lib.hid (fun W => R18.num_own 4 h.A W hf.a)
  have CE := Lib.hid (fun W => R18.num_own 4 h.E W hf.e)
  have CM := Lib.hid (fun W => R18.num_own 4 h.M W hf.m)
  have CZ := Lib.hid (fun W => R18.num_own 2 h.S W hf.z)
  have CSE := Lib.hid (fun W X d hX => R15.seal_any X (h.rc sh).head d W hX (by rw [head_len]; omega))
  have CSB := Lib.hid (fun W X k d hX => R15.seal_any X ((h.rc sh).body k) d W hX (body_len (h.rc sh) k))
  have LH := Lib.hid (head_len (h.rc sh))
  have LBD := Lib.hid (fun k => body_len (h.rc sh) k)
  have HZL := Lib.hid (SecM.sec_len (h.rc sh).head (by rw [head_len]; omega))
  have HZB := Lib.hid (fun k => SecM.sec_len ((h.rc sh).body k) (body_len (h.rc sh) k))
  have HCL : Hid (∀ k, (piece sh k).length = min (48 * k + 48) sh.length - 48 * k) := Lib.hid fun k => by unfold piece; rw [List.length_take, List.length_drop]; omega
  have HCH : Hid (∀ V a o k, BytesAt V (some ⟨a, o, none⟩) sh → BytesAt V (some ⟨a, o + 48 * k, none⟩) (piece sh k)) := Lib.hid fun V a o k hb => (hb.drop (48 * k)).take 48
  have HKB := Lib.hid (show ((UInt8.ofNat h.K.toNat).toNat : Int) = h.K by rw [byte_of _ (by omega)]; omega)
  have HLB := Lib.hid (byte_of sh.length (by omega))
  have NL := Lib.hid (LabM.putB_len h.s.data.toList)
  have N4A : Hid ((PackM.numB 4 h.A).length = 4) := Lib.hid (PackM.numB_len _ _)
  have N4E : Hid ((PackM.numB 4 h.E).length = 4) := Lib.hid (PackM.numB_len _ _)
  have N4M : Hid ((PackM.numB 4 h.M).length = 4) := Lib.hid (PackM.numB_len _ _)
  have N2S : Hid ((PackM.numB 2 h.S).length = 2) := Lib.hid (PackM.numB_len _ _)
  have HPS := Lib.hid (fun k => putTo_succ (h.rc sh) k)
  have HPN := Lib.hid (fun k => putTo_len (h.rc sh) k)
  have HP0 : Hid (putTo (h.rc sh) 0 = [SecM.sec (h.rc sh).head]) := Lib.hid rfl
  have HTX := Lib.hid hB
  obtain ⟨n, hn⟩ : ∃ n, n = sh.length := ⟨_, rfl⟩
  have HN := Lib.hid hn
  rw [← hn] at HBN hpc HLB HHD HCL hc hsl ⊢
  generalize pieces n = N at *
  have hwk : IntKind.u8.wrap h.K = h.K := IntWalk.u8_in _ (by omega)
  have hwn : IntKind.u8.wrap (n : Int) = n := IntWalk.u8_in _ (by omega)
  have HK8 := Lib.hid hwk; have HN8 := Lib.hid hwn
  have HR0 := Lib.hid (RecB.new w h B n c)
  have HBX := Lib.hid (balloc w (.cells #[.int .i64 h.K, .string h.s, .int .i64 h.A, .int .i64 h.E, .int .i64 h.M, .int .i64 h.S, .slice B n c] 24))
  generalize UInt8.ofNat h.K.toNat = kb at *
  generalize UInt8.ofNat n = lb at *
  generalize LabM.putB h.s.data.toList = nb at *
  generalize PackM.numB 4 h.A = ba at *
  generalize PackM.numB 4 h.E = be at *
  generalize PackM.numB 4 h.M = bm at *
  generalize PackM.numB 2 h.S = bs at *
  clear hf hB hm hn hK hwk hwn
  go_enter Try.func20, Try.ntmps20
  go_wp2_with fail
  obtain ⟨rb, hrb⟩ : ∃ rb, rb = w.heap.size := ⟨_, rfl⟩
  rw [← hrb] at HR0 ⊢
  clear hrb
  generalize w.alloc (.cells #[.int .i64 h.K, .string h.s, .int .i64 h.A, .int .i64 h.E, .int .i64 h.M, .int .i64 h.S, .slice B n c] 24) = w1 at *
  have hrl : rb < w1.heap.size := HR0.out.lt
  have HRC : Hid (∀ V, Below w1.heap.size w1 V → RecB V rb h B n c) := Lib.hid fun V hb => HR0.out.below hb
  clear HR0
  --FLOW--
  refine Drawn.wp_region_flowT 7 [Drawn.SP.is (.pointer (some ⟨rb, 0, none⟩)), Drawn.SP.is (.int .i64 h.K), Drawn.SP.is (.int .u8 h.K), SP.own w1.heap.size [72, kb], Drawn.SP.is (.pointer (some ⟨rb, 1, none⟩)), Drawn.SP.is (.string h.s), Drawn.SP.bytes nb] (by kernel_rfl) (by kernel_rfl) ?_ ?_
  · intro i hi a w3 hb hev hdep
    rcases (show i = 0 ∨ i = 1 ∨ i = 2 ∨ i = 3 ∨ i = 4 ∨ i = 5 ∨ i = 6 by omega) with rfl | rfl | rfl | rfl | rfl | rfl | rfl
    · have e1 : a.tmps[1]?.getD undef = .pointer (some ⟨rb, 0, none⟩) := hev 1 rfl
      refine Drawn.wpOp_flow 8 rfl rfl rfl ?_
      clear hev hdep hb
      go_simp
      exact ⟨_, rfl, rfl, Below.refl _ _⟩
    · have d0 : a.tmps[8]?.getD undef = .pointer (some ⟨rb, 0, none⟩) := hdep 0 rfl
      refine Drawn.wpOp_flow 9 rfl rfl rfl ?_
      obtain ⟨c0, c1, c2, c3, c4, c5, c6⟩ := (HRC.out _ hb).all
      clear hev hdep hb
      go_simp
      exact ⟨_, rfl, rfl, Below.refl _ _⟩
    · have d1 : a.tmps[9]?.getD undef = .int .i64 h.K := hdep 1 rfl
      refine Drawn.wpOp_flow 10 rfl rfl rfl ?_
      clear hev hdep
      have hwk := HK8.out
      clear hb
      go_simp
      exact ⟨_, rfl, rfl, Below.refl _ _⟩
    · have d2 : a.tmps[10]?.getD undef = .int .u8 h.K := hdep 2 rfl
      refine Drawn.wpOp_flow 11 rfl rfl rfl ?_
      clear hev hdep
      have C := own_lit2 w3 w1.heap.size hb.size 72 kb 72 h.K rfl HKB.out
      clear hb
      go_simp
      exact ⟨_, rfl, ⟨_, rfl, C⟩, balloc _ _⟩
    · have e1 : a.tmps[1]?.getD undef = .pointer (some ⟨rb, 0, none⟩) := hev 1 rfl
      refine Drawn.wpOp_flow 12 rfl rfl rfl ?_
      clear hev hdep hb
      go_simp
      exact ⟨_, rfl, rfl, Below.refl _ _⟩
    · have d4 : a.tmps[12]?.getD undef = .pointer (some ⟨rb, 1, none⟩) := hdep 4 rfl
      refine Drawn.wpOp_flow 13 rfl rfl rfl ?_
      obtain ⟨c0, c1, c2, c3, c4, c5, c6⟩ := (HRC.out _ hb).all
      clear hev hdep hb
      go_simp
      exact ⟨_, rfl, rfl, Below.refl _ _⟩
    · have d5 : a.tmps[13]?.getD undef = .string h.s := hdep 5 rfl
      refine Drawn.wpOp_flow 14 rfl rfl rfl ?_
      clear hev hdep
      have C := CN.out w3
      clear hb
      go_simp
      refine C.mono ?_
      rintro e w' ⟨X, d, rfl, q1, q2, q3, hb', _⟩
      exact ⟨_, rfl, ⟨X, d, rfl, q1, q2, q3⟩, hb'⟩
  · intro xq w3 hb hxq
    have vq0 : xq 0 = .pointer (some ⟨rb, 0, none⟩) := hxq 0 (by omega)
    have vq1 : xq 1 = .int .i64 h.K := hxq 1 (by omega)
    have vq2 : xq 2 = .int .u8 h.K := hxq 2 (by omega)
    obtain ⟨Uvq3, vq3, ovq3⟩ : (SP.own w1.heap.size [72, kb]).p (xq 3) w3 := hxq 3 (by omega)
    have vq4 : xq 4 = .pointer (some ⟨rb, 1, none⟩) := hxq 4 (by omega)
    have vq5 : xq 5 = .string h.s := hxq 5 (by omega)
    obtain ⟨Xvq6, cvq6, vq6, hvq6, kvq6, qvq6⟩ : (Drawn.SP.bytes nb).p (xq 6) w3 := hxq 6 (by omega)
    show wpList _ _ _ _ (Drawn.acts _ [(14, some (xq 6)), (13, some (xq 5)), (12, some (xq 4)), (11, some (xq 3)), (10, some (xq 2)), (9, some (xq 1)), (8, some (xq 0))]) _
    rw [vq0, vq1, vq2, vq3, vq4, vq5, vq6]
    clear hxq vq0 vq1 vq2 vq3 vq4 vq5 vq6
    clear xq
    simp only [Drawn.acts, List.drop_succ_cons, List.drop_zero]
    go_simp
  --END--
    have hv0 := ovq3.bytes
    obtain ⟨A0, c0', hv0, -, -, -⟩ := hv0
    have hv0 : Uvq3 = .slice A0 2 c0' := hv0
    subst hv0
    have HO3 := Lib.hid ovq3
    have HB3 := Lib.hid hb
    have NB := NL.out
    have hl19 : ([72, kb] ++ nb).length = 19 := by rw [List.length_append, NB]; rfl
    have HL19 := Lib.hid hl19
    refine wpList_append_bytes rfl (.tmp 11) (.tmp 14) rfl w1.heap.size _ [72, kb] nb rfl HO3.out Xvq6 _ cvq6 rfl rfl qvq6 (by rw [NB]; simp) HB3.out.size ?_
    intro v4 w4 own4 hb4
    obtain ⟨A4, c4', hv4, -, -, -⟩ := own4.bytes
    rw [hl19] at hv4
    subst hv4
    have HO4 := Lib.hid own4
    have HB4 := Lib.hid (HB3.out.trans hb4)
    have cc2 := (HRC.out _ HB4.out).c2
    clear hb4 own4 HO3 HB3 ovq3 hb NB hl19 qvq6 hvq6 kvq6
    go_wp2_with fail
    refine (CA.out w4).mono ?_
    rintro e w5 ⟨vN, rfl, oN, hbN⟩
    obtain ⟨XN, dN, hvN, -, -, hXN⟩ := oN.bytes
    have NN := N4A.out
    rw [NN] at hvN
    subst hvN
    have HXN := Lib.hid hXN
    have HO4b := Lib.hid (HO4.out.below hbN)
    have HB4b := Lib.hid (HB4.out.trans (hbN.mono HB4.out.size))
    have HNN := Lib.hid NN.symm
    have HSN : Hid (([72, kb] ++ nb).length + ba.length < 1099511627776) := Lib.hid (by rw [NN, HL19.out]; omega)
    have HLL : Hid (([72, kb] ++ nb ++ ba).length = 23) := Lib.hid (by rw [List.length_append, NN, HL19.out])
    clear hXN oN hbN HO4 HB4 NN cc2
    go_wp2_with (at_builtin; refine wpList_append_bytes rfl (.tmp 16) (.tmp 19) rfl w1.heap.size _ ([72, kb] ++ nb) ba rfl HO4b.out XN _ dN rfl HNN.out HXN.out HSN.out HB4b.out.size ?_; intro v6 w6 own6 hb6; obtain ⟨A6, c6', hv6, -, -, -⟩ := own6.bytes; rw [HLL.out] at hv6; subst hv6; have HO6 := Lib.hid own6; have HB6 := Lib.hid (HB4b.out.trans hb6); have cc3 := (HRC.out _ HB6.out).c3; clear own6 hb6 HO4b HB4b)
    have HL6 := Lib.hid HLL.out
    clear HLL HSN HNN HXN
    refine (CE.out w6).mono ?_
    rintro e w7 ⟨vN, rfl, oN, hbN⟩
    obtain ⟨XN, dN, hvN, -, -, hXN⟩ := oN.bytes
    have NN := N4E.out
    rw [NN] at hvN
    subst hvN
    have HXN := Lib.hid hXN
    have HO6b := Lib.hid (HO6.out.below hbN)
    have HB6b := Lib.hid (HB6.out.trans (hbN.mono HB6.out.size))
    have HNN := Lib.hid NN.symm
    have HSN : Hid (([72, kb] ++ nb ++ ba).length + be.length < 1099511627776) := Lib.hid (by rw [NN, HL6.out]; omega)
    have HLL : Hid (([72, kb] ++ nb ++ ba ++ be).length = 27) := Lib.hid (by rw [List.length_append, NN, HL6.out])
    clear hXN oN hbN HO6 HB6 NN cc3
    go_wp2_with (at_builtin; refine wpList_append_bytes rfl (.tmp 21) (.tmp 24) rfl w1.heap.size _ ([72, kb] ++ nb ++ ba) be rfl HO6b.out XN _ dN rfl HNN.out HXN.out HSN.out HB6b.out.size ?_; intro v8 w8 own8 hb8; obtain ⟨A8, c8', hv8, -, -, -⟩ := own8.bytes; rw [HLL.out] at hv8; subst hv8; have HO8 := Lib.hid own8; have HB8 := Lib.hid (HB6b.out.trans hb8); have cc4 := (HRC.out _ HB8.out).c4; clear own8 hb8 HO6b HB6b)
    have HL8 := Lib.hid HLL.out
    clear HLL HSN HNN HXN
    refine (CM.out w8).mono ?_
    rintro e w9 ⟨vN, rfl, oN, hbN⟩
    obtain ⟨XN, dN, hvN, -, -, hXN⟩ := oN.bytes
    have NN := N4M.out
    rw [NN] at hvN
    subst hvN
    have HXN := Lib.hid hXN
    have HO8b := Lib.hid (HO8.out.below hbN)
    have HB8b := Lib.hid (HB8.out.trans (hbN.mono HB8.out.size))
    have HNN := Lib.hid NN.symm
    have HSN : Hid (([72, kb] ++ nb ++ ba ++ be).length + bm.length < 1099511627776) := Lib.hid (by rw [NN, HL8.out]; omega)
    have HLL : Hid (([72, kb] ++ nb ++ ba ++ be ++ bm).length = 31) := Lib.hid (by rw [List.length_append, NN, HL8.out])
    clear hXN oN hbN HO8 HB8 NN cc4
    go_wp2_with (at_builtin; refine wpList_append_bytes rfl (.tmp 26) (.tmp 29) rfl w1.heap.size _ ([72, kb] ++ nb ++ ba ++ be) bm rfl HO8b.out XN _ dN rfl HNN.out HXN.out HSN.out HB8b.out.size ?_; intro v10 w10 own10 hb10; obtain ⟨A10, c10', hv10, -, -, -⟩ := own10.bytes; rw [HLL.out] at hv10; subst hv10; have HO10 := Lib.hid own10; have HB10 := Lib.hid (HB8b.out.trans hb10); have cc5 := (HRC.out _ HB10.out).c5; clear own10 hb10 HO8b HB8b)
    have HL10 := Lib.hid HLL.out
    clear HLL HSN HNN HXN
    refine (CZ.out w10).mono ?_
    rintro e w11 ⟨vN, rfl, oN, hbN⟩
    obtain ⟨XN, dN, hvN, -, -, hXN⟩ := oN.bytes
    have NN := N2S.out
    rw [NN] at hvN
    subst hvN
    have HXN := Lib.hid hXN
    have HO10b := Lib.hid (HO10.out.below hbN)
    have HB10b := Lib.hid (HB10.out.trans (hbN.mono HB10.out.size))
    have HNN := Lib.hid NN.symm
    have HSN : Hid (([72, kb] ++ nb ++ ba ++ be ++ bm).length + bs.length < 1099511627776) := Lib.hid (by rw [NN, HL10.out]; omega)
    have HLL : Hid (([72, kb] ++ nb ++ ba ++ be ++ bm ++ bs).length = 33) := Lib.hid (by rw [List.length_append, NN, HL10.out])
    clear hXN oN hbN HO10 HB10 NN cc5
    have hwn := HN8.out
    go_wp2_with (first
      | (at_builtin; refine wpList_append_bytes rfl (.tmp 31) (.tmp 34) rfl w1.heap.size _ ([72, kb] ++ nb ++ ba ++ be ++ bm) bs rfl HO10b.out XN _ dN rfl HNN.out HXN.out HSN.out HB10b.out.size ?_; intro v12 w12 own12 hb12; obtain ⟨A12, c12', hv12, -, -, -⟩ := own12.bytes; rw [HLL.out] at hv12; subst hv12; have HO12 := Lib.hid own12; have HB12 := Lib.hid (HB10b.out.trans hb12); have cc6 := (HRC.out _ HB12.out).c6; clear own12 hb12 HO10b HB10b)
      | (at_builtin; refine wpList_append_bytes rfl (.tmp 36) (.tmp 41) rfl w1.heap.size _ ([72, kb] ++ nb ++ ba ++ be ++ bm ++ bs) [lb] rfl (HO12.out.alloc _) (some ⟨w12.heap.size, 0, none⟩) 1 1 rfl rfl (bytes_lit1 w12 lb n HLB.out) (by rw [HLL.out]; simp) (Nat.le_trans HB12.out.size (balloc w12 _).size) ?_; rw [HHD.out]; intro v13 w13 own13 hb13; obtain ⟨A13, c13, hv13, -, -, hx13⟩ := own13.bytes; rw [LH.out] at hv13; subst hv13; have HX13 := Lib.hid hx13; have HB13 := Lib.hid ((HB12.out.trans ((balloc w12 (.cells #[.int .u8 (n : Int)] 5)).mono HB12.out.size)).trans hb13); clear own13 hb13 hx13))
    clear HLL HSN HNN HXN HO12 HB12 cc6 hwn
    have C7 := CSE.out w13 A13 c13 HX13.out
    rw [LH.out] at C7
    refine C7.mono ?_
    rintro e w14 ⟨A8, c8, rfl, q1, q2, q3, hb8, hn8⟩
    rw [HZL.out] at q1 ⊢
    have HB14 := Lib.hid (HB13.out.trans (hb8.mono HB13.out.size))
    have hm8 := OwnT.lit (T := fun k => k < w1.heap.size) w14 w1.heap.size HB14.out.size (SecM.sec (h.rc sh).head) A8 c8 (by rw [HZL.out]; exact q1) q2 q3 (fun _ a e h => by have := hn8 a e; have := HB13.out.size; omega) (fun k hk => Nat.lt_of_lt_of_le hk HB14.out.size)
    rw [HZL.out, ← HP0.out] at hm8
    have HM := Lib.hid hm8
    have HB15 := Lib.hid (HB14.out.trans ((balloc w14 (.cells #[.slice A8 64 c8] 22)).mono HB14.out.size))
    clear C7 CSE q1 q2 q3 hb8 hn8 hm8 HX13 HB13 HB14 CM CZ HP0
    go_wp2_with fail
    generalize w14.alloc (.cells #[.slice A8 64 c8] 22) = w15 at *
    go_loopw [4, 5] (fun v i wr => ∃ k : Nat, k ≤ N ∧ i = .int .i64 ((48 * k : Nat) : Int) ∧ OwnT wr w1.heap.size (fun k => k < w1.heap.size) v (putTo (h.rc sh) k) ∧ Below w1.heap.size w1 wr)
      (fun _ i _ => 1000 - (intOf i).toNat)
    case atStart => exact ⟨0, Nat.zero_le _, rfl, HM.out, HB15.out⟩
    case round =>
      obtain ⟨k, hk, rfl, hown, hb⟩ := hrel
      rename World => wr
      have HO := Lib.hid hown; have HB := Lib.hid hb
      have hrlr : rb < wr.heap.size := Nat.lt_of_lt_of_le hrl hb.size
      have HRR : Hid (∀ V, Below wr.heap.size wr V → RecB V rb h B n c) := Lib.hid fun V hv => (HRC.out wr hb).below hv
      obtain ⟨c0, c1, c2, c3, c4, c5, c6⟩ := (HRC.out wr hb).all
      clear hown hb HM HB15
      by_cases hlt : k < N
      · have h48 := (HBN.out k).1 hlt
        obtain ⟨bb, oo, eX, -⟩ := HTX.out (48 * k) (by rw [← HN.out]; exact h48)
        subst eX
        have HZR : Hid (w1.heap.size ≤ wr.heap.size) := Lib.hid HB.out.size
        have HCX := Lib.hid (fun V hv => HCH.out V bb oo k (HTX.out.below hv))
        have HLK := Lib.hid (HCL.out k)
        have HBDK := Lib.hid (HBD.out k)
        have HKN := Lib.hid (byte_of k (by omega))
        have HPB := Lib.hid (byte_of (piece sh k).length (by have := HLK.out; omega))
        have LBK := Lib.hid (LBD.out k)
        have HZK := Lib.hid (HZB.out k)
        have HPK := Lib.hid (HPS.out k)
        have HPL := Lib.hid (HPN.out k)
        have CSK := Lib.hid (fun W X d hX => CSB.out W X k d hX)
        have HWB : Hid (Below w.heap.size w wr) := Lib.hid (bstep HBX.out HB.out)
        obtain ⟨x, hx⟩ : ∃ x, x = 48 * k := ⟨_, rfl⟩
        have HX := Lib.hid hx
        have hxd : ((x : Int)).tdiv 48 = (k : Int) := by rw [hx, Int.tdiv_eq_ediv_of_nonneg (by omega)]; omega
        have hk8 : IntKind.u8.wrap (k : Int) = k := IntWalk.u8_in _ (by omega)
        have hkw : IntKind.i64.wrap (k : Int) = k := IntWalk.i64_in _ (by omega)
        have HXD := Lib.hid hxd; have HK88 := Lib.hid hk8; have HKW := Lib.hid hkw
        rw [← hx] at h48 HCX HLK ⊢
        generalize UInt8.ofNat (piece sh k).length = pb at *
        generalize UInt8.ofNat k = ki at *
        generalize piece sh k = pc at *
        clear hx hxd hk8 hkw HBN HBD HCL HCH HPS HPN HZB CSB LBD
        by_cases hend : (x : Int) + 48 > n
        · have w48 : IntKind.i64.wrap ((x : Int) + 48) = (x : Int) + 48 := IntWalk.i64_in _ (by omega)
          go_wp2_with fail
          clear c0 c1 c2 c3 c4 c5 c6
          --FLOW--
          refine Drawn.wp_region_flowT 10 [Drawn.SP.is (.int .i64 (x : Nat)), Drawn.SP.is (.int .i64 (k : Nat)), Drawn.SP.is (.int .u8 (k : Nat)), Drawn.SP.is (.pointer (some ⟨rb, 0, none⟩)), Drawn.SP.is (.int .i64 h.K), Drawn.SP.is (.int .u8 h.K), SP.own wr.heap.size [66, ki, kb], Drawn.SP.is (.pointer (some ⟨rb, 2, none⟩)), Drawn.SP.is (.int .i64 h.A), Drawn.SP.bytes ba] (by kernel_rfl) (by kernel_rfl) ?_ ?_
          · intro i hi a w3 hb hev hdep
            rcases (show i = 0 ∨ i = 1 ∨ i = 2 ∨ i = 3 ∨ i = 4 ∨ i = 5 ∨ i = 6 ∨ i = 7 ∨ i = 8 ∨ i = 9 by omega) with rfl | rfl | rfl | rfl | rfl | rfl | rfl | rfl | rfl | rfl
            · have e5 : a.tmps[5]?.getD undef = .int .i64 (x : Nat) := hev 5 rfl
              refine Drawn.wpOp_flow 63 rfl rfl rfl ?_
              clear hev hdep hb
              go_simp
              exact ⟨_, rfl, rfl, Below.refl _ _⟩
            · have d0 : a.tmps[63]?.getD undef = .int .i64 (x : Nat) := hdep 0 rfl
              refine Drawn.wpOp_flow 64 rfl rfl rfl ?_
              clear hev hdep
              have hxd := HXD.out; have hkw := HKW.out
              clear hb
              go_simp
              exact ⟨_, rfl, rfl, Below.refl _ _⟩
            · have d1 : a.tmps[64]?.getD undef = .int .i64 (k : Nat) := hdep 1 rfl
              refine Drawn.wpOp_flow 65 rfl rfl rfl ?_
              clear hev hdep
              have hk8 := HK88.out
              clear hb
              go_simp
              exact ⟨_, rfl, rfl, Below.refl _ _⟩
            · have e1 : a.tmps[1]?.getD undef = .pointer (some ⟨rb, 0, none⟩) := hev 1 rfl
              refine Drawn.wpOp_flow 66 rfl rfl rfl ?_
              clear hev hdep hb
              go_simp
              exact ⟨_, rfl, rfl, Below.refl _ _⟩
            · have d3 : a.tmps[66]?.getD undef = .pointer (some ⟨rb, 0, none⟩) := hdep 3 rfl
              refine Drawn.wpOp_flow 67 rfl rfl rfl ?_
              obtain ⟨c0, c1, c2, c3, c4, c5, c6⟩ := (HRR.out _ hb).all
              clear hev hdep hb
              go_simp
              exact ⟨_, rfl, rfl, Below.refl _ _⟩
            · have d4 : a.tmps[67]?.getD undef = .int .i64 h.K := hdep 4 rfl
              refine Drawn.wpOp_flow 68 rfl rfl rfl ?_
              clear hev hdep
              have hwk := HK8.out
              clear hb
              go_simp
              exact ⟨_, rfl, rfl, Below.refl _ _⟩
            · have d2 : a.tmps[65]?.getD undef = .int .u8 (k : Nat) := hdep 2 rfl
              have d5 : a.tmps[68]?.getD undef = .int .u8 h.K := hdep 5 rfl
              refine Drawn.wpOp_flow 69 rfl rfl rfl ?_
              clear hev hdep
              have C := own_lit3 w3 wr.heap.size hb.size 66 ki kb 66 (k : Nat) h.K rfl HKN.out HKB.out
              clear hb
              go_simp
              exact ⟨_, rfl, ⟨_, rfl, C⟩, balloc _ _⟩
            · have e1 : a.tmps[1]?.getD undef = .pointer (some ⟨rb, 0, none⟩) := hev 1 rfl
              refine Drawn.wpOp_flow 70 rfl rfl rfl ?_
              clear hev hdep hb
              go_simp
              exact ⟨_, rfl, rfl, Below.refl _ _⟩
            · have d7 : a.tmps[70]?.getD undef = .pointer (some ⟨rb, 2, none⟩) := hdep 7 rfl
              refine Drawn.wpOp_flow 71 rfl rfl rfl ?_
              obtain ⟨c0, c1, c2, c3, c4, c5, c6⟩ := (HRR.out _ hb).all
              clear hev hdep hb
              go_simp
              exact ⟨_, rfl, rfl, Below.refl _ _⟩
            · have d8 : a.tmps[71]?.getD undef = .int .i64 h.A := hdep 8 rfl
              refine Drawn.wpOp_flow 72 rfl rfl rfl ?_
              clear hev hdep
              have C := CA.out w3
              clear hb
              go_simp
              refine C.mono ?_
              rintro e w' ⟨v, rfl, ow, hb'⟩
              obtain ⟨X, d, rfl, q1, q2, q3⟩ := ow.bytes
              exact ⟨_, rfl, ⟨X, d, rfl, q1, q2, q3⟩, hb'⟩
          · intro xq w3 hb hxq
            have vq0 : xq 0 = .int .i64 (x : Nat) := hxq 0 (by omega)
            have vq1 : xq 1 = .int .i64 (k : Nat) := hxq 1 (by omega)
            have vq2 : xq 2 = .int .u8 (k : Nat) := hxq 2 (by omega)
            have vq3 : xq 3 = .pointer (some ⟨rb, 0, none⟩) := hxq 3 (by omega)
            have vq4 : xq 4 = .int .i64 h.K := hxq 4 (by omega)
            have vq5 : xq 5 = .int .u8 h.K := hxq 5 (by omega)
            obtain ⟨Uvq6, vq6, ovq6⟩ : (SP.own wr.heap.size [66, ki, kb]).p (xq 6) w3 := hxq 6 (by omega)
            have vq7 : xq 7 = .pointer (some ⟨rb, 2, none⟩) := hxq 7 (by omega)
            have vq8 : xq 8 = .int .i64 h.A := hxq 8 (by omega)
            obtain ⟨Xvq9, cvq9, vq9, hvq9, kvq9, qvq9⟩ : (Drawn.SP.bytes ba).p (xq 9) w3 := hxq 9 (by omega)
            show wpList _ _ _ _ (Drawn.acts _ [(72, some (xq 9)), (71, some (xq 8)), (70, some (xq 7)), (69, some (xq 6)), (68, some (xq 5)), (67, some (xq 4)), (66, some (xq 3)), (65, some (xq 2)), (64, some (xq 1)), (63, some (xq 0))]) _
            rw [vq0, vq1, vq2, vq3, vq4, vq5, vq6, vq7, vq8, vq9]
            clear hxq vq0 vq1 vq2 vq3 vq4 vq5 vq6 vq7 vq8 vq9
            clear xq
            simp only [Drawn.acts, List.drop_succ_cons, List.drop_zero]
            go_simp
          --END--
            obtain ⟨A0, c0', hv0, -, -, -⟩ := ovq6.bytes
            have hv0 : Uvq6 = .slice A0 3 c0' := hv0
            subst hv0
            have HO3 := Lib.hid ovq6
            have HB3 := Lib.hid hb
            have NB := N4A.out
            have HL7 : Hid (([66, ki, kb] ++ ba).length = 7) := Lib.hid (by rw [List.length_append, NB]; rfl)
            refine wpList_append_bytes rfl (.tmp 69) (.tmp 72) rfl wr.heap.size _ [66, ki, kb] ba rfl HO3.out Xvq9 _ cvq9 rfl rfl qvq9 (by rw [NB]; simp) HB3.out.size ?_
            intro v4 w4 own4 hb4
            obtain ⟨A4, c4', hv4, -, -, -⟩ := own4.bytes
            rw [HL7.out] at hv4
            subst hv4
            have HO4 := Lib.hid own4
            have HB4 := Lib.hid (HB3.out.trans hb4)
            have cc3 := (HRR.out _ HB4.out).c3
            clear hb4 own4 HO3 HB3 ovq6 hb NB qvq9 hvq9 kvq9
            go_wp2_with fail
            refine (CE.out w4).mono ?_
            rintro e w5 ⟨vN, rfl, oN, hbN⟩
            obtain ⟨XN, dN, hvN, -, -, hXN⟩ := oN.bytes
            have NN := N4E.out
            rw [NN] at hvN
            subst hvN
            have HXN := Lib.hid hXN
            have HO5 := Lib.hid (HO4.out.below hbN)
            have HB5 := Lib.hid (HB4.out.trans (hbN.mono HB4.out.size))
            have HNN := Lib.hid NN.symm
            have HSN : Hid (([66, ki, kb] ++ ba).length + be.length < 1099511627776) := Lib.hid (by rw [NN, HL7.out]; omega)
            have HLL : Hid (([66, ki, kb] ++ ba ++ be).length = 11) := Lib.hid (by rw [List.length_append, NN, HL7.out])
            have HLM : Hid (([66, ki, kb] ++ ba ++ be ++ [pb]).length = 12) := Lib.hid (by rw [List.length_append, HLL.out]; rfl)
            clear hXN oN hbN HO4 HB4 NN cc3
            have HPX : Hid ((pb.toNat : Int) = ((n : Int) - x)) := Lib.hid (by have h1 := HPB.out; have h2 := HLK.out; omega)
            have hsw : IntKind.i64.wrap ((n : Int) - x) = (n : Int) - x := IntWalk.i64_in _ (by omega)
            have hs8 : IntKind.u8.wrap ((n : Int) - x) = (n : Int) - x := IntWalk.u8_in _ (by omega)
            go_wp2_with (first
              | (at_builtin; refine wpList_append_bytes rfl (.tmp 74) (.tmp 77) rfl wr.heap.size _ ([66, ki, kb] ++ ba) be rfl HO5.out XN _ dN rfl HNN.out HXN.out HSN.out HB5.out.size ?_; intro v6 w6 own6 hb6; obtain ⟨A6, c6', hv6, -, -, -⟩ := own6.bytes; rw [HLL.out] at hv6; subst hv6; have HO6 := Lib.hid own6; have HB6 := Lib.hid (HB5.out.trans hb6); clear own6 hb6)
              | (at_builtin; refine wpList_append_bytes rfl (.tmp 79) (.tmp 84) rfl wr.heap.size _ ([66, ki, kb] ++ ba ++ be) [pb] rfl (HO6.out.alloc _) (some ⟨w6.heap.size, 0, none⟩) 1 1 rfl rfl (bytes_lit1 w6 pb _ HPX.out) (by rw [HLL.out]; simp) (Nat.le_trans HB6.out.size (balloc w6 _).size) ?_; intro v7 w7 own7 hb7; obtain ⟨A7, c7, hv7, -, -, -⟩ := own7.bytes; rw [HLM.out] at hv7; subst hv7; have HO7 := Lib.hid own7; have HB7 := Lib.hid ((HB6.out.trans ((balloc w6 (.cells #[.int .u8 ((n : Int) - x)] 5)).mono HB6.out.size)).trans hb7); have cc6 := (HRR.out _ HB7.out).c6; clear own7 hb7)
              | (at_builtin; refine wpList_append_bytes rfl (.tmp 86) (.tmp 91) rfl wr.heap.size _ ([66, ki, kb] ++ ba ++ be ++ [pb]) pc rfl HO7.out _ _ _ rfl (by have := HLK.out; omega) (HCX.out _ (bstep HWB.out HB7.out)) (by rw [HLM.out]; have := HLK.out; omega) HB7.out.size ?_; rw [HBDK.out]; intro v8 w8 own8 hb8; obtain ⟨A8', c8', hv8, -, -, hx8⟩ := own8.bytes; subst hv8; have HX8 := Lib.hid hx8; have HB8 := Lib.hid (HB7.out.trans hb8); clear own8 hb8 hx8))
            refine (CSK.out w8 A8' c8' HX8.out).mono ?_
            rintro e w9 ⟨A9, c9, rfl, q1, q2, q3, hb9, hn9⟩
            rw [HZK.out] at q1 ⊢
            have HX9 := Lib.hid (q3.alloc (.cells #[.slice A9 64 c9] 22))
            have HB9 := Lib.hid (bstep (bstep HB8.out hb9) (balloc w9 (.cells #[.slice A9 64 c9] 22)))
            have HO9 := Lib.hid (HO.out.below HB9.out)
            have HZ9 : Hid (w1.heap.size ≤ (w9.alloc (.cells #[.slice A9 64 c9] 22)).heap.size) := Lib.hid (Nat.le_trans HZR.out HB9.out.size)
            have HC9 : Hid ((w9.alloc (.cells #[.slice A9 64 c9] 22)).cell? ⟨w9.heap.size, 0, none⟩ = some (.slice A9 (SecM.sec ((h.rc sh).body k)).length c9)) := Lib.hid (by rw [HZK.out]; exact Entry.lit1_cell w9 (.slice A9 64 c9) 22)
            have hzb := HB8.out.size
            have hown := HO.out.ownM.ownlt
            have HNE : Hid (∀ a, A9 = some a → u4.ownBlock ≠ some a.block ∧ ¬ a.block < w1.heap.size) := Lib.hid fun a e => ⟨fun e2 => by have h1 := (hown _ e2).2; have h2 := hn9 a e; omega, by have h2 := hn9 a e; have := HZR.out; omega⟩
            have Q1 : Hid ((SecM.sec ((h.rc sh).body k)).length ≤ c9) := Lib.hid (by rw [HZK.out]; exact q1)
            have Q2 := Lib.hid q2
            clear hown hn9 q1 q2 q3 hb9 hzb
            go_wp2_with (at_builtin; refine wpList_append_rowT rfl (.tmp 93) (.tmp 96) rfl w1.heap.size (fun k => k < w1.heap.size) u4 (putTo (h.rc sh) k) rfl HO9.out w9.heap.size 1 (SecM.sec ((h.rc sh).body k)) A9 c9 rfl HC9.out Q1.out Q2.out HX9.out (fun _ a e => HNE.out a e) (fun k hk => Nat.lt_of_lt_of_le hk HZ9.out) (by rw [HPL.out]; omega) HZ9.out ?_; rw [← HPK.out]; intro v10 w10 own10 hb10; have HO10 := Lib.hid own10; have HB10 := Lib.hid ((HB.out.trans (HB9.out.mono HZR.out)).trans hb10); clear own10 hb10)
            go_roundw
            case rel => exact ⟨k + 1, by omega, by have := HX.out; congr 1; omega, HO10.out, HB10.out⟩
            case measure => simp [intOf] <;> omega
        · have w48 : IntKind.i64.wrap ((x : Int) + 48) = (x : Int) + 48 := IntWalk.i64_in _ (by omega)
          go_wp2_with fail
          clear c0 c1 c2 c3 c4 c5 c6
          --FLOW--
          refine Drawn.wp_region_flowT 10 [Drawn.SP.is (.int .i64 (x : Nat)), Drawn.SP.is (.int .i64 (k : Nat)), Drawn.SP.is (.int .u8 (k : Nat)), Drawn.SP.is (.pointer (some ⟨rb, 0, none⟩)), Drawn.SP.is (.int .i64 h.K), Drawn.SP.is (.int .u8 h.K), SP.own wr.heap.size [66, ki, kb], Drawn.SP.is (.pointer (some ⟨rb, 2, none⟩)), Drawn.SP.is (.int .i64 h.A), Drawn.SP.bytes ba] (by kernel_rfl) (by kernel_rfl) ?_ ?_
          · intro i hi a w3 hb hev hdep
            rcases (show i = 0 ∨ i = 1 ∨ i = 2 ∨ i = 3 ∨ i = 4 ∨ i = 5 ∨ i = 6 ∨ i = 7 ∨ i = 8 ∨ i = 9 by omega) with rfl | rfl | rfl | rfl | rfl | rfl | rfl | rfl | rfl | rfl
            · have e5 : a.tmps[5]?.getD undef = .int .i64 (x : Nat) := hev 5 rfl
              refine Drawn.wpOp_flow 63 rfl rfl rfl ?_
              clear hev hdep hb
              go_simp
              exact ⟨_, rfl, rfl, Below.refl _ _⟩
            · have d0 : a.tmps[63]?.getD undef = .int .i64 (x : Nat) := hdep 0 rfl
              refine Drawn.wpOp_flow 64 rfl rfl rfl ?_
              clear hev hdep
              have hxd := HXD.out; have hkw := HKW.out
              clear hb
              go_simp
              exact ⟨_, rfl, rfl, Below.refl _ _⟩
            · have d1 : a.tmps[64]?.getD undef = .int .i64 (k : Nat) := hdep 1 rfl
              refine Drawn.wpOp_flow 65 rfl rfl rfl ?_
              clear hev hdep
              have hk8 := HK88.out
              clear hb
              go_simp
              exact ⟨_, rfl, rfl, Below.refl _ _⟩
            · have e1 : a.tmps[1]?.getD undef = .pointer (some ⟨rb, 0, none⟩) := hev 1 rfl
              refine Drawn.wpOp_flow 66 rfl rfl rfl ?_
              clear hev hdep hb
              go_simp
              exact ⟨_, rfl, rfl, Below.refl _ _⟩
            · have d3 : a.tmps[66]?.getD undef = .pointer (some ⟨rb, 0, none⟩) := hdep 3 rfl
              refine Drawn.wpOp_flow 67 rfl rfl rfl ?_
              obtain ⟨c0, c1, c2, c3, c4, c5, c6⟩ := (HRR.out _ hb).all
              clear hev hdep hb
              go_simp
              exact ⟨_, rfl, rfl, Below.refl _ _⟩
            · have d4 : a.tmps[67]?.getD undef = .int .i64 h.K := hdep 4 rfl
              refine Drawn.wpOp_flow 68 rfl rfl rfl ?_
              clear hev hdep
              have hwk := HK8.out
              clear hb
              go_simp
              exact ⟨_, rfl, rfl, Below.refl _ _⟩
            · have d2 : a.tmps[65]?.getD undef = .int .u8 (k : Nat) := hdep 2 rfl
              have d5 : a.tmps[68]?.getD undef = .int .u8 h.K := hdep 5 rfl
              refine Drawn.wpOp_flow 69 rfl rfl rfl ?_
              clear hev hdep
              have C := own_lit3 w3 wr.heap.size hb.size 66 ki kb 66 (k : Nat) h.K rfl HKN.out HKB.out
              clear hb
              go_simp
              exact ⟨_, rfl, ⟨_, rfl, C⟩, balloc _ _⟩
            · have e1 : a.tmps[1]?.getD undef = .pointer (some ⟨rb, 0, none⟩) := hev 1 rfl
              refine Drawn.wpOp_flow 70 rfl rfl rfl ?_
              clear hev hdep hb
              go_simp
              exact ⟨_, rfl, rfl, Below.refl _ _⟩
            · have d7 : a.tmps[70]?.getD undef = .pointer (some ⟨rb, 2, none⟩) := hdep 7 rfl
              refine Drawn.wpOp_flow 71 rfl rfl rfl ?_
              obtain ⟨c0, c1, c2, c3, c4, c5, c6⟩ := (HRR.out _ hb).all
              clear hev hdep hb
              go_simp
              exact ⟨_, rfl, rfl, Below.refl _ _⟩
            · have d8 : a.tmps[71]?.getD undef = .int .i64 h.A := hdep 8 rfl
              refine Drawn.wpOp_flow 72 rfl rfl rfl ?_
              clear hev hdep
              have C := CA.out w3
              clear hb
              go_simp
              refine C.mono ?_
              rintro e w' ⟨v, rfl, ow, hb'⟩
              obtain ⟨X, d, rfl, q1, q2, q3⟩ := ow.bytes
              exact ⟨_, rfl, ⟨X, d, rfl, q1, q2, q3⟩, hb'⟩
          · intro xq w3 hb hxq
            have vq0 : xq 0 = .int .i64 (x : Nat) := hxq 0 (by omega)
            have vq1 : xq 1 = .int .i64 (k : Nat) := hxq 1 (by omega)
            have vq2 : xq 2 = .int .u8 (k : Nat) := hxq 2 (by omega)
            have vq3 : xq 3 = .pointer (some ⟨rb, 0, none⟩) := hxq 3 (by omega)
            have vq4 : xq 4 = .int .i64 h.K := hxq 4 (by omega)
            have vq5 : xq 5 = .int .u8 h.K := hxq 5 (by omega)
            obtain ⟨Uvq6, vq6, ovq6⟩ : (SP.own wr.heap.size [66, ki, kb]).p (xq 6) w3 := hxq 6 (by omega)
            have vq7 : xq 7 = .pointer (some ⟨rb, 2, none⟩) := hxq 7 (by omega)
            have vq8 : xq 8 = .int .i64 h.A := hxq 8 (by omega)
            obtain ⟨Xvq9, cvq9, vq9, hvq9, kvq9, qvq9⟩ : (Drawn.SP.bytes ba).p (xq 9) w3 := hxq 9 (by omega)
            show wpList _ _ _ _ (Drawn.acts _ [(72, some (xq 9)), (71, some (xq 8)), (70, some (xq 7)), (69, some (xq 6)), (68, some (xq 5)), (67, some (xq 4)), (66, some (xq 3)), (65, some (xq 2)), (64, some (xq 1)), (63, some (xq 0))]) _
            rw [vq0, vq1, vq2, vq3, vq4, vq5, vq6, vq7, vq8, vq9]
            clear hxq vq0 vq1 vq2 vq3 vq4 vq5 vq6 vq7 vq8 vq9
            clear xq
            simp only [Drawn.acts, List.drop_succ_cons, List.drop_zero]
            go_simp
          --END--
            obtain ⟨A0, c0', hv0, -, -, -⟩ := ovq6.bytes
            have hv0 : Uvq6 = .slice A0 3 c0' := hv0
            subst hv0
            have HO3 := Lib.hid ovq6
            have HB3 := Lib.hid hb
            have NB := N4A.out
            have HL7 : Hid (([66, ki, kb] ++ ba).length = 7) := Lib.hid (by rw [List.length_append, NB]; rfl)
            refine wpList_append_bytes rfl (.tmp 69) (.tmp 72) rfl wr.heap.size _ [66, ki, kb] ba rfl HO3.out Xvq9 _ cvq9 rfl rfl qvq9 (by rw [NB]; simp) HB3.out.size ?_
            intro v4 w4 own4 hb4
            obtain ⟨A4, c4', hv4, -, -, -⟩ := own4.bytes
            rw [HL7.out] at hv4
            subst hv4
            have HO4 := Lib.hid own4
            have HB4 := Lib.hid (HB3.out.trans hb4)
            have cc3 := (HRR.out _ HB4.out).c3
            clear hb4 own4 HO3 HB3 ovq6 hb NB qvq9 hvq9 kvq9
            go_wp2_with fail
            refine (CE.out w4).mono ?_
            rintro e w5 ⟨vN, rfl, oN, hbN⟩
            obtain ⟨XN, dN, hvN, -, -, hXN⟩ := oN.bytes
            have NN := N4E.out
            rw [NN] at hvN
            subst hvN
            have HXN := Lib.hid hXN
            have HO5 := Lib.hid (HO4.out.below hbN)
            have HB5 := Lib.hid (HB4.out.trans (hbN.mono HB4.out.size))
            have HNN := Lib.hid NN.symm
            have HSN : Hid (([66, ki, kb] ++ ba).length + be.length < 1099511627776) := Lib.hid (by rw [NN, HL7.out]; omega)
            have HLL : Hid (([66, ki, kb] ++ ba ++ be).length = 11) := Lib.hid (by rw [List.length_append, NN, HL7.out])
            have HLM : Hid (([66, ki, kb] ++ ba ++ be ++ [pb]).length = 12) := Lib.hid (by rw [List.length_append, HLL.out]; rfl)
            clear hXN oN hbN HO4 HB4 NN cc3
            have HPX : Hid ((pb.toNat : Int) = ((x : Int) + 48 - x)) := Lib.hid (by have h1 := HPB.out; have h2 := HLK.out; omega)
            go_wp2_with (first
              | (at_builtin; refine wpList_append_bytes rfl (.tmp 74) (.tmp 77) rfl wr.heap.size _ ([66, ki, kb] ++ ba) be rfl HO5.out XN _ dN rfl HNN.out HXN.out HSN.out HB5.out.size ?_; intro v6 w6 own6 hb6; obtain ⟨A6, c6', hv6, -, -, -⟩ := own6.bytes; rw [HLL.out] at hv6; subst hv6; have HO6 := Lib.hid own6; have HB6 := Lib.hid (HB5.out.trans hb6); clear own6 hb6)
              | (at_builtin; refine wpList_append_bytes rfl (.tmp 79) (.tmp 84) rfl wr.heap.size _ ([66, ki, kb] ++ ba ++ be) [pb] rfl (HO6.out.alloc _) (some ⟨w6.heap.size, 0, none⟩) 1 1 rfl rfl (bytes_lit1 w6 pb _ HPX.out) (by rw [HLL.out]; simp) (Nat.le_trans HB6.out.size (balloc w6 _).size) ?_; intro v7 w7 own7 hb7; obtain ⟨A7, c7, hv7, -, -, -⟩ := own7.bytes; rw [HLM.out] at hv7; subst hv7; have HO7 := Lib.hid own7; have HB7 := Lib.hid ((HB6.out.trans ((balloc w6 (.cells #[.int .u8 ((x : Int) + 48 - x)] 5)).mono HB6.out.size)).trans hb7); have cc6 := (HRR.out _ HB7.out).c6; clear own7 hb7)
              | (at_builtin; refine wpList_append_bytes rfl (.tmp 86) (.tmp 91) rfl wr.heap.size _ ([66, ki, kb] ++ ba ++ be ++ [pb]) pc rfl HO7.out _ _ _ rfl (by have := HLK.out; omega) (HCX.out _ (bstep HWB.out HB7.out)) (by rw [HLM.out]; have := HLK.out; omega) HB7.out.size ?_; rw [HBDK.out]; intro v8 w8 own8 hb8; obtain ⟨A8', c8', hv8, -, -, hx8⟩ := own8.bytes; subst hv8; have HX8 := Lib.hid hx8; have HB8 := Lib.hid (HB7.out.trans hb8); clear own8 hb8 hx8))
            refine (CSK.out w8 A8' c8' HX8.out).mono ?_
            rintro e w9 ⟨A9, c9, rfl, q1, q2, q3, hb9, hn9⟩
            rw [HZK.out] at q1 ⊢
            have HX9 := Lib.hid (q3.alloc (.cells #[.slice A9 64 c9] 22))
            have HB9 := Lib.hid (bstep (bstep HB8.out hb9) (balloc w9 (.cells #[.slice A9 64 c9] 22)))
            have HO9 := Lib.hid (HO.out.below HB9.out)
            have HZ9 : Hid (w1.heap.size ≤ (w9.alloc (.cells #[.slice A9 64 c9] 22)).heap.size) := Lib.hid (Nat.le_trans HZR.out HB9.out.size)
            have HC9 : Hid ((w9.alloc (.cells #[.slice A9 64 c9] 22)).cell? ⟨w9.heap.size, 0, none⟩ = some (.slice A9 (SecM.sec ((h.rc sh).body k)).length c9)) := Lib.hid (by rw [HZK.out]; exact Entry.lit1_cell w9 (.slice A9 64 c9) 22)
            have hzb := HB8.out.size
            have hown := HO.out.ownM.ownlt
            have HNE : Hid (∀ a, A9 = some a → u4.ownBlock ≠ some a.block ∧ ¬ a.block < w1.heap.size) := Lib.hid fun a e => ⟨fun e2 => by have h1 := (hown _ e2).2; have h2 := hn9 a e; omega, by have h2 := hn9 a e; have := HZR.out; omega⟩
            have Q1 : Hid ((SecM.sec ((h.rc sh).body k)).length ≤ c9) := Lib.hid (by rw [HZK.out]; exact q1)
            have Q2 := Lib.hid q2
            clear hown hn9 q1 q2 q3 hb9 hzb
            go_wp2_with (at_builtin; refine wpList_append_rowT rfl (.tmp 93) (.tmp 96) rfl w1.heap.size (fun k => k < w1.heap.size) u4 (putTo (h.rc sh) k) rfl HO9.out w9.heap.size 1 (SecM.sec ((h.rc sh).body k)) A9 c9 rfl HC9.out Q1.out Q2.out HX9.out (fun _ a e => HNE.out a e) (fun k hk => Nat.lt_of_lt_of_le hk HZ9.out) (by rw [HPL.out]; omega) HZ9.out ?_; rw [← HPK.out]; intro v10 w10 own10 hb10; have HO10 := Lib.hid own10; have HB10 := Lib.hid ((HB.out.trans (HB9.out.mono HZR.out)).trans hb10); clear own10 hb10)
            go_roundw
            case rel => exact ⟨k + 1, by omega, by have := HX.out; congr 1; omega, HO10.out, HB10.out⟩
            case measure => simp [intOf] <;> omega
      · obtain rfl : k = N := by omega
        have h48 : ¬ ((48 * k : Nat) : Int) < (n : Nat) := fun e => hlt ((HBN.out k).2 (by omega))
        generalize 48 * k = x at *
        go_wp2
        go_ret
        obtain ⟨A9, c9, rfl, r1, r2, r3, r4⟩ := HO.out.rowsP (P := fun k => w.heap.size ≤ k) fun k hk => by have := HBX.out.size; omega
        exact ⟨A9, c9, rfl, r1, r2, r3, bstep HBX.out HB.out, fun a e => Nat.le_trans HBX.out.size (r4 a e)⟩
end Go.Proofs.Ytnjghhkebcojnaa.R20

/- the document's own answers of layer 20: Are -/
set_option maxRecDepth 100000
namespace Go.Proofs.Ytnjghhkebcojnaa.R20
open Go.RowKit RecM Record

theorem are_at {ss p : List (List UInt8)} {k : Nat} (h1 : k < ss.length) (h2 : k < p.length) (h : ss[k] ≠ p[k]) : ¬ p <+: ss := fun h3 => by
  obtain ⟨t, rfl⟩ := h3
  exact h (by rw [List.getElem_append_left h2])
theorem pre_all {ss p : List (List UInt8)} (_h : p.length ≤ ss.length) (e : ss.take p.length = p.take p.length) : p <+: ss := by
  rw [List.take_length] at e
  rw [List.prefix_iff_eq_take]
  exact e.symm
set_option maxHeartbeats 4000000 in
theorem are_any (S : Option Addr) (ss : List (List UInt8)) (cs : Nat) (h : Hd) (hf : Fits h) (B : Option Addr) (sh : List UInt8) (c : Nat) (w : World) (hS : RowsAt w S ss) (hB : BytesAt w B sh) (hc : sh.length ≤ c) (hc2 : c ≤ maxLen) (hn : ss.length ≤ 1048576) (v : Bool) (hv : v = true ↔ Are ss (h.rc sh)) :
    Calls Try.prog 23 #[.slice S ss.length cs, .agg #[.int .i64 h.K, .string h.s, .int .i64 h.A, .int .i64 h.E, .int .i64 h.M, .int .i64 h.S, .slice B sh.length c]] w fun e w' => e = .returned (.bool v) ∧ Below w.heap.size w w' := by
  have CR := Lib.hid (fun W => right_any h hf.s B sh c W)
  rcases hq : (h.rc sh).right with _ | _
  · rw [hq] at CR
    have hvf : v = false := by
      cases v
      · rfl
      · have := (right_iff _).2 (hv.1 rfl).1
        rw [hq] at this; cases this
    subst hvf
    have HB0 := Lib.hid (balloc w (.cells #[.int .i64 h.K, .string h.s, .int .i64 h.A, .int .i64 h.E, .int .i64 h.M, .int .i64 h.S, .slice B sh.length c] 24))
    clear hv hS hq hB hc hc2
    generalize sh.length = n at *
    go_enter Try.func23, Try.ntmps23
    go_wp2_with fail
    generalize w.alloc (.cells #[.int .i64 h.K, .string h.s, .int .i64 h.A, .int .i64 h.E, .int .i64 h.M, .int .i64 h.S, .slice B n c] 24) = w0 at *
    refine (CR.out w0).mono ?_
    rintro e w1 ⟨rfl, hb1⟩
    have HB1 := Lib.hid (bstep HB0.out hb1)
    clear hb1
    go_wp2
    go_ret
    exact ⟨rfl, HB1.out⟩
  · rw [hq] at CR
    have hm := (right_iff _).1 hq
    have CP := Lib.hid (fun W hB => put_new h hf B sh c W hB hc hc2 hm)
    have hpl2 : (h.rc sh).put.length ≤ 6 := by rw [put_len]; exact count_le hm
    have hpb := Lib.hid (put_rows (h.rc sh))
    have hv2 : v = true ↔ (h.rc sh).put <+: ss := hv.trans ⟨fun k => k.2, fun k => ⟨hm, k⟩⟩
    have HV := Lib.hid hv2
    have HS := Lib.hid hS; have HBY := Lib.hid hB
    have HR0 := Lib.hid (RecB.new w h B sh.length c)
    have HB0 := Lib.hid (balloc w (.cells #[.int .i64 h.K, .string h.s, .int .i64 h.A, .int .i64 h.E, .int .i64 h.M, .int .i64 h.S, .slice B sh.length c] 24))
    clear hv hm hS hv2 hq hB hf
    generalize (h.rc sh).put = p at *
    generalize sh.length = n at *
    go_enter Try.func23, Try.ntmps23
    go_wp2_with fail
    obtain ⟨rb, hrb⟩ : ∃ rb, rb = w.heap.size := ⟨_, rfl⟩
    rw [← hrb] at HR0 ⊢
    clear hrb
    generalize w.alloc (.cells #[.int .i64 h.K, .string h.s, .int .i64 h.A, .int .i64 h.E, .int .i64 h.M, .int .i64 h.S, .slice B n c] 24) = w0 at *
    refine (CR.out w0).mono ?_
    rintro e w1 ⟨rfl, hb1⟩
    have HB1 := Lib.hid (bstep HB0.out hb1)
    obtain ⟨c0, c1, c2, c3, c4, c5, c6⟩ := (HR0.out.below hb1).all
    clear hb1 HR0 HB0
    go_wp2_with fail
    refine (CP.out w1 (HBY.out.below HB1.out)).mono ?_
    rintro e w2 ⟨P, d, rfl, p1, p2, p3', hb2, -⟩
    have p3 := p3'.rows
    have HB2 := Lib.hid (bstep HB1.out hb2)
    have HP := Lib.hid p3
    have HS2 := Lib.hid (HS.out.below HB2.out)
    clear p3 p3' hb2 HB1 CR CP HS HBY c0 c1 c2 c3 c4 c5 c6
    by_cases hlen : ss.length < p.length
    · have hv : v = false := by
        cases v
        · rfl
        · have := (HV.out.1 rfl).length_le; omega
      subst hv
      go_wp2
      go_ret
      exact ⟨rfl, HB2.out⟩
    · have hle : p.length ≤ ss.length := by omega
      go_wp2
      go_loopw [6] (fun i wr => ∃ k n : Nat, k ≤ p.length ∧ i = .int .i64 k ∧ ss.take k = p.take k ∧ wr = w2.drewN n)
        (fun i _ => p.length - (intOf i).toNat)
      case atStart => exact ⟨0, 0, Nat.zero_le _, rfl, by rw [List.take_zero, List.take_zero], rfl⟩
      case round =>
        obtain ⟨k, n, hk, rfl, hs, hwr⟩ := hrel
        have HW := Lib.hid hwr; have HE := Lib.hid hs
        have h1 : RowsAt wr S ss := by rw [hwr]; exact HS2.out
        have h2 : RowsAt wr P p := by rw [hwr]; exact HP.out
        clear hwr hs
        by_cases hlt : k < p.length
        · have hlt2 : k < ss.length := by omega
          obtain ⟨b, o, B, cb, rfl, e1, l1, l1', p1'⟩ := h1.row hlt2
          obtain ⟨b2, o2, B2, cb2, rfl, e2, l2, l2', p2'⟩ := h2.row hlt
          have g1 : ss[k] = p[k] → ss.take (k + 1) = p.take (k + 1) := fun e => by
            rw [List.take_succ_eq_append_getElem hlt2, List.take_succ_eq_append_getElem hlt, HE.out, e]
          have g2 : ss[k] ≠ p[k] → v = false := fun e => by
            cases v
            · rfl
            · exact absurd (HV.out.1 rfl) (are_at hlt2 hlt e)
          have G1 := Lib.hid g1; have G2 := Lib.hid g2
          have P1 := Lib.hid p1'; have P2 := Lib.hid p2'
          clear g1 g2 h1 h2 p1' p2'
          generalize ss[k] = x at *
          generalize p[k] = y at *
          have C : ∀ W, BytesAt W B x → BytesAt W B2 y → Calls Try.prog 37 #[.slice B x.length cb, .slice B2 y.length cb2] W fun e w' => e = .returned (.bool (same x y)) ∧ ∃ n, w' = W.drewN n := fun W q1 q2 =>
            R01.same_any B B2 x y cb cb2 W q1 q2 (by omega) (by omega)
          by_cases hxy : x = y
          · have hf := G1.out hxy
            have HF := Lib.hid hf
            have hsm : same x y = true := by rw [hxy]; exact same_self y
            rw [hsm] at C
            have HC := Lib.hid C
            clear hxy hf hsm C
            go_wp2
            go_quiet ((go_at_call 37; exact Calls.quiet_of (HC.out _ (P1.out.drewN _) (P2.out.drewN _))))
            go_wp2
            go_roundw
            case rel => exact ⟨k + 1, n + nq, by omega, by go_num, HF.out, by rw [HW.out, World.drewN_drewN]⟩
            case measure => simp [intOf] <;> omega
          · have hv := G2.out hxy
            subst hv
            have hsm : same x y = false := by unfold same; exact decide_eq_false hxy
            rw [hsm] at C
            have HC := Lib.hid C
            clear hxy hsm C
            go_wp2
            go_quiet ((go_at_call 37; exact Calls.quiet_of (HC.out _ (P1.out.drewN _) (P2.out.drewN _))))
            go_wp2
            go_ret
            exact ⟨rfl, by rw [HW.out, World.drewN_drewN]; exact bstep HB2.out (bdraw _ _)⟩
        · obtain rfl : k = p.length := by omega
          have hv : v = true := HV.out.2 (pre_all hle HE.out)
          subst hv
          clear h1 h2
          go_wp2
          go_ret
          exact ⟨rfl, by rw [HW.out]; exact bstep HB2.out (bdraw _ _)⟩
end Go.Proofs.Ytnjghhkebcojnaa.R20

/- the document's own answers of layer 20: Get -/
set_option maxRecDepth 100000
namespace Go.Proofs.Ytnjghhkebcojnaa.R20
open Go.RowKit RecM Record
open Entry (rows_tail)

theorem _root_.Go.Proofs.Ytnjghhkebcojnaa.R06.RAt.keep {F : Nat → Prop} {w w' : World} {g : Nat} {A : Option Addr} {c : Nat} {b : List UInt8} {s : PackM.St} (h : R06.RAt w g A c b s) (q : Keeps F w w') (hg : ¬ F g) (hA : 0 < b.length → ∀ a, A = some a → ¬ F a.block) : R06.RAt w' g A c b s :=
  ⟨q.cell h.cb hg, q.cell h.ca hg, q.cell h.cd hg, q.frozen h.ca hg h.f1, q.frozen h.cd hg h.f2, q.bytes' h.bytes hA, h.ne, h.ok, h.cap, h.cap2⟩
theorem step_append_at {ops : Array Oper} {o : Oper} {a : Act} {w : World} {K : Act → World → Prop} {Q : Exit → Act → World → Prop} {E : Prop} (hgd : o.guard = none) (s x : Operand)
    (ho : o.op = .call { callee := .builtin .append, args := #[s, x], argTypes := #[22, 22] })
    (base : Nat) (v : Value) (l l2 : List UInt8) (hs : a.eval s = v) (hown : Own w base v l) (A : Option Addr) (n c : Nat) (hx : a.eval x = .slice A n c) (hn : n = l2.length) (hA : BytesAt w A l2)
    (hl : l.length + l2.length < 1099511627776) (hbase : base ≤ w.heap.size)
    (h : ∀ v' w', Appd w base v (l ++ l2) v' w' → K (a.put o.dst v') w') : if Region.wanted o (yielded ops a.tmps) = true then Oper.wp Try.prog o a w K Q else E := by
  have hw : Region.wanted o (yielded ops a.tmps) = true := by simp [Region.wanted, hgd]
  rw [if_pos hw]
  exact wp_append_at s x ho base v l l2 hs hown A n c hx hn hA hl hbase h
/-- between a reader's calls -/
structure Rdq (w0 w : World) (g p q : Nat) (X : Option Addr) (d : Nat) (b : List UInt8) (s : PackM.St) (h : Hd) : Prop where
  rd : R06.RAt w g X d b s
  below : Below w0.heap.size w0 w
  first : w0.heap.size ≤ q
  qg : q < g
  gp : g < p
  nb : ∀ a, X = some a → a.block < g
  rc : RecB w p h none 0 0
  rs : RecB w q hd0 none 0 0
theorem Rdq.grown {w0 w w' : World} {g p q : Nat} {X : Option Addr} {d : Nat} {b : List UInt8} {s s' : PackM.St} {h : Hd} (k : Rdq w0 w g p q X d b s h) (r : R06.RAt w' g X d b s') (kg : w.grownBy w' (some g)) : Rdq w0 w' g p q X d b s' h := by
  have h1 := k.first; have h2 := k.qg; have h3 := k.gp
  have q1 : Keeps (fun x => x = g) w w' := .grow kg rfl
  exact ⟨r, below_keeps k.below q1 (fun x e => by omega) k.below.size, h1, h2, h3, k.nb, k.rc.keep q1 (by omega), k.rs.keep q1 (by omega)⟩
theorem Rdq.stored {w0 w w' : World} {g p q : Nat} {X : Option Addr} {d : Nat} {b : List UInt8} {s : PackM.St} {h h' : Hd} (k : Rdq w0 w g p q X d b s h) (q1 : Keeps (fun x => x = p) w w') (r : RecB w' p h' none 0 0) : Rdq w0 w' g p q X d b s h' := by
  have h1 := k.first; have h2 := k.qg; have h3 := k.gp
  exact ⟨k.rd.keep q1 (by omega) (fun _ a e => by have := k.nb a e; omega), below_keeps k.below q1 (fun x e => by omega) k.below.size, h1, h2, h3, k.nb, r, k.rs.keep q1 (by omega)⟩
/-- between two rounds: what has been gathered -/
structure IL (w0 wL wr : World) (q p : Nat) (hd : Hd) (sh : List UInt8) (X : Option Addr) (c : Nat) : Prop where
  below : Below w0.heap.size w0 wr
  size : wL.heap.size ≤ wr.heap.size
  rc : RecB wr p hd X sh.length c
  rs : RecB wr q hd0 none 0 0
  own : Own wr wL.heap.size (.slice X sh.length c) sh
theorem IL.step {w0 wL wr w' : World} {q p : Nat} {hd : Hd} {sh : List UInt8} {X : Option Addr} {c : Nat} (h : IL w0 wL wr q p hd sh X c) (hb : Below wr.heap.size wr w') : IL w0 wL w' q p hd sh X c :=
  ⟨bstep h.below hb, Nat.le_trans h.size hb.size, h.rc.below hb, h.rs.below hb, h.own.below hb⟩
theorem IL.next {w0 wL w5 w6 : World} {q p : Nat} {hd : Hd} {sh l2 : List UInt8} {X : Option Addr} {c : Nat} {v' : Value} (h : IL w0 wL w5 q p hd sh X c) (hq : q < p) (hp : p < wL.heap.size) (hw : w0.heap.size ≤ p)
    (a : Appd w5.drew wL.heap.size (.slice X sh.length c) (sh ++ l2) v' w6) : ∃ X' c', v' = .slice X' (sh ++ l2).length c' ∧ IL w0 wL (w6.setCell ⟨p, 6, none⟩ v') q p hd (sh ++ l2) X' c' ∧ w6.cell? ⟨p, 6, none⟩ = some (.slice X sh.length c) ∧ w6.frozen? ⟨p, 6, none⟩ = false ∧
      (∀ x o u, w5.cell? ⟨x, o, none⟩ = some u → x ≠ p → (Value.slice X sh.length c).ownBlock ≠ some x → (w6.setCell ⟨p, 6, none⟩ v').cell? ⟨x, o, none⟩ = some u) ∧ (∀ x o u, w5.cell? ⟨x, o, none⟩ = some u → (Value.slice X sh.length c).ownBlock ≠ some x → w6.cell? ⟨x, o, none⟩ = some u) := by
  have hd : Below w5.heap.size w5 w5.drew := ⟨rfl, rfl, rfl, Nat.le_refl _, fun _ _ => rfl⟩
  have hown : ∀ k, (Value.slice X sh.length c).ownBlock = some k → wL.heap.size ≤ k := fun k hk => (h.own.lt k hk).1
  have q6 : Keeps (fun k => (Value.slice X sh.length c).ownBlock = some k) w5 w6 := (Keeps.of_below _ hd).trans ⟨a.grow.os, a.grow.tape, a.grow.output, a.grow.size, fun k hk hn => a.grow.block k hk (fun e => hn e.symm)⟩
  have hnp : ¬ (Value.slice X sh.length c).ownBlock = some p := fun e => by have := hown p e; omega
  have hnq : ¬ (Value.slice X sh.length c).ownBlock = some q := fun e => by have := hown q e; omega
  obtain ⟨X', c', hv, h1, h2, h3⟩ := a.own.bytes
  have r6 := h.rc.keep q6 hnp
  have qs : Keeps (fun k => k = p) w6 (w6.setCell ⟨p, 6, none⟩ v') := .set _ _ _ _ rfl
  have hs : wL.heap.size ≤ w6.heap.size := Nat.le_trans h.size q6.size
  refine ⟨X', c', hv, ⟨?_, ?_, ?_, ?_, ?_⟩, r6.c6, r6.fr 6, fun x o u hu hx hne => ?_, fun x o u hu hne => q6.cell hu hne⟩
  · exact below_keeps (below_keeps h.below q6 (fun k hk => by have := hown k hk; omega) h.below.size) qs (fun k e => by omega) (by have := h.below.size; have := q6.size; omega)
  · exact Nat.le_trans hs qs.size
  · rw [hv]; exact RecB.set r6 6 _
  · exact (h.rs.keep q6 hnq).keep qs (by omega)
  · rw [← hv]
    exact a.own.keep qs (fun k hk e => by have := (a.own.lt k hk).1; omega)
  · exact qs.cell (q6.cell hu hne) hx
theorem fitsP (p : List UInt8) (_h : p.length ≤ 60) : Fits (hdP p) := by
  have h1 := (p.getD 1 0).toNat_lt
  have h2 : (LabM.getS ((p.drop 2).take 17)).size ≤ 17 := by
    unfold LabM.getS
    split
    · show ((LabM.nameAt ((p.drop 2).take 17)).toArray).size ≤ 17
      unfold LabM.nameAt
      simp
      omega
    · exact Nat.zero_le _
  have h3 := PackM.numV_lt p ⟨19, false⟩ 4
  have h4 := PackM.numV_lt p ⟨23, false⟩ 4
  have h5 := PackM.numV_lt p ⟨27, false⟩ 4
  have h6 := PackM.numV_lt p ⟨31, false⟩ 2
  refine ⟨?_, ?_, ?_, ?_, ?_, ?_⟩
  · show -9223372036854775808 ≤ (((p.getD 1 0).toNat : Nat) : Int) ∧ (((p.getD 1 0).toNat : Nat) : Int) ≤ 9223372036854775807; omega
  · show (LabM.getS ((p.drop 2).take 17)).size ≤ _; omega
  · show -9223372036854775808 ≤ ((PackM.numV p ⟨19, false⟩ 4 : Nat) : Int) ∧ ((PackM.numV p ⟨19, false⟩ 4 : Nat) : Int) ≤ 9223372036854775807; omega
  · show -9223372036854775808 ≤ ((PackM.numV p ⟨23, false⟩ 4 : Nat) : Int) ∧ ((PackM.numV p ⟨23, false⟩ 4 : Nat) : Int) ≤ 9223372036854775807; omega
  · show -9223372036854775808 ≤ ((PackM.numV p ⟨27, false⟩ 4 : Nat) : Int) ∧ ((PackM.numV p ⟨27, false⟩ 4 : Nat) : Int) ≤ 9223372036854775807; omega
  · show -9223372036854775808 ≤ ((PackM.numV p ⟨31, false⟩ 2 : Nat) : Int) ∧ ((PackM.numV p ⟨31, false⟩ 2 : Nat) : Int) ≤ 9223372036854775807; omega
theorem wp_append_run {o : Oper} {a : Act} {w : World} {K : Act → World → Prop} {Q : Exit → Act → World → Prop} (s x : Operand)
    (ho : o.op = .call { callee := .builtin .append, args := #[s, x], argTypes := #[22, 22] })
    (v u : Value) (hs : a.eval s = v) (hx : a.eval x = u) (v' : Value) (w' : World) (hrun : (Builtin.append_ #[22, 22] o.type #[v, u]).run Try.prog w = .ok v' w') (h : K (a.put o.dst v') w') : o.wp Try.prog a w K Q := by
  unfold Oper.wp execOp
  simp only [ho, resolve, invoke, builtin, Sem.run_bind, Sem.run_pure, Result.andThen_ok, List.map_toArray, List.map_cons, List.map_nil, hs, hx, hrun]
  exact h
/-- ahead of an append the one world, behind it the other -/
structure Apd (wd w6 : World) (f : Nat → Bool) (w : World) : Prop where
  no : f 9 = false → w = wd
  yes : f 9 = true → w = w6
theorem Apd.skip {wd w6 w : World} {f : Nat → Bool} (h : Apd wd w6 f w) (i : Nat) (hi : Nat.beq 9 i = false) : Apd wd w6 (Drawn.upd f i) w := by
  have e : Drawn.upd f i 9 = f 9 := by unfold Drawn.upd; rw [hi, Bool.or_false]
  exact ⟨fun k => h.no (by rw [← e]; exact k), fun k => h.yes (by rw [← e]; exact k)⟩
theorem Apd.or {wd w6 w : World} {f : Nat → Bool} (h : Apd wd w6 f w) : w = wd ∨ w = w6 := by
  cases e : f 9
  · exact .inl (h.no e)
  · exact .inr (h.yes e)
theorem Apd.done (wd w6 : World) (f : Nat → Bool) : Apd wd w6 (Drawn.upd f 9) w6 :=
  ⟨fun k => by unfold Drawn.upd at k; simp at k, fun _ => rfl⟩
/-- the walk stops here -/
structure Stop (p : Prop) : Prop where
  out : p
theorem wpList_assign' {P : Program} {ops : Array Oper} {rest : List Oper} {o : Oper} {a : Act} {w : World} {Q : Exit → Act → World → Prop} (hgd : o.guard = none) (x : Operand) (ho : o.op = .assign x) (h : wpList P ops Q rest (a.put o.dst (a.eval x)) w) : wpList P ops Q (o :: rest) a w :=
  wpList_plain hgd fun _ hK => BigFrame.wp_assign x ho (hK _ _ h)
set_option maxHeartbeats 8000000 in
theorem get_any (S : Option Addr) (ss : List (List UInt8)) (cs : Nat) (w : World) (hS : RowsAt w S ss) (hc : ss.length ≤ cs) (_hc2 : cs ≤ maxLen) (hl : ss.length ≤ 1048576) (hb : ∀ i, (hi : i < ss.length) → ss[i].length ≤ 1048576) :
    Calls Try.prog 22 #[.slice S ss.length cs] w (RetGot w ss) := by
  rcases ss with _ | ⟨s, t⟩
  · have HG : Hid (Got [] (hd0.rc []) 0 false) := Lib.hid (got_none rfl)
    have HR : Hid (RecB (w.alloc (.cells #[.int .i64 0, .string ⟨#[]⟩, .int .i64 0, .int .i64 0, .int .i64 0, .int .i64 0, .slice none 0 0] 24)) w.heap.size hd0 none 0 0) := Lib.hid (RecB.new w hd0 none 0 0)
    have HB := Lib.hid (balloc w (.cells #[.int .i64 0, .string ⟨#[]⟩, .int .i64 0, .int .i64 0, .int .i64 0, .int .i64 0, .slice none 0 0] 24))
    obtain ⟨q, hq⟩ : ∃ q, q = w.heap.size := ⟨_, rfl⟩
    have HQE := Lib.hid hq
    rw [← hq] at HR
    clear hS hc hl hb
    go_enter Try.func22, Try.ntmps22
    go_wp2_with (refine wpList_store_rec rfl _ _ rfl w.heap.size hd0 none 0 0 rfl rfl hd0 none 0 0 (by rw [← HQE.out]; exact HR.out) ?_; intro w1 hr1 hk1; have HR1 := Lib.hid hr1; have HK1 := Lib.hid hk1; clear hr1 hk1)
    exact Go.bodyPost_ret (results_rec3 rfl _ _ w.heap.size hd0 none 0 0 rfl HR1.out (.int .i64 0) (.bool false) rfl rfl) rfl ⟨hd0, [], 0, false, none, 0, rfl, Nat.le_refl _, Nat.zero_le _, BytesAt.nil _ _, fits0, HG.out, keeps_bstep HB.out HK1.out (fun k e => by omega), New.none _⟩
  · obtain ⟨b0, o0, B, d, hA, e0, hd1, hd2, hB⟩ := hS.row (i := 0) (by simp)
    subst hA
    rw [Nat.add_zero] at e0
    simp only [List.getElem_cons_zero] at e0 hd1 hB
    have hs0 : s.length ≤ 1048576 := hb 0 (by simp)
    have HRW := Lib.hid hS
    have HBL : Hid (∀ k, (hk : k < t.length) → t[k].length ≤ 1048576) := Lib.hid fun k hk => by have := hb (k + 1) (by simp; omega); simpa using this
    have HROW : Hid (∀ W, Below w.heap.size w W → ∀ k, (hk : k < t.length) → ∃ B' d', W.cell? ⟨b0, o0 + (k + 1), none⟩ = some (.slice B' t[k].length d') ∧ t[k].length ≤ d' ∧ d' ≤ maxLen ∧ BytesAt W B' t[k]) := Lib.hid fun W hW k hk => by
      obtain ⟨b1, o1, B1, d1, h1, h2, h3, h4, h5⟩ := (hS.below hW).row (i := k + 1) (by simp; omega)
      injection h1 with h1; injection h1 with h6 h7
      subst h6; subst h7
      exact ⟨B1, d1, by simpa using h2, by simpa using h3, h4, by simpa using h5⟩
    have CO := Lib.hid (fun W (A : Option Addr) (l : List UInt8) c h h1 h2 (h3 : l.length ≤ 1048576) => R15.open_new A l c W h h1 (by omega) h2)
    have CAR := Lib.hid (fun W (h : Hd) hf X (sh : List UInt8) c hS hX h1 h2 => are_any (some ⟨b0, o0, none⟩) (s :: t) cs h hf X sh c W hS hX h1 h2 hl (decide (Are (s :: t) (h.rc sh))) decide_eq_true_iff)
    have HSH : Hid (¬ (SecM.opens s = true ∧ LabM.getOk (((s.take 60).drop 2).take 17) = true) → Got (s :: t) (hd0.rc []) 0 false) := Lib.hid fun h => got_none (rd_shut s t h)
    have HRD : Hid (SecM.opens s = true → LabM.getOk (((s.take 60).drop 2).take 17) = true → (∀ sh, gath t (lenP (s.take 60)) [] = some sh → rdR (s :: t) = some ((hdP (s.take 60)).rc sh)) ∧ (gath t (lenP (s.take 60)) [] = none → Got (s :: t) (hd0.rc []) 0 false)) := Lib.hid fun h1 h2 => by
      have e := rd_head s t h1 h2
      exact ⟨fun sh h => by rw [e, h]; rfl, fun h => got_none (by rw [e, h]; rfl)⟩
    have HGR : Hid (∀ r, rdR (s :: t) = some r → (decide (Are (s :: t) r) = true → Got (s :: t) r (r.count : Nat) true) ∧ (decide (Are (s :: t) r) = false → Got (s :: t) (hd0.rc []) 0 false)) := Lib.hid fun r h => ⟨fun k => (got_rd h).1 (of_decide_eq_true k), fun k => (got_rd h).2 (of_decide_eq_false k)⟩
    have HO60 : Hid (∀ l : List UInt8, SecM.opens l = true → R15.openOf l = l.take 60 ∧ (l.take 60).length = 60) := Lib.hid fun l h => ⟨if_pos h, by rw [List.length_take, opens_64 h]; rfl⟩
    obtain ⟨ss, hss⟩ : ∃ ss, ss = s :: t := ⟨_, rfl⟩
    have HSS := Lib.hid hss
    obtain ⟨n, hn⟩ : ∃ n, n = t.length := ⟨_, rfl⟩
    have HN := Lib.hid hn
    have hlen : (s :: t).length = n + 1 := by rw [hn]; rfl
    have HLEN := Lib.hid hlen
    rw [hlen] at hc hl CAR ⊢
    rw [← hss] at HRW CAR HSH HRD HGR ⊢
    clear hS hb hlen hn hss
    obtain ⟨ob, hob⟩ : ∃ ob, ob = SecM.opens s := ⟨_, rfl⟩
    have HOB := Lib.hid hob
    have C0 := Lib.hid (fun W h => CO.out W B s d h hd1 hd2 hs0)
    rw [← hob] at C0
    obtain ⟨O, hO⟩ : ∃ O, O = R15.openOf s := ⟨_, rfl⟩
    have HOO := Lib.hid hO
    rw [← hO] at C0
    obtain ⟨sn, hsn⟩ : ∃ sn, sn = s.length := ⟨_, rfl⟩
    rw [← hsn] at e0 hd1 C0 hs0
    have HBY := Lib.hid hB
    clear hob hO hsn hB
    have HQ0 : Hid (RecB (w.alloc (.cells #[.int .i64 0, .string ⟨#[]⟩, .int .i64 0, .int .i64 0, .int .i64 0, .int .i64 0, .slice none 0 0] 24)) w.heap.size hd0 none 0 0) := Lib.hid (RecB.new w hd0 none 0 0)
    have HB0 := Lib.hid (balloc w (.cells #[.int .i64 0, .string ⟨#[]⟩, .int .i64 0, .int .i64 0, .int .i64 0, .int .i64 0, .slice none 0 0] 24))
    have E0 := e0
    clear e0
    have e0 := (HB0.out.cell (p := ⟨b0, o0, none⟩) (cell_lt E0)).trans E0
    clear E0
    obtain ⟨q, hq⟩ : ∃ q, q = w.heap.size := ⟨_, rfl⟩
    have HQE := Lib.hid hq
    rw [← hq] at HQ0
    go_enter Try.func22, Try.ntmps22
    go_wp2_with fail
    rw [← hq]
    clear hq
    generalize w.alloc (.cells #[.int .i64 0, .string ⟨#[]⟩, .int .i64 0, .int .i64 0, .int .i64 0, .int .i64 0, .slice none 0 0] 24) = W0 at *
    refine (C0.out W0 (HBY.out.below HB0.out)).mono ?_
    rintro e w1 ⟨X, dx, rfl, x1, x2, x3, hb1, hn1⟩
    have HX := Lib.hid x3
    have HNX : Hid (∀ a, X = some a → q < a.block) := Lib.hid fun a e => by have h1 := hn1 a e; have h2 := HQ0.out.lt; omega
    have HB1 := Lib.hid (bstep HB0.out hb1)
    have HQ1 := Lib.hid (HQ0.out.below hb1)
    clear C0 e0 hb1 hn1 HB0 HQ0 HBY
    cases ob
    · have HG := Lib.hid (HSH.out (fun h => by rw [← HOB.out] at h; exact absurd h.1 (by simp)))
      clear HSH HRD HGR HRW HROW CAR CO x3
      go_wp2_with (refine wpList_store_rec rfl _ _ rfl q hd0 none 0 0 rfl rfl hd0 none 0 0 HQ1.out ?_; intro wz1 hrz hkz; have HSZ := Lib.hid hrz; have HKZ := Lib.hid hkz; clear hrz hkz)
      exact Go.bodyPost_ret (results_rec3 rfl _ _ q hd0 none 0 0 rfl HSZ.out (.int .i64 0) (.bool false) rfl rfl) rfl ⟨hd0, [], 0, false, none, 0, rfl, Nat.le_refl _, Nat.zero_le _, BytesAt.nil _ _, fits0, HG.out, keeps_bstep HB1.out HKZ.out (fun k e => by have := HQE.out; omega), New.none _⟩
    · obtain ⟨ho1, ho2⟩ := HO60.out s HOB.out.symm
      have hO60 : O = s.take 60 := HOO.out.trans ho1
      rw [← hO60] at ho2
      rw [← hO60] at HSH HRD
      have HRD2 := Lib.hid (HRD.out HOB.out.symm)
      have HSH2 : Hid (LabM.getOk ((O.drop 2).take 17) = false → Got ss (hd0.rc []) 0 false) := Lib.hid fun h => HSH.out (fun k => by rw [h] at k; exact absurd k.2 (by simp))
      have HOL := Lib.hid ho2
      rw [ho2] at x1 ⊢
      obtain ⟨xb, xo, rfl, -⟩ := x3 0 (by omega)
      have HP17 : Hid (BytesAt w1 (some ⟨xb, xo + 2, none⟩) ((O.drop 2).take 17)) := Lib.hid ((x3.drop 2).take 17)
      have C1 := Lib.hid (fun hc hc2 => R07.get_any xb (xo + 2) ((O.drop 2).take 17) (dx - 2) w1 HP17.out (by rw [List.length_take, List.length_drop, ho2]; rfl) hc hc2)
      obtain ⟨st1, st2, st3, st4⟩ := states_60 O ho2
      have HFT := Lib.hid (fitsP O (by omega))
      have ev : hdP O = ⟨((O.getD 1 0).toNat : Nat), LabM.getS ((O.drop 2).take 17), (PackM.numV O ⟨19, false⟩ 4 : Nat), (PackM.numV O ⟨23, false⟩ 4 : Nat), (PackM.numV O ⟨27, false⟩ 4 : Nat), (PackM.numV O ⟨31, false⟩ 2 : Nat)⟩ := rfl
      have CN1 := Lib.hid (fun W g h => R06.rnum_any g (some ⟨xb, xo, none⟩) dx O ⟨19, false⟩ 4 W h (by omega))
      have CN2 := Lib.hid (fun W g h => R06.rnum_any g (some ⟨xb, xo, none⟩) dx O ⟨23, false⟩ 4 W h (by omega))
      have CN3 := Lib.hid (fun W g h => R06.rnum_any g (some ⟨xb, xo, none⟩) dx O ⟨27, false⟩ 4 W h (by omega))
      have CN4 := Lib.hid (fun W g h => R06.rnum_any g (some ⟨xb, xo, none⟩) dx O ⟨31, false⟩ 2 W h (by omega))
      have CN5 := Lib.hid (fun W g h => R06.rnum_any g (some ⟨xb, xo, none⟩) dx O ⟨33, false⟩ 1 W h (by omega))
      rw [st1] at CN1; rw [st2] at CN2; rw [st3] at CN3; rw [st4] at CN4
      rw [show PackM.numV O ⟨33, false⟩ 1 = lenP O from rfl] at CN5
      rw [ev] at HFT HRD2
      have hcx : ((O.drop 1).take 1).length = 1 := by rw [List.length_take, List.length_drop, ho2]; rfl
      have k1 : w1.cell? ⟨xb, xo + 1, none⟩ = some (.int .u8 ((O.getD 1 0).toNat : Nat)) := by
        obtain ⟨b', o', e, hc⟩ := x3 1 (by omega)
        injection e with e; injection e with e1 e2
        subst e1; subst e2
        rw [hc, List.getD_eq_getElem?_getD, List.getElem?_eq_getElem (by omega)]; rfl
      have hy1 := (O.getD 1 0).toNat_lt
      have hw1 : IntKind.i64.wrap (((O.getD 1 0).toNat : Nat) : Int) = ((O.getD 1 0).toNat : Nat) := IntWalk.i64_in _ (by omega)
      obtain ⟨gs, hgs⟩ : ∃ gs, gs = LabM.getS ((O.drop 2).take 17) := ⟨_, rfl⟩
      obtain ⟨gk, hgk⟩ : ∃ gk, gk = LabM.getOk ((O.drop 2).take 17) := ⟨_, rfl⟩
      rw [← hgs] at C1 HFT HRD2
      rw [← hgk] at C1 HRD2 HSH2
      clear hgs hgk ho1 hO60 ho2 st1 st2 st3 st4 ev hcx HSH HRD HP17 HOO
      obtain ⟨y1, hy⟩ : ∃ y1, y1 = (O.getD 1 0).toNat := ⟨_, rfl⟩
      rw [← hy] at k1 hw1 hy1 HFT HRD2
      clear hy
      generalize PackM.numV O ⟨19, false⟩ 4 = v1 at *
      generalize PackM.numV O ⟨23, false⟩ 4 = v2 at *
      generalize PackM.numV O ⟨27, false⟩ 4 = v3 at *
      generalize PackM.numV O ⟨31, false⟩ 2 = v4 at *
      have hln : lenP O < 256 := numV_small O ⟨33, false⟩ 1
      generalize lenP O = ln at *
      unfold maxLen at x2
      have HX2 := Lib.hid x2
      go_wp2_with fail
      refine (C1.out (by omega) (by unfold maxLen; omega)).mono ?_
      rintro e w2 ⟨rfl, rfl⟩
      cases gk
      · have HG := Lib.hid (HSH2.out rfl)
        clear HSH2 HRD2 HGR HRW HROW CAR CO x3
        go_wp2_with (refine wpList_store_rec rfl _ _ rfl q hd0 none 0 0 rfl rfl hd0 none 0 0 HQ1.out ?_; intro wz2 hrz hkz; have HSZ := Lib.hid hrz; have HKZ := Lib.hid hkz; clear hrz hkz)
        exact Go.bodyPost_ret (results_rec3 rfl _ _ q hd0 none 0 0 rfl HSZ.out (.int .i64 0) (.bool false) rfl rfl) rfl ⟨hd0, [], 0, false, none, 0, rfl, Nat.le_refl _, Nat.zero_le _, BytesAt.nil _ _, fits0, HG.out, keeps_bstep HB1.out HKZ.out (fun k e => by have := HQE.out; omega), New.none _⟩
      · obtain ⟨g1, g2⟩ := HRD2.out rfl
        have HG1 := Lib.hid g1; have HG2 := Lib.hid g2
        clear g1 g2 HRD2 HSH2 C1
        have hbR := balloc w1 (.cells #[.slice (some ⟨xb, xo, none⟩) 60 dx, .int .i64 19, .bool false] 74)
        have kk1 := (hbR.cell (p := ⟨xb, xo + 1, none⟩) (cell_lt k1)).trans k1
        have hzR : (w1.alloc (.cells #[.slice (some ⟨xb, xo, none⟩) 60 dx, .int .i64 19, .bool false] 74)).heap.size = w1.heap.size + 1 := by simp
        have HP0 : RecB ((w1.alloc (.cells #[.slice (some ⟨xb, xo, none⟩) 60 dx, .int .i64 19, .bool false] 74)).alloc (.cells #[.int .i64 0, .string ⟨#[]⟩, .int .i64 0, .int .i64 0, .int .i64 0, .int .i64 0, .slice none 0 0] 24)) (w1.alloc (.cells #[.slice (some ⟨xb, xo, none⟩) 60 dx, .int .i64 19, .bool false] 74)).heap.size hd0 none 0 0 := RecB.new _ hd0 none 0 0
        rw [hzR] at HP0
        have HP0 := Lib.hid HP0
        have hbZ := bstep hbR (balloc _ (.cells #[.int .i64 0, .string ⟨#[]⟩, .int .i64 0, .int .i64 0, .int .i64 0, .int .i64 0, .slice none 0 0] 24))
        have hrdn : R06.RAt (w1.alloc (.cells #[.slice (some ⟨xb, xo, none⟩) 60 dx, .int .i64 19, .bool false] 74)) w1.heap.size (some ⟨xb, xo, none⟩) dx O ⟨19, false⟩ :=
          ⟨by rw [HOL.out]; simp, by simp, by simp, by simp, by simp, x3.below hbR, fun h0 a e => by have := x3.lt h0 a e; omega, by show 19 ≤ O.length; have := HOL.out; omega, by have := HOL.out; omega, by have := HX2.out; unfold maxLen; omega⟩
        have HRD0 := Lib.hid (hrdn.below (balloc _ (.cells #[.int .i64 0, .string ⟨#[]⟩, .int .i64 0, .int .i64 0, .int .i64 0, .int .i64 0, .slice none 0 0] 24)))
        have HBZ := Lib.hid (bstep HB1.out hbZ)
        have HQZ := Lib.hid (HQ1.out.below hbZ)
        have HNG : Hid (q < w1.heap.size ∧ xb < w1.heap.size) := Lib.hid ⟨HQ1.out.lt, x3.lt (by have := HOL.out; omega) _ rfl⟩
        clear hbR hzR hbZ hrdn x3 k1 HX HB1 HQ1
        go_wp2_with (refine wpList_store_rec rfl _ _ rfl (w1.heap.size + 1) ⟨(y1 : Nat), gs, 0, 0, 0, 0⟩ none 0 0 rfl rfl hd0 none 0 0 HP0.out ?_; intro w3 hr3 hk3; have HR3 := Lib.hid hr3; have HK3 := Lib.hid hk3; clear hr3 hk3)
        obtain ⟨g, hg⟩ : ∃ g, g = w1.heap.size := ⟨_, rfl⟩
        obtain ⟨p, hp⟩ : ∃ p, p = w1.heap.size + 1 := ⟨_, rfl⟩
        have HGE := Lib.hid hg; have HPE := Lib.hid hp
        rw [← hg] at HRD0 HNG
        rw [← hp] at HR3 HK3
        first | rw [← hp] | skip
        first | rw [← hg] | skip
        have R1 : Hid (Rdq w w3 g p q (some ⟨xb, xo, none⟩) dx O ⟨19, false⟩ ⟨(y1 : Nat), gs, 0, 0, 0, 0⟩) := Lib.hid (by
          have h1 := HGE.out; have h2 := HPE.out; have h3 := HNG.out; have h4 := HQE.out
          exact ⟨HRD0.out.keep HK3.out (by omega) (fun _ a e => by injection e with e; subst e; simp only; omega), keeps_bstep HBZ.out HK3.out (fun k e => by have := HBZ.out.size; omega), by omega, by omega, by omega, fun a e => by injection e with e; subst e; simp only; omega, HR3.out, HQZ.out.keep HK3.out (by omega)⟩)
        clear hg hp HP0 HRD0 HBZ HQZ HR3 HK3 kk1 hw1
        refine (CN1.out _ g R1.out.rd).mono ?_
        rintro e w4 ⟨rfl, k1, k2⟩
        have R2 := Lib.hid (R1.out.grown k1 k2)
        have cc0 := R2.out.rc.c2; have ff0 := R2.out.rc.fr 2
        have R3 : Hid (Rdq w (w4.setCell ⟨p, 2, none⟩ (.int .i64 (v1 : Nat))) g p q (some ⟨xb, xo, none⟩) dx O ⟨23, false⟩ ⟨(y1 : Nat), gs, (v1 : Nat), 0, 0, 0⟩) := Lib.hid (R2.out.stored (.set (fun x => x = p) _ ⟨p, 2, none⟩ (.int .i64 (v1 : Nat)) rfl) (RecB.set R2.out.rc 2 (.int .i64 (v1 : Nat))))
        clear k1 k2 R1 CN1 R2
        go_wp2_with fail
        refine (CN2.out _ g R3.out.rd).mono ?_
        rintro e w5 ⟨rfl, k1, k2⟩
        have R4 := Lib.hid (R3.out.grown k1 k2)
        have cc1 := R4.out.rc.c3; have ff1 := R4.out.rc.fr 3
        have R5 : Hid (Rdq w (w5.setCell ⟨p, 3, none⟩ (.int .i64 (v2 : Nat))) g p q (some ⟨xb, xo, none⟩) dx O ⟨27, false⟩ ⟨(y1 : Nat), gs, (v1 : Nat), (v2 : Nat), 0, 0⟩) := Lib.hid (R4.out.stored (.set (fun x => x = p) _ ⟨p, 3, none⟩ (.int .i64 (v2 : Nat)) rfl) (RecB.set R4.out.rc 3 (.int .i64 (v2 : Nat))))
        clear k1 k2 R3 CN2 R4
        clear cc0 ff0
        go_wp2_with fail
        refine (CN3.out _ g R5.out.rd).mono ?_
        rintro e w6 ⟨rfl, k1, k2⟩
        have R6 := Lib.hid (R5.out.grown k1 k2)
        have cc2 := R6.out.rc.c4; have ff2 := R6.out.rc.fr 4
        have R7 : Hid (Rdq w (w6.setCell ⟨p, 4, none⟩ (.int .i64 (v3 : Nat))) g p q (some ⟨xb, xo, none⟩) dx O ⟨31, false⟩ ⟨(y1 : Nat), gs, (v1 : Nat), (v2 : Nat), (v3 : Nat), 0⟩) := Lib.hid (R6.out.stored (.set (fun x => x = p) _ ⟨p, 4, none⟩ (.int .i64 (v3 : Nat)) rfl) (RecB.set R6.out.rc 4 (.int .i64 (v3 : Nat))))
        clear k1 k2 R5 CN3 R6
        clear cc1 ff1
        go_wp2_with fail
        refine (CN4.out _ g R7.out.rd).mono ?_
        rintro e w7 ⟨rfl, k1, k2⟩
        have R8 := Lib.hid (R7.out.grown k1 k2)
        have cc3 := R8.out.rc.c5; have ff3 := R8.out.rc.fr 5
        have R9 : Hid (Rdq w (w7.setCell ⟨p, 5, none⟩ (.int .i64 (v4 : Nat))) g p q (some ⟨xb, xo, none⟩) dx O ⟨33, false⟩ ⟨(y1 : Nat), gs, (v1 : Nat), (v2 : Nat), (v3 : Nat), (v4 : Nat)⟩) := Lib.hid (R8.out.stored (.set (fun x => x = p) _ ⟨p, 5, none⟩ (.int .i64 (v4 : Nat)) rfl) (RecB.set R8.out.rc 5 (.int .i64 (v4 : Nat))))
        clear k1 k2 R7 CN4 R8
        clear cc2 ff2
        go_wp2_with fail
        refine (CN5.out _ g R9.out.rd).mono ?_
        rintro e wL ⟨rfl, k1, k2⟩
        have RL := Lib.hid (R9.out.grown k1 k2)
        clear k1 k2 R9 CN5 cc3 ff3
        obtain ⟨hD, hhD⟩ : ∃ hD : Hd, hD = ⟨(y1 : Nat), gs, (v1 : Nat), (v2 : Nat), (v3 : Nat), (v4 : Nat)⟩ := ⟨_, rfl⟩
        have HD := Lib.hid hhD
        rw [← hhD] at RL HFT HG1
        clear hhD
        go_wp2
        obtain ⟨GG, hGG⟩ : ∃ GG, GG = gath t ln [] := ⟨_, rfl⟩
        rw [← hGG] at HG1 HG2
        have HGG := Lib.hid hGG
        have HPG : Hid (w.heap.size ≤ p ∧ p < wL.heap.size ∧ q < p) := Lib.hid ⟨by have h1 := RL.out.first; have h2 := RL.out.qg; have h3 := RL.out.gp; omega, RL.out.rc.lt, by have h2 := RL.out.qg; have h3 := RL.out.gp; omega⟩
        clear hGG
        go_loopw [12] (fun i wr => ∃ (k : Nat) (sh : List UInt8) (X : Option Addr) (c : Nat), k ≤ n ∧ i = .int .i64 ((k : Int) + 1) ∧ gath (t.drop k) ln sh = GG ∧ sh.length ≤ 1000 ∧ IL w wL wr q p hD sh X c)
          (fun i _ => n + 1 - (intOf i).toNat)
        case atStart => exact ⟨0, [], none, 0, Nat.zero_le _, rfl, by rw [List.drop_zero]; exact HGG.out.symm, by simp, ⟨RL.out.below, Nat.le_refl _, RL.out.rc, RL.out.rs, Own.nil _ _⟩⟩
        case round =>
          obtain ⟨k, sh, X, c, hk, rfl, hgath, hshl, hil⟩ := hrel
          rename World => wr
          have IL0 := Lib.hid hil
          have HGT := Lib.hid hgath
          obtain ⟨c0, c1, c2, c3, c4, c5, c6⟩ := hil.rc.all
          clear hgath hil RL
          have hpg := HPG.out
          by_cases hgo : k < n ∧ sh.length < ln
          · obtain ⟨hkn, hsl⟩ := hgo
            have hkt : k < t.length := by rw [← HN.out]; exact hkn
            obtain ⟨B', d', e1, r1, r2, r3⟩ := HROW.out wr IL0.out.below k hkt
            have hlk := HBL.out k hkt
            have HDR : Hid (t.drop k = t[k] :: t.drop (k + 1)) := Lib.hid (List.drop_eq_getElem_cons hkt)
            obtain ⟨l, hl'⟩ : ∃ l, l = t[k] := ⟨_, rfl⟩
            rw [← hl'] at e1 r1 r3 hlk HDR
            clear hl'
            have HGK : Hid (gath (l :: t.drop (k + 1)) ln sh = GG) := Lib.hid (by rw [← HDR.out]; exact HGT.out)
            have HSHUT : Hid (SecM.opens l = false → GG = none) := Lib.hid fun h => by rw [← HGK.out]; exact gath_shut l _ ln sh hsl h
            have HLONG : Hid (48 < (l.getD 11 0).toNat → GG = none) := Lib.hid fun h => by rw [← HGK.out]; exact gath_long l _ ln sh hsl h
            have HNONE : Hid ((l.getD 11 0).toNat = 0 → GG = none) := Lib.hid fun h => by rw [← HGK.out]; exact gath_none l _ ln sh hsl h
            have HGO : Hid (SecM.opens l = true → (l.getD 11 0).toNat ≤ 48 → (l.getD 11 0).toNat ≠ 0 → gath (t.drop (k + 1)) ln (sh ++ (l.drop 12).take (l.getD 11 0).toNat) = GG) := Lib.hid fun h1 h2 h3 => by rw [← HGK.out]; exact (gath_go l _ ln sh hsl h1 h2 h3).symm
            have C := Lib.hid (CO.out wr B' l d' r3 r1 r2 hlk)
            have H60 := Lib.hid (HO60.out l)
            obtain ⟨ol, hol⟩ : ∃ ol, ol = SecM.opens l := ⟨_, rfl⟩
            obtain ⟨O', hO'⟩ : ∃ O', O' = R15.openOf l := ⟨_, rfl⟩
            have HOP := Lib.hid hO'
            rw [← hol] at C HSHUT HGO H60
            rw [← hO'] at C
            obtain ⟨m, hm⟩ : ∃ m, m = l.length := ⟨_, rfl⟩
            rw [← hm] at C e1
            clear hol hO' hm HGK HGT r1 r2 r3 hlk HDR
            have i1 : (k : Int) + 1 < (n : Int) + 1 := by omega
            have i2 : ((k : Int) + 1).toNat = k + 1 := by omega
            have i3 : (sh.length : Int) < (ln : Nat) := by omega
            go_wp2_with fail
            refine C.out.mono ?_
            rintro e w5 ⟨X5, d5, rfl, y1', y2', y3', hb5, hn5⟩
            have IL5 := Lib.hid (IL0.out.step hb5)
            clear C e1 c0 c1 c2 c3 c4 c5 c6
            cases ol
            · have HGz := Lib.hid (HG2.out (HSHUT.out rfl))
              have HQL := Lib.hid IL5.out.rs; have HBLo := Lib.hid IL5.out.below
              go_wp2_with (refine wpList_store_rec rfl _ _ rfl q hd0 none 0 0 rfl rfl hd0 none 0 0 HQL.out ?_; intro wz3 hrz hkz; have HSZ := Lib.hid hrz; have HKZ := Lib.hid hkz; clear hrz hkz; refine Stop.out ?_)
              refine ⟨?_⟩
              refine wpList_assign' rfl _ rfl ?_
              refine wpList_assign' rfl _ rfl ?_
              refine wpList_nil ?_
              rename_i hret
              refine hret _ _ (wp_ret ?_)
              exact Go.bodyPost_ret (results_rec3 rfl _ _ q hd0 none 0 0 rfl HSZ.out (.int .i64 0) (.bool false) rfl rfl) rfl ⟨hd0, [], 0, false, none, 0, rfl, Nat.le_refl _, Nat.zero_le _, BytesAt.nil _ _, fits0, HGz.out, keeps_bstep HBLo.out HKZ.out (fun k e => by have := HQE.out; omega), New.none _⟩
            · obtain ⟨ho1, ho2⟩ := H60.out rfl
              have hO2 : O' = l.take 60 := HOP.out.trans ho1
              rw [← hO2] at ho2
              rw [ho2] at y1' ⊢
              obtain ⟨x5b, x5o, rfl, -⟩ := y3' 0 (by omega)
              have hy11 : O'.getD 11 0 = l.getD 11 0 := by rw [hO2]; exact take60_at l 11 (by omega)
              have k11 : w5.cell? ⟨x5b, x5o + 11, none⟩ = some (.int .u8 ((l.getD 11 0).toNat : Nat)) := by
                obtain ⟨b', o', e, hc⟩ := y3' 11 (by omega)
                injection e with e; injection e with e1 e2
                subst e1; subst e2
                rw [hc, ← hy11, List.getD_eq_getElem?_getD, List.getElem?_eq_getElem (by omega)]; rfl
              have HPC : Hid (BytesAt w5 (some ⟨x5b, x5o + 12, none⟩) ((O'.drop 12).take (l.getD 11 0).toNat)) := Lib.hid ((y3'.drop 12).take _)
              have HPE : Hid ((l.getD 11 0).toNat ≤ 48 → (O'.drop 12).take (l.getD 11 0).toNat = (l.drop 12).take (l.getD 11 0).toNat ∧ ((O'.drop 12).take (l.getD 11 0).toNat).length = (l.getD 11 0).toNat) := Lib.hid fun h => ⟨by rw [hO2]; exact take60_part l 12 _ (by omega), by rw [List.length_take, List.length_drop, ho2]; omega⟩
              have HX5 : Hid (wr.heap.size ≤ x5b) := Lib.hid (hn5 _ rfl)
              have hyl := (l.getD 11 0).toNat_lt
              clear ho1 hO2 ho2 hy11 y3' hn5 H60 HOP
              obtain ⟨pc, hpc⟩ : ∃ pc, pc = (O'.drop 12).take (l.getD 11 0).toNat := ⟨_, rfl⟩
              obtain ⟨pl, hpl⟩ : ∃ pl, pl = (l.drop 12).take (l.getD 11 0).toNat := ⟨_, rfl⟩
              rw [← hpc, ← hpl] at HPE
              rw [← hpc] at HPC
              rw [← hpl] at HGO
              clear hpc hpl
              obtain ⟨y, hyy⟩ : ∃ y, y = (l.getD 11 0).toNat := ⟨_, rfl⟩
              rw [← hyy] at k11 HPE HGO HNONE HLONG hyl
              clear hyy
              unfold maxLen at y2'
              by_cases hy : (y : Int) > 48
              · have HGz := Lib.hid (HG2.out (HLONG.out (by omega)))
                have HQL := Lib.hid IL5.out.rs; have HBLo := Lib.hid IL5.out.below
                go_wp2_with (refine wpList_store_rec rfl _ _ rfl q hd0 none 0 0 rfl rfl hd0 none 0 0 HQL.out ?_; intro wz4 hrz hkz; have HSZ := Lib.hid hrz; have HKZ := Lib.hid hkz; clear hrz hkz; refine Stop.out ?_)
                refine ⟨?_⟩
                refine wpList_assign' rfl _ rfl ?_
                refine wpList_assign' rfl _ rfl ?_
                refine wpList_nil ?_
                rename_i hret
                refine hret _ _ (wp_ret ?_)
                exact Go.bodyPost_ret (results_rec3 rfl _ _ q hd0 none 0 0 rfl HSZ.out (.int .i64 0) (.bool false) rfl rfl) rfl ⟨hd0, [], 0, false, none, 0, rfl, Nat.le_refl _, Nat.zero_le _, BytesAt.nil _ _, fits0, HGz.out, keeps_bstep HBLo.out HKZ.out (fun k e => by have := HQE.out; omega), New.none _⟩
              · obtain ⟨pe1, pe2⟩ := HPE.out (by omega)
                have HGO2 : Hid (y ≠ 0 → gath (t.drop (k + 1)) ln (sh ++ pc) = GG) := Lib.hid fun h => by rw [pe1]; exact HGO.out rfl (by omega) h
                have HPL : Hid (pc.length = y) := Lib.hid pe2
                clear pe1 pe2 HGO HPE HSHUT HLONG
                obtain ⟨c0, c1, c2, c3, c4, c5, c6⟩ := IL5.out.rc.all
                have hyw : IntKind.i64.wrap (y : Int) = y := IntWalk.i64_in _ (by omega)
                have hy12 : IntKind.i64.wrap (12 + (y : Int)) = 12 + (y : Int) := IntWalk.i64_in _ (by omega)
                have hyt : (12 + (y : Int)).toNat = 12 + y := by omega
                have hshl2 : sh.length ≤ 100000000 := by omega
                have HSL2 := Lib.hid hshl2
                have HBS : Hid (wL.heap.size ≤ w5.heap.size) := Lib.hid IL5.out.size
                have hpl : p < wL.heap.size := hpg.2.1
                go_wp2_with fail
                obtain ⟨wd, hwd⟩ : ∃ wd, wd = w5.drew := ⟨_, rfl⟩
                have hownd : Own wd wL.heap.size (.slice X sh.length c) sh := by rw [hwd]; exact IL5.out.own
                have hpcd : BytesAt wd (some ⟨x5b, x5o + 12, none⟩) pc := by rw [hwd]; exact HPC.out
                obtain ⟨v1, w6, hrun, happ⟩ := run_append_bytes_at wd 22 wL.heap.size (.slice X sh.length c) sh pc hownd (some ⟨x5b, x5o + 12, none⟩) (d5 - 12) hpcd (by rw [HPL.out]; omega) (by rw [hwd]; exact HBS.out)
                rw [hwd] at happ
                obtain ⟨X', c', hv1, hil, hc6, hf6, hset, hk6⟩ := IL5.out.next hpg.2.2 hpl hpg.1 happ
                have hne : (Value.slice X sh.length c).ownBlock ≠ some x5b := fun e => by have h1 := (IL0.out.own.lt _ e).2; have h2 := HX5.out; omega
                have hxp : x5b ≠ p := by have h2 := HX5.out; have h3 := IL0.out.size; omega
                have HRUN : Hid ((Builtin.append_ #[22, 22] 22 #[.slice X sh.length c, .slice (some ⟨x5b, x5o + 12, none⟩) y (d5 - 12)]).run Try.prog wd = .ok v1 w6) := Lib.hid (by rw [← HPL.out]; exact hrun)
                have HC6 : Hid (∀ w, w = wd ∨ w = w6 → w.cell? ⟨p, 6, none⟩ = some (.slice X sh.length c)) := Lib.hid fun w h => by
                  rcases h with rfl | rfl
                  · rw [hwd]; exact c6
                  · exact hc6
                have HK11 : Hid (∀ w, w = wd ∨ w = w6 → w.cell? ⟨x5b, x5o + 11, none⟩ = some (.int .u8 (y : Nat))) := Lib.hid fun w h => by
                  rcases h with rfl | rfl
                  · rw [hwd]; exact k11
                  · exact hk6 _ _ _ k11 hne
                have HIL := Lib.hid hil
                have HF6 := Lib.hid hf6
                have HKS := Lib.hid (hset _ _ _ k11 hxp hne)
                have HV1 := Lib.hid hv1
                have HWD := Lib.hid hwd
                have hd12 : ¬ d5 = 12 := by omega
                have gy0 : (0 : Int) ≤ 12 + (y : Int) := by omega
                have gy1 : 12 + (y : Int) ≤ (d5 : Nat) := by omega
                have gy2 : (12 : Int) ≤ 12 + (y : Int) := by omega
                clear hownd hpcd hrun happ hil hc6 hf6 hset hk6 hne hxp hv1 hwd c0 c1 c2 c3 c4 c5 c6 k11
                refine Drawn.wp_region_knownT 11 [.pointer (some ⟨p, 6, none⟩), .slice X sh.length c, .slice (some ⟨x5b, x5o, none⟩) 60 d5, .slice (some ⟨x5b, x5o, none⟩) 60 d5, .pointer (some ⟨x5b, x5o + 11, none⟩), .int .u8 (y : Nat), .int .i64 (y : Nat), .int .i64 (12 + (y : Int)), .slice (some ⟨x5b, x5o + 12, none⟩) y (d5 - 12), v1, .pointer (some ⟨p, 6, none⟩)] (Apd wd w6) (by kernel_rfl) (by kernel_rfl) ?_ ?_ ?_
                · exact fun f hf => ⟨fun _ => HWD.out.symm, fun k => by rw [hf 9 (by omega)] at k; cases k⟩
                · intro i hi f a w7 hf hI hev hdep
                  rcases (show i = 0 ∨ i = 1 ∨ i = 2 ∨ i = 3 ∨ i = 4 ∨ i = 5 ∨ i = 6 ∨ i = 7 ∨ i = 8 ∨ i = 9 ∨ i = 10 by omega) with rfl | rfl | rfl | rfl | rfl | rfl | rfl | rfl | rfl | rfl | rfl
                  · have e10 : a.tmps[10]?.getD undef = .pointer (some ⟨p, 0, none⟩) := hev 10 rfl
                    refine Drawn.wpOp_known (Apd wd w6 (Drawn.upd f 0)) (v := .pointer (some ⟨p, 6, none⟩)) 91 rfl rfl rfl ?_
                    have HK := Lib.hid (hI.skip 0 rfl)
                    clear hev hdep hI hf
                    go_simp
                    first | exact HK.out | exact ⟨rfl, HK.out⟩
                  · have d0 : a.tmps[91]?.getD undef = .pointer (some ⟨p, 6, none⟩) := (hdep 0 rfl).2
                    refine Drawn.wpOp_known (Apd wd w6 (Drawn.upd f 1)) (v := .slice X sh.length c) 92 rfl rfl rfl ?_
                    have k1 := HC6.out w7 hI.or; have k2 := HK11.out w7 hI.or
                    have HK := Lib.hid (hI.skip 1 rfl)
                    clear hev hdep hI hf
                    go_simp
                    first | exact HK.out | exact ⟨rfl, HK.out⟩
                  · have e13 : a.tmps[13]?.getD undef = .slice (some ⟨x5b, x5o, none⟩) 60 d5 := hev 13 rfl
                    refine Drawn.wpOp_known (Apd wd w6 (Drawn.upd f 2)) (v := .slice (some ⟨x5b, x5o, none⟩) 60 d5) 93 rfl rfl rfl ?_
                    have HK := Lib.hid (hI.skip 2 rfl)
                    clear hev hdep hI hf
                    go_simp
                    first | exact HK.out | exact ⟨rfl, HK.out⟩
                  · have e13 : a.tmps[13]?.getD undef = .slice (some ⟨x5b, x5o, none⟩) 60 d5 := hev 13 rfl
                    refine Drawn.wpOp_known (Apd wd w6 (Drawn.upd f 3)) (v := .slice (some ⟨x5b, x5o, none⟩) 60 d5) 94 rfl rfl rfl ?_
                    have HK := Lib.hid (hI.skip 3 rfl)
                    clear hev hdep hI hf
                    go_simp
                    first | exact HK.out | exact ⟨rfl, HK.out⟩
                  · have d3 : a.tmps[94]?.getD undef = .slice (some ⟨x5b, x5o, none⟩) 60 d5 := (hdep 3 rfl).2
                    refine Drawn.wpOp_known (Apd wd w6 (Drawn.upd f 4)) (v := .pointer (some ⟨x5b, x5o + 11, none⟩)) 95 rfl rfl rfl ?_
                    have HK := Lib.hid (hI.skip 4 rfl)
                    clear hev hdep hI hf
                    go_simp
                    first | exact HK.out | exact ⟨rfl, HK.out⟩
                  · have d4 : a.tmps[95]?.getD undef = .pointer (some ⟨x5b, x5o + 11, none⟩) := (hdep 4 rfl).2
                    refine Drawn.wpOp_known (Apd wd w6 (Drawn.upd f 5)) (v := .int .u8 (y : Nat)) 96 rfl rfl rfl ?_
                    have k1 := HC6.out w7 hI.or; have k2 := HK11.out w7 hI.or
                    have HK := Lib.hid (hI.skip 5 rfl)
                    clear hev hdep hI hf
                    go_simp
                    first | exact HK.out | exact ⟨rfl, HK.out⟩
                  · have d5 : a.tmps[96]?.getD undef = .int .u8 (y : Nat) := (hdep 5 rfl).2
                    refine Drawn.wpOp_known (Apd wd w6 (Drawn.upd f 6)) (v := .int .i64 (y : Nat)) 97 rfl rfl rfl ?_
                    have HK := Lib.hid (hI.skip 6 rfl)
                    clear hev hdep hI hf
                    go_simp
                    first | exact HK.out | exact ⟨rfl, HK.out⟩
                  · have d6 : a.tmps[97]?.getD undef = .int .i64 (y : Nat) := (hdep 6 rfl).2
                    refine Drawn.wpOp_known (Apd wd w6 (Drawn.upd f 7)) (v := .int .i64 (12 + (y : Int))) 98 rfl rfl rfl ?_
                    have HK := Lib.hid (hI.skip 7 rfl)
                    clear hev hdep hI hf
                    go_simp
                    first | exact HK.out | exact ⟨rfl, HK.out⟩
                  · have d2 : a.tmps[93]?.getD undef = .slice (some ⟨x5b, x5o, none⟩) 60 d5 := (hdep 2 rfl).2
                    have d7 : a.tmps[98]?.getD undef = .int .i64 (12 + (y : Int)) := (hdep 7 rfl).2
                    refine Drawn.wpOp_known (Apd wd w6 (Drawn.upd f 8)) (v := .slice (some ⟨x5b, x5o + 12, none⟩) y (d5 - 12)) 99 rfl rfl rfl ?_
                    have HK := Lib.hid (hI.skip 8 rfl)
                    clear hev hdep hI hf
                    go_simp
                    first | exact HK.out | exact ⟨rfl, HK.out⟩
                  · have d1 : a.tmps[92]?.getD undef = .slice X sh.length c := (hdep 1 rfl).2
                    have d8 : a.tmps[99]?.getD undef = .slice (some ⟨x5b, x5o + 12, none⟩) y (d5 - 12) := (hdep 8 rfl).2
                    obtain rfl := hI.no hf
                    refine Drawn.wpOp_known (Apd w7 w6 (Drawn.upd f 9)) (v := v1) 100 rfl rfl rfl ?_
                    exact wp_append_run (.tmp 92) (.tmp 99) rfl _ _ (by rw [Drawn.eval_tmp]; exact d1) (by rw [Drawn.eval_tmp]; exact d8) v1 w6 HRUN.out ⟨rfl, Apd.done _ _ _⟩
                  · have e10 : a.tmps[10]?.getD undef = .pointer (some ⟨p, 0, none⟩) := hev 10 rfl
                    refine Drawn.wpOp_known (Apd wd w6 (Drawn.upd f 10)) (v := .pointer (some ⟨p, 6, none⟩)) 101 rfl rfl rfl ?_
                    have HK := Lib.hid (hI.skip 10 rfl)
                    clear hev hdep hI hf
                    go_simp
                    first | exact HK.out | exact ⟨rfl, HK.out⟩
                · intro f w7 hf hI
                  obtain rfl := hI.yes (hf 9 (by omega))
                  clear hI hf HRUN
                  have k1 := HC6.out w7 (.inr rfl)
                  have f1 := HF6.out
                  have k2 := HKS.out
                  clear HC6 HK11 HF6 HKS
                  show wpList _ _ _ _ (Drawn.acts _ [(101, some (.pointer (some ⟨p, 6, none⟩))), (100, some (v1)), (99, some (.slice (some ⟨x5b, x5o + 12, none⟩) y (d5 - 12))), (98, some (.int .i64 (12 + (y : Int)))), (97, some (.int .i64 (y : Nat))), (96, some (.int .u8 (y : Nat))), (95, some (.pointer (some ⟨x5b, x5o + 11, none⟩))), (94, some (.slice (some ⟨x5b, x5o, none⟩) 60 d5)), (93, some (.slice (some ⟨x5b, x5o, none⟩) 60 d5)), (92, some (.slice X sh.length c)), (91, some (.pointer (some ⟨p, 6, none⟩)))]) _
                  simp only [Drawn.acts, List.drop_succ_cons, List.drop_zero]
                  go_simp
                  have hvv := HV1.out
                  obtain ⟨nn, hnn⟩ : ∃ nn, nn = (sh ++ pc).length := ⟨_, rfl⟩
                  have HNN2 := Lib.hid hnn
                  rw [← hnn] at hvv
                  clear hnn
                  subst hvv
                  by_cases hy0 : y = 0
                  · have HGz := Lib.hid (HG2.out (HNONE.out hy0))
                    have HQL := Lib.hid HIL.out.rs; have HBLo := Lib.hid HIL.out.below
                    subst hy0
                    go_wp2_with (refine wpList_store_rec rfl _ _ rfl q hd0 none 0 0 rfl rfl hd0 none 0 0 HQL.out ?_; intro wz6 hrz hkz; have HSZ := Lib.hid hrz; have HKZ := Lib.hid hkz; clear hrz hkz; refine Stop.out ?_)
                    refine ⟨?_⟩
                    refine wpList_assign' rfl _ rfl ?_
                    refine wpList_assign' rfl _ rfl ?_
                    refine wpList_nil ?_
                    rename_i hret
                    refine hret _ _ (wp_ret ?_)
                    exact Go.bodyPost_ret (results_rec3 rfl _ _ q hd0 none 0 0 rfl HSZ.out (.int .i64 0) (.bool false) rfl rfl) rfl ⟨hd0, [], 0, false, none, 0, rfl, Nat.le_refl _, Nat.zero_le _, BytesAt.nil _ _, fits0, HGz.out, keeps_bstep HBLo.out HKZ.out (fun k e => by have := HQE.out; omega), New.none _⟩
                  · have hy1 : ¬ (y : Int) = 0 := by omega
                    have HGG2 := Lib.hid (HGO2.out hy0)
                    go_wp2
                    go_roundw
                    case rel => exact ⟨k + 1, sh ++ pc, X', c', by omega, by go_num, HGG2.out, by rw [List.length_append, HPL.out]; omega, HIL.out⟩
                    case measure => simp [intOf] <;> omega
          · have hG : GG = some sh := by
              rw [← HGT.out]
              by_cases hkn : k < n
              · exact gath_full _ _ _ (fun h => hgo ⟨hkn, h⟩)
              · rw [List.drop_of_length_le (by rw [← HN.out]; omega)]; exact gath_nil _ _
            obtain ⟨g1, g2⟩ := HGR.out _ (HG1.out sh hG)
            have HY1 := Lib.hid g1; have HY2 := Lib.hid g2
            obtain ⟨X', c', hv, z1, z2, z3, z4⟩ := IL0.out.own.new
            injection hv with v1 _ v3
            subst v1; subst v3
            have C := Lib.hid (CAR.out wr hD HFT.out X sh c (HRW.out.below IL0.out.below) z3 z1 z2)
            have HZ3 := Lib.hid z3
            have HXQ : Hid (∀ a, X = some a → q < a.block) := Lib.hid fun a e => by have h1 := z4 a e; have h2 := hpg.2.1; have h3 := hpg.2.2; omega
            have HNW : Hid (New w X) := Lib.hid fun a e => by have h1 := z4 a e; have h2 := hpg.1; have h3 := hpg.2.1; omega
            have HCT : Hid (∀ W, Calls Try.prog 21 #[.agg #[.int .i64 hD.K, .string hD.s, .int .i64 hD.A, .int .i64 hD.E, .int .i64 hD.M, .int .i64 hD.S, .slice X sh.length c]] W fun e w' => e = .returned (.int .i64 ((hD.rc sh).count : Nat)) ∧ Below W.heap.size W w') := Lib.hid fun W => count_any hD X sh.length c (by omega) W
            clear g1 g2 z3 z4 HRW CAR HGR HROW HBL HG1 HG2
            obtain ⟨shn, hshn⟩ : ∃ shn, shn = sh.length := ⟨_, rfl⟩
            have HSN := Lib.hid hshn
            rw [← hshn] at C c6 z1 HCT hgo
            have IL1 : Hid (RecB wr p hD X shn c) := Lib.hid (by rw [hshn]; exact IL0.out.rc)
            clear hshn
            generalize decide (Are ss (hD.rc sh)) = av at *
            generalize ((hD.rc sh).count : Nat) = cn at *
            have HEX : Hid ((¬ (k : Int) + 1 < (n : Int) + 1) ∨ ((k : Int) + 1 < (n : Int) + 1 ∧ ¬ (shn : Int) < (ln : Nat))) := Lib.hid (by omega)
            clear hgo
            rcases HEX.out with i1 | ⟨i1, i3⟩
            all_goals (
              go_wp2_with fail
              refine C.out.mono ?_
              rintro e w5 ⟨rfl, hb5⟩
              have IL5 := Lib.hid (IL1.out.below hb5)
              have HQL := Lib.hid (IL0.out.rs.below hb5)
              have HBLo := Lib.hid (bstep IL0.out.below hb5)
              have HZ5 := Lib.hid (HZ3.out.below hb5)
              clear hb5 C c0 c1 c2 c3 c4 c5 c6
              cases av
              · have HGz := Lib.hid (HY2.out rfl)
                go_wp2_with (refine wpList_store_rec rfl _ _ rfl q hd0 none 0 0 rfl rfl hd0 none 0 0 HQL.out ?_; intro wz5 hrz hkz; have HSZ := Lib.hid hrz; have HKZ := Lib.hid hkz; clear hrz hkz; refine Stop.out ?_)
                refine ⟨?_⟩
                refine wpList_assign' rfl _ rfl ?_
                refine wpList_assign' rfl _ rfl ?_
                refine wpList_nil ?_
                rename_i hret
                refine hret _ _ (wp_ret ?_)
                exact Go.bodyPost_ret (results_rec3 rfl _ _ q hd0 none 0 0 rfl HSZ.out (.int .i64 0) (.bool false) rfl rfl) rfl ⟨hd0, [], 0, false, none, 0, rfl, Nat.le_refl _, Nat.zero_le _, BytesAt.nil _ _, fits0, HGz.out, keeps_bstep HBLo.out HKZ.out (fun k e => by have := HQE.out; omega), New.none _⟩
              · have HGy := Lib.hid (HY1.out rfl)
                obtain ⟨c0, c1, c2, c3, c4, c5, c6⟩ := IL5.out.all
                go_wp2_with fail
                clear c0 c1 c2 c3 c4 c5 c6
                refine Drawn.wp_region_flowT 3 [Drawn.SP.is (.agg #[.int .i64 hD.K, .string hD.s, .int .i64 hD.A, .int .i64 hD.E, .int .i64 hD.M, .int .i64 hD.S, .slice X shn c]), Drawn.SP.is (.agg #[.int .i64 hD.K, .string hD.s, .int .i64 hD.A, .int .i64 hD.E, .int .i64 hD.M, .int .i64 hD.S, .slice X shn c]), Drawn.SP.is (.int .i64 (cn : Nat))] (by kernel_rfl) (by kernel_rfl) ?_ ?_
                · intro i hi a w3 hb hev hdep
                  rcases (show i = 0 ∨ i = 1 ∨ i = 2 by omega) with rfl | rfl | rfl
                  · have e10 : a.tmps[10]?.getD undef = .pointer (some ⟨p, 0, none⟩) := hev 10 rfl
                    refine Drawn.wpOp_flow 112 rfl rfl rfl ?_
                    obtain ⟨c0, c1, c2, c3, c4, c5, c6⟩ := (IL5.out.below hb).all
                    clear hev hdep hb
                    go_simp
                    exact ⟨_, rfl, rfl, Below.refl _ _⟩
                  · have e10 : a.tmps[10]?.getD undef = .pointer (some ⟨p, 0, none⟩) := hev 10 rfl
                    refine Drawn.wpOp_flow 113 rfl rfl rfl ?_
                    obtain ⟨c0, c1, c2, c3, c4, c5, c6⟩ := (IL5.out.below hb).all
                    clear hev hdep hb
                    go_simp
                    exact ⟨_, rfl, rfl, Below.refl _ _⟩
                  · have d1 : a.tmps[113]?.getD undef = .agg #[.int .i64 hD.K, .string hD.s, .int .i64 hD.A, .int .i64 hD.E, .int .i64 hD.M, .int .i64 hD.S, .slice X shn c] := hdep 1 rfl
                    refine Drawn.wpOp_flow 114 rfl rfl rfl ?_
                    clear hev hdep
                    have C := HCT.out w3
                    clear hb
                    go_simp
                    refine C.mono ?_
                    rintro e w' ⟨rfl, hb'⟩
                    exact ⟨_, rfl, rfl, hb'⟩
                · intro xq w3 hb hxq
                  have vq0 : xq 0 = .agg #[.int .i64 hD.K, .string hD.s, .int .i64 hD.A, .int .i64 hD.E, .int .i64 hD.M, .int .i64 hD.S, .slice X shn c] := hxq 0 (by omega)
                  have vq1 : xq 1 = .agg #[.int .i64 hD.K, .string hD.s, .int .i64 hD.A, .int .i64 hD.E, .int .i64 hD.M, .int .i64 hD.S, .slice X shn c] := hxq 1 (by omega)
                  have vq2 : xq 2 = .int .i64 (cn : Nat) := hxq 2 (by omega)
                  show wpList _ _ _ _ (Drawn.acts _ [(114, some (xq 2)), (113, some (xq 1)), (112, some (xq 0))]) _
                  rw [vq0, vq1, vq2]
                  clear hxq vq0 vq1 vq2
                  clear xq
                  simp only [Drawn.acts, List.drop_succ_cons, List.drop_zero]
                  go_simp
                  refine wpList_store_rec rfl _ _ rfl q hD X shn c rfl rfl hd0 none 0 0 (HQL.out.below hb) ?_
                  intro w7 hr7 hk7
                  have HS7 := Lib.hid hr7; have HK7 := Lib.hid hk7
                  clear hr7 hk7
                  refine wpList_assign' rfl _ rfl ?_
                  refine wpList_assign' rfl _ rfl ?_
                  refine wpList_nil ?_
                  have hx7 := HK7.out.bytes (HZ5.out.below hb) (fun a e h => by have h1 := HXQ.out a e; omega)
                  rename_i hret
                  refine hret _ _ (wp_ret ?_)
                  exact Go.bodyPost_ret (results_rec3 rfl _ _ q hD X shn c rfl HS7.out (.int .i64 (cn : Nat)) (.bool true) rfl rfl) rfl ⟨hD, sh, _, true, X, c, by rw [HSN.out], by rw [← HSN.out]; exact z1, z2, hx7, HFT.out, HGy.out, keeps_bstep (bstep HBLo.out hb) HK7.out (fun k e => by have := HQE.out; omega), HNW.out⟩)
end Go.Proofs.Ytnjghhkebcojnaa.R20
