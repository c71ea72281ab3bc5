/- the walk of DiskPower -/
import Derived.Test.YtapgpibindhlfaaGreatLaw16
set_option maxRecDepth 100000
namespace Go.Proofs.YtapgpibindhlfaaGreat.Law16
open Go.RowKit DiskM Disk

/-- the disk's power behind N sectors -/
def after (P N : Nat) (left : Int) (dead : Bool) : Prop := (N ≤ P ∧ left = (P : Int) - N ∧ dead = false) ∨ (P < N ∧ left = 0 ∧ dead = true)
theorem after_write {P N : Nat} {left : Int} {dead : Bool} (h : after P N left dead) (B : List UInt8) (hB : B.length = 384) (i : Int) (d : List UInt8) (hi : 0 ≤ i ∧ i < 6) (hd : okD d = true) :
    ∃ B' left' dead', Dk.write ⟨B, left, dead⟩ i d = (⟨B', left', dead'⟩, decide (N < P)) ∧ after P (N + 1) left' dead' ∧ B'.length = 384 ∧ (N < P → Dk.write ⟨B, -1, false⟩ i d = (⟨B', -1, false⟩, true)) ∧ (¬ N < P → B' = B) := by
  have hs : isS B i = true := decide_eq_true (by omega)
  have hm : Dk.write ⟨B, -1, false⟩ i d = (⟨setS B i.toNat (full d), -1, false⟩, true) := by
    have ho : Dk.off ⟨B, -1, false⟩ = false := rfl
    unfold Dk.write Dk.may
    simp only [hs, hd, ho]
    rfl
  have hfl := full_len d hd
  have hsl := setS_len B i.toNat (full d) (by omega) hfl
  rcases h with ⟨h1, h2, h3⟩ | ⟨h1, h2, h3⟩
  · subst h2 h3
    by_cases hN : N < P
    · refine ⟨setS B i.toNat (full d), (P : Int) - N - 1, false, ?_, .inl ⟨by omega, by omega, rfl⟩, by omega, fun _ => hm, fun h => absurd hN h⟩
      have ho : Dk.off ⟨B, (P : Int) - N, false⟩ = false := by unfold Dk.off; rw [decide_eq_false (by show ¬ (P : Int) - N = 0; omega)]; rfl
      unfold Dk.write Dk.may
      simp only [hs, hd, ho]
      rw [decide_eq_true hN, if_pos (by omega : 0 < (P : Int) - N)]
      rfl
    · refine ⟨B, (P : Int) - N, true, ?_, .inr ⟨by omega, by omega, rfl⟩, hB, fun h => absurd h hN, fun _ => rfl⟩
      have ho : Dk.off ⟨B, (P : Int) - N, false⟩ = true := by unfold Dk.off; rw [decide_eq_true (by show (P : Int) - N = 0; omega)]; rfl
      unfold Dk.write Dk.may
      simp only [hs, hd, ho]
      rw [decide_eq_false hN]
      rfl
  · subst h2 h3
    refine ⟨B, 0, true, ?_, .inr ⟨by omega, rfl, rfl⟩, hB, fun h => absurd h (by omega), fun _ => rfl⟩
    have ho : Dk.off ⟨B, 0, true⟩ = true := rfl
    unfold Dk.write Dk.may
    simp only [hs, hd, ho]
    rw [decide_eq_false (by omega)]
    rfl
theorem after_dead {P N : Nat} {left : Int} {dead : Bool} (h : after P N left dead) : dead = decide (P < N) := by
  rcases h with ⟨h1, _, h3⟩ | ⟨h1, _, h3⟩
  · rw [h3, decide_eq_false (by omega)]
  · rw [h3, decide_eq_true h1]
theorem after_wf {P N : Nat} {left : Int} {dead : Bool} (h : after P N left dead) (hP : P < 256) : (dead = true → left = 0) ∧ -9223372036854775808 ≤ left ∧ left ≤ 9223372036854775807 := by
  rcases h with ⟨_, h2, h3⟩ | ⟨_, h2, h3⟩
  · subst h3; exact ⟨(fun e => nomatch e), by omega, by omega⟩
  · subst h2; exact ⟨fun _ => rfl, by omega, by omega⟩
theorem keep_far {w w' : World} {p g p2 g2 c2 : Nat} {m : Dk} (q : Keeps (PG p g) w w') (h : DAt w p2 g2 c2 m) (h1 : p2 ≠ p) (h2 : p2 ≠ g) (h3 : g2 ≠ p) (h4 : g2 ≠ g) : DAt w' p2 g2 c2 m :=
  h.keep q (fun e => by rcases e with e | e; exact h1 e; exact h2 e) (fun e => by rcases e with e | e; exact h3 e; exact h4 e)

end Go.Proofs.YtapgpibindhlfaaGreat.Law16
