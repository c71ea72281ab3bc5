/- lists of numbers: what they hold, and appends -/
import Derived.Test.YtjoocjkakgjgmaaCells
set_option maxRecDepth 100000
namespace Go.Proofs.Ytjoocjkakgjgmaa
open Go.RowKit

def intV (l : List Int) : List Value := l.map (Value.int .i64)
theorem intV_len (l : List Int) : (intV l).length = l.length := by simp [intV]
theorem intV_get (l : List Int) (i : Nat) (h : i < (intV l).length) : (intV l)[i] = .int .i64 (l[i]'(by rw [← intV_len]; exact h)) := by simp [intV]
theorem intV_one (l : List Int) : ∀ u ∈ intV l, u.oneCell' = true := by intro u hu; simp [intV] at hu; obtain ⟨s, _, rfl⟩ := hu; rfl
def IntsAt (w : World) (A : Option Addr) (l : List Int) : Prop := CellsAt w A (intV l)
theorem IntsAt.at {w : World} {A : Option Addr} {l : List Int} (h : IntsAt w A l) {i : Nat} (hi : i < l.length) : ∃ b o, A = some ⟨b, o, none⟩ ∧ w.cell? ⟨b, o + i, none⟩ = some (.int .i64 l[i]) := by
  obtain ⟨b, o, e, hc⟩ := h i (by rw [intV_len]; exact hi)
  exact ⟨b, o, e, by rw [hc, intV_get]⟩
theorem IntsAt.below {w w' : World} {A : Option Addr} {l : List Int} (h : IntsAt w A l) (hb : Below w.heap.size w w') : IntsAt w' A l := CellsAt.below h hb
theorem int_info : (Try.prog.info? 3).map (fun i => (i.zero, i.size, i.bytes)) = some (some (.int .i64 0), 1, 8) := by kernel_rfl
theorem int_info' : ∃ i, Try.prog.info? 3 = some i ∧ i.zero = some (.int .i64 0) ∧ i.size = 1 ∧ i.bytes = 8 := by
  obtain ⟨i0, h, a, b, c⟩ := info_parts int_info
  exact ⟨i0, h, a, b, c⟩
/-- numbers that are handed back -/
def RetInts (w : World) (l : List Int) (e : Ending) (w' : World) : Prop :=
  ∃ A c, e = .returned (.slice A l.length c) ∧ l.length ≤ c ∧ c ≤ maxLen ∧ IntsAt w' A l ∧ Below w.heap.size w w' ∧ New w A
/-- a list of numbers that the call has gathered -/
def OwnI (w : World) (base : Nat) (v : Value) (l : List Int) : Prop := w.ownsRow base 3 1 v l.length (intV l)
structure AppdI (w : World) (base : Nat) (v : Value) (l : List Int) (v' : Value) (w' : World) : Prop where
  own : OwnI w' base v' l
  grow : w.grownBy w' v.ownBlock
  place : v'.ownBlock = v.ownBlock ∨ v'.ownBlock = some w.heap.size
theorem OwnI.below {w w' : World} {base : Nat} {v : Value} {l : List Int} (h : OwnI w base v l) (hb : Below w.heap.size w w') : OwnI w' base v l := ownV_below h hb
theorem OwnI.ints {w : World} {base : Nat} {v : Value} {l : List Int} (h : OwnI w base v l) : ∃ A c, v = .slice A l.length c ∧ l.length ≤ c ∧ c ≤ maxLen ∧ IntsAt w A l ∧ ∀ a, A = some a → base ≤ a.block := by
  obtain ⟨A, c, h1, h2, h3, _, h5, h6⟩ := ownV_cells h
  exact ⟨A, c, h1, h2, h3, h5, h6⟩
theorem OwnI.nil (w : World) (base : Nat) : OwnI w base (.slice none 0 0) [] := ownV_nil _ _ _
theorem AppdI.below {w w' w0 : World} {base B : Nat} {v v' : Value} {l xs : List Int} (a : AppdI w base v l v' w') (hown : OwnI w base v xs) (hb : Below B w0 w) (hB : B ≤ base) (hs : B ≤ w.heap.size) : Below B w0 w' :=
  hb.grown a.grow hs fun k hk => Nat.le_trans hB (World.ownsRow.lt hown k hk).1
theorem wpList_append_ints {ops : Array Oper} {rest : List Oper} {o : Oper} {a : Act} {w : World} {Q : Exit → Act → World → Prop} (hgd : o.guard = none) (s x : Operand)
    (ho : o.op = .call { callee := .builtin .append, args := #[s, x], argTypes := #[22, 22] })
    (base : Nat) (v : Value) (xs : List Int) (hs : a.eval s = v) (hown : OwnI w base v xs) (A : Option Addr) (m c : Nat) (ys : List Int) (hx : a.eval x = .slice A m c) (hy : ys.length = m) (hA : IntsAt w A ys)
    (hl : xs.length + m < 1099511627776) (hbase : base ≤ w.heap.size)
    (h : ∀ v' w', AppdI w base v (xs ++ ys) v' w' → wpList Try.prog ops Q rest (a.put o.dst v') w') : wpList Try.prog ops Q (o :: rest) a w := by
  obtain ⟨i0, hi, hz, hs1, hb1⟩ := int_info'
  refine wpList_append_cells Try.underlying22 hi hz hs1 hb1 rfl hgd s x ho base v xs.length (intV xs) hs hown A m c (intV ys) hx (by rw [intV_len]; exact hy) hA (intV_one ys) hl (by omega) hbase ?_
  intro v' w' ha
  refine h v' w' ⟨?_, ha.grow, ha.place⟩
  have := ha.own
  unfold OwnI
  rw [List.length_append, hy, show intV (xs ++ ys) = intV xs ++ intV ys from by simp [intV]]
  exact this
/-- bytes that are handed back, in a row of their own that may be appended to -/
def RetOwn (w : World) (l : List UInt8) (e : Ending) (w' : World) : Prop := ∃ v, e = .returned v ∧ Own w' w.heap.size v l ∧ Below w.heap.size w w'
theorem RetOwn.new {w w' : World} {l : List UInt8} {e : Ending} (h : RetOwn w l e w') : RetNew w l e w' := by
  obtain ⟨v, rfl, h1, h2⟩ := h
  exact RetNew.of_own h1 h2
end Go.Proofs.Ytjoocjkakgjgmaa
