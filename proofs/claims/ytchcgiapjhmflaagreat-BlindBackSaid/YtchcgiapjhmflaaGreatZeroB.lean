/- package zero: what tells a custodian's zero share -/
import Derived.Test.YtchcgiapjhmflaaGreatZeroA
import Derived.Test.YtchcgiapjhmflaaGreatMP
import Derived.Test.YtchcgiapjhmflaaGreatPoly
import Derived.Laws.EntriesVeiled
set_option maxRecDepth 100000
namespace Go.Proofs.YtchcgiapjhmflaaGreat.Zero
open Go.RowKit PlanM StripeM DealM RebM ZeroM Plan Stripe

/-- what a share's teller has captured -/
structure ZA (w : World) (gf gr gn gt gp b0 : Nat) (Y A : Option Addr) (rt tape : List UInt8) (dY c n : Nat) (p : P) : Prop where
  f : w.cell? ⟨gf, 0, none⟩ = some (.pointer (some ⟨b0, 0, none⟩))
  r : w.cell? ⟨gr, 0, none⟩ = some (.slice Y rt.length dY)
  n : w.cell? ⟨gn, 0, none⟩ = some (.int .i64 (n : Nat))
  t : w.cell? ⟨gt, 0, none⟩ = some (.slice A tape.length c)
  six : Six w gp p
  tab : Gf.Tab w b0
  ys : BytesAt w Y rt
  tape : BytesAt w A tape
section
variable {w w' : World} {gf gr gn gt gp b0 : Nat} {Y A : Option Addr} {rt tape : List UInt8} {dY c n : Nat} {p : P}
theorem ZA.below (h : ZA w gf gr gn gt gp b0 Y A rt tape dY c n p) (hb : Below w.heap.size w w') : ZA w' gf gr gn gt gp b0 Y A rt tape dY c n p :=
  ⟨(hb.cell (p := ⟨gf, 0, none⟩) (cell_lt h.f)).trans h.f, (hb.cell (p := ⟨gr, 0, none⟩) (cell_lt h.r)).trans h.r, (hb.cell (p := ⟨gn, 0, none⟩) (cell_lt h.n)).trans h.n, (hb.cell (p := ⟨gt, 0, none⟩) (cell_lt h.t)).trans h.t,
    h.six.below hb, h.tab.below hb, h.ys.below hb, h.tape.below hb⟩
theorem ZA.keep {F : Nat → Prop} {w3 : World} (h3 : ZA w3 gf gr gn gt gp b0 Y A rt tape dY c n p) (h : ZA w gf gr gn gt gp b0 Y A rt tape dY c n p) (q : Keeps F w w') (hF : ∀ k, k < w3.heap.size → ¬ F k) : ZA w' gf gr gn gt gp b0 Y A rt tape dY c n p := by
  have hp := hF _ (cell_lt h3.six.c0)
  exact ⟨q.cell h.f (hF _ (cell_lt h3.f)), q.cell h.r (hF _ (cell_lt h3.r)), q.cell h.n (hF _ (cell_lt h3.n)), q.cell h.t (hF _ (cell_lt h3.t)),
    ⟨q.cell h.six.c0 hp, q.cell h.six.c1 hp, q.cell h.six.c2 hp, q.cell h.six.c3 hp, q.cell h.six.c4 hp, q.cell h.six.c5 hp⟩, q.tab h.tab (hF _ h3.tab.lt), q.bytes' h.ys (fun h0 a e => hF _ (h3.ys.lt h0 a e)), q.bytes' h.tape (fun h0 a e => hF _ (h3.tape.lt h0 a e))⟩
end
/-- the zero polynomials' values at a point -/
def zval (rt tape : List UInt8) (T n : Nat) (x : UInt8) : List UInt8 := (List.range n).map fun k => GfM.mul (PolyM.ev rt x) (PolyM.ev (take_ T tape k) x)
theorem zval_len (rt tape : List UInt8) (T n : Nat) (x : UInt8) : (zval rt tape T n x).length = n := by simp [zval]
theorem zval_share (p : P) (tape : List UInt8) (n : Nat) (i : Int) : zval (PolyM.proot p.secrets) tape p.T.toNat n (point i) = share (zpolysTo p tape n) i := by
  unfold zval share zpolysTo
  rw [List.map_map]
  refine List.map_congr_left fun k _ => ?_
  show _ = PolyM.ev (zpoly p _) _
  unfold zpoly
  rw [PolyM.ev_pmul]

theorem boxes4 (w : World) (v0 v2 v3 : Value) (o1 : Obj) (t0 t2 t3 : TypeId) :
    ((((w.alloc (.cells #[v0] t0)).alloc o1).alloc (.cells #[v2] t2)).alloc (.cells #[v3] t3)).cell? ⟨w.heap.size, 0, none⟩ = some v0 ∧
    ((((w.alloc (.cells #[v0] t0)).alloc o1).alloc (.cells #[v2] t2)).alloc (.cells #[v3] t3)).cell? ⟨w.heap.size + 1 + 1, 0, none⟩ = some v2 ∧
    ((((w.alloc (.cells #[v0] t0)).alloc o1).alloc (.cells #[v2] t2)).alloc (.cells #[v3] t3)).cell? ⟨w.heap.size + 1 + 1 + 1, 0, none⟩ = some v3 ∧
    Below w.heap.size w ((((w.alloc (.cells #[v0] t0)).alloc o1).alloc (.cells #[v2] t2)).alloc (.cells #[v3] t3)) := by
  have e : ∀ (W : World) (v : Value) (t : TypeId), (W.alloc (.cells #[v] t)).cell? ⟨W.heap.size, 0, none⟩ = some v := fun W v t => by simp
  have a0 := e w v0 t0
  have a2 := e ((w.alloc (.cells #[v0] t0)).alloc o1) v2 t2
  have a3 := e (((w.alloc (.cells #[v0] t0)).alloc o1).alloc (.cells #[v2] t2)) v3 t3
  have b1 := balloc w (.cells #[v0] t0)
  have b2 := balloc (w.alloc (.cells #[v0] t0)) o1
  have b3 := balloc ((w.alloc (.cells #[v0] t0)).alloc o1) (.cells #[v2] t2)
  have b4 := balloc (((w.alloc (.cells #[v0] t0)).alloc o1).alloc (.cells #[v2] t2)) (.cells #[v3] t3)
  rw [World.size_alloc, World.size_alloc] at a2
  rw [World.size_alloc, World.size_alloc, World.size_alloc] at a3
  exact ⟨((bstep b2 (bstep b3 b4)).cell (cell_lt a0)).trans a0, (b4.cell (cell_lt a2)).trans a2, a3, bstep b1 (bstep b2 (bstep b3 b4))⟩

def SP.secr (l : List UInt8) : Drawn.SP := ⟨fun v w => ∃ X d, v = .slice X l.length d ∧ BytesAt w X l, fun _ _ _ h hb => by
  obtain ⟨X, d, h1, h2⟩ := h; exact ⟨X, d, h1, h2.below hb⟩⟩
def SP.rootN (l : List UInt8) (n : Nat) : Drawn.SP := ⟨fun v w => ∃ X d, v = .slice X n d ∧ n ≤ d ∧ d ≤ maxLen ∧ BytesAt w X l, fun _ _ _ h hb => by
  obtain ⟨X, d, h1, h2, h3, h4⟩ := h; exact ⟨X, d, h1, h2, h3, h4.below hb⟩⟩
/-- a box of one slice, none yet -/
def boxAt (w : World) (g : Nat) : Prop := w.heap[g]? = some (.cells #[.slice none 0 0] 24 (0, 0))
def SP.box (B : Nat) : Drawn.SP := ⟨fun v w => ∃ g, v = .pointer (some ⟨g, 0, none⟩) ∧ boxAt w g ∧ B ≤ g, fun _ _ _ h hb => by
  obtain ⟨g, h1, h2, h3⟩ := h
  refine ⟨g, h1, (hb.block g ?_).trans h2, h3⟩
  exact (Array.getElem?_eq_some_iff.1 h2).1⟩
theorem boxAt.new (w : World) : boxAt (w.alloc (.cells #[.slice none 0 0] 24)) w.heap.size := heap_alloc_new w _
theorem boxAt.cell {w : World} {g : Nat} (h : boxAt w g) : w.cell? ⟨g, 0, none⟩ = some (.slice none 0 0) := by
  rw [cell_of_row w g 0 _ 24 (0, 0) h]; rfl
theorem boxAt.frozen {w : World} {g : Nat} (h : boxAt w g) : w.frozen? ⟨g, 0, none⟩ = false := by unfold boxAt at h; simp [World.frozen?, h]
theorem boxAt.far {w : World} {g : Nat} (h : boxAt w g) {A : Option Addr} {l : List UInt8} (hA : BytesAt w A l) (h0 : 0 < l.length) : ∀ a, A = some a → a.block ≠ g := fun a e e' => by
  obtain ⟨b, o, e2, hc⟩ := hA 0 h0
  subst e
  injection e2 with e2
  subst e2
  simp only at e'
  subst e'
  rw [cell_of_row w b (o + 0) _ 24 (0, 0) h] at hc
  rcases Nat.eq_zero_or_pos o with ho | ho
  · subst ho; simp at hc
  · rw [Array.getElem?_eq_none (by simp; omega)] at hc; cases hc

end Go.Proofs.YtchcgiapjhmflaaGreat.Zero
