/- the walk of DiskPlays -/
import Derived.Test.YtapgpibindhlfaaLaw16B
import Derived.Test.YtapgpibindhlfaaMRD
import Derived.Test.YtapgpibindhlfaaKnown
import Derived.Test.YtapgpibindhlfaaFlow
set_option maxRecDepth 100000
namespace Go.Proofs.Ytapgpibindhlfaa.Law16
open Go.RowKit DiskM Disk

/-- as the document tells it: below 0 power is for ever -/
def nrm (m : Dk) : Dk := ⟨m.b, if m.left < 0 then -1 else m.left, m.dead⟩
theorem nrm_off {m : Dk} : (nrm m).off = m.off := by
  unfold Dk.off nrm
  show (decide ((if m.left < 0 then -1 else m.left) = 0) || m.dead) = (decide (m.left = 0) || m.dead)
  congr 1
  rw [decide_eq_decide]
  split <;> omega
theorem nrm_write (m : Dk) (i : Int) (d : List UInt8) : (nrm m).write i d = (nrm (m.write i d).1, (m.write i d).2) := by
  have hm : (nrm m).may i d = m.may i d := rfl
  unfold Dk.write
  rw [hm, nrm_off]
  split
  · split
    · rfl
    · show (⟨setS m.b i.toNat (full d), if 0 < (if m.left < 0 then -1 else m.left) then (if m.left < 0 then -1 else m.left) - 1 else (if m.left < 0 then -1 else m.left), false⟩, true) = (nrm ⟨setS m.b i.toNat (full d), if 0 < m.left then m.left - 1 else m.left, false⟩, true)
      unfold nrm
      have e : (if 0 < (if m.left < 0 then (-1 : Int) else m.left) then (if m.left < 0 then (-1 : Int) else m.left) - 1 else (if m.left < 0 then (-1 : Int) else m.left)) = if (if 0 < m.left then m.left - 1 else m.left) < 0 then -1 else (if 0 < m.left then m.left - 1 else m.left) := by
        repeat' split
        all_goals omega
      rw [e]
  · rfl
theorem nrm_power (m : Dk) (n : Int) : (nrm m).power n = nrm ⟨m.b, n, false⟩ := rfl
theorem nrm_rot (m : Dk) (i bit : Int) (mask : Nat) : (nrm m).rot i bit mask = (nrm (m.rot i bit mask).1, (m.rot i bit mask).2) := by
  unfold Dk.rot
  show (if isS m.b i && decide (0 ≤ bit) then _ else _) = _
  split
  · rfl
  · rfl
theorem nrm_range {m : Dk} (h : Fine m) : -9223372036854775808 ≤ (nrm m).left ∧ (nrm m).left ≤ 9223372036854775807 := by
  have := h.2
  show _ ≤ (if m.left < 0 then -1 else m.left) ∧ (if m.left < 0 then -1 else m.left) ≤ _
  split <;> omega
theorem ActLies.keep {F : Nat → Prop} {w w' : World} {t o : Nat} {B : Option Addr} {c : Nat} {a : Act16} (h : ActLies w t o B c a) (q : Keeps F w w') (ht : ¬ F t) (hB : 0 < a.b.length → ∀ x, B = some x → ¬ F x.block) : ActLies w' t o B c a :=
  ⟨q.cell h.c0 ht, q.cell h.c1 ht, q.cell h.c2 ht, q.cell h.c3 ht, q.cell h.c4 ht, h.h1, h.h2, q.bytes' h.bytes hB, h.i0, h.i1, h.i2, h.i3⟩
/-- two disks, whose calls come up in any order: x the one's, y the other's -/
structure Two (w0 : World) (p1 g1 c1 p2 g2 c2 t : Nat) (B : Option Addr) (c : Nat) (a : Act16) (m m' n n' : Dk) (x y : Nat) (f : Nat → Bool) (w : World) : Prop where
  below : Below w0.heap.size w0 w
  act : ActLies w t 0 B c a
  d1 : f x = true → DAt w p1 g1 c1 m'
  d10 : f x = false → DAt w p1 g1 c1 m
  d2 : f y = true → DAt w p2 g2 c2 n'
  d20 : f y = false → DAt w p2 g2 c2 n
/-- what is apart -/
structure Far (w0 : World) (p1 g1 p2 g2 t : Nat) (B : Option Addr) (a : Act16) : Prop where
  a1 : p1 ≠ p2
  a2 : p1 ≠ g2
  a3 : g1 ≠ p2
  a4 : g1 ≠ g2
  t1 : t ≠ p1
  t2 : t ≠ g1
  t3 : t ≠ p2
  t4 : t ≠ g2
  b1 : 0 < a.b.length → ∀ x, B = some x → x.block ≠ p1 ∧ x.block ≠ g1 ∧ x.block ≠ p2 ∧ x.block ≠ g2
  l1 : w0.heap.size ≤ p1
  l2 : w0.heap.size ≤ g1
  l3 : w0.heap.size ≤ p2
  l4 : w0.heap.size ≤ g2
section
variable {w0 w w' : World} {p1 g1 c1 p2 g2 c2 t c x y : Nat} {B : Option Addr} {a : Act16} {m m' n n' : Dk} {f : Nat → Bool}
theorem Two.start (hx : f x = false) (hy : f y = false) (hb : Below w0.heap.size w0 w) (ha : ActLies w t 0 B c a) (h1 : DAt w p1 g1 c1 m) (h2 : DAt w p2 g2 c2 n) : Two w0 p1 g1 c1 p2 g2 c2 t B c a m m' n n' x y f w.drew :=
  ⟨hb.trans (bdraw w 1 |>.mono hb.size), ha.below (bdraw w 1), (fun e => by rw [hx] at e; cases e), fun _ => h1.below (bdraw w 1), (fun e => by rw [hy] at e; cases e), fun _ => h2.below (bdraw w 1)⟩
theorem upd_other {i j : Nat} (h : i ≠ j) : Drawn.upd f i j = f j := by
  unfold Drawn.upd
  have : Nat.beq j i = false := by rw [← Bool.not_eq_true, Nat.beq_eq]; exact fun e => h e.symm
  rw [this, Bool.or_false]
theorem upd_self {i : Nat} : Drawn.upd f i i = true := by
  unfold Drawn.upd
  have : Nat.beq i i = true := by rw [Nat.beq_eq]
  rw [this, Bool.or_true]
theorem Two.skip {i : Nat} (h : Two w0 p1 g1 c1 p2 g2 c2 t B c a m m' n n' x y f w) (hx : i ≠ x) (hy : i ≠ y) : Two w0 p1 g1 c1 p2 g2 c2 t B c a m m' n n' x y (Drawn.upd f i) w :=
  ⟨h.below, h.act, (fun e => h.d1 (by rwa [upd_other hx] at e)), (fun e => h.d10 (by rwa [upd_other hx] at e)), (fun e => h.d2 (by rwa [upd_other hy] at e)), (fun e => h.d20 (by rwa [upd_other hy] at e))⟩
theorem Two.d1go (h : Two w0 p1 g1 c1 p2 g2 c2 t B c a m m' n n' x y f w) (hd : DAt w' p1 g1 c1 m') (q : Keeps (PG p1 g1) w w') (hF : Far w0 p1 g1 p2 g2 t B a) (hxy : x ≠ y) : Two w0 p1 g1 c1 p2 g2 c2 t B c a m m' n n' x y (Drawn.upd f x) w' := by
  have k2 : ∀ {u}, DAt w p2 g2 c2 u → DAt w' p2 g2 c2 u := fun h => keep_far q h (fun e => hF.a1 e.symm) (fun e => hF.a3 e.symm) (fun e => hF.a2 e.symm) (fun e => hF.a4 e.symm)
  refine ⟨own_keep h.below q hF.l1 hF.l2, ActLies.keep h.act q (fun e => by rcases e with e | e; exact hF.t1 e; exact hF.t2 e) (fun h0 z e => fun e2 => by have := hF.b1 h0 z e; rcases e2 with e2 | e2; exact this.1 e2; exact this.2.1 e2), fun _ => hd, (fun e => by rw [upd_self] at e; cases e), (fun e => k2 (h.d2 (by rwa [upd_other hxy] at e))), (fun e => k2 (h.d20 (by rwa [upd_other hxy] at e)))⟩
theorem Two.d2go (h : Two w0 p1 g1 c1 p2 g2 c2 t B c a m m' n n' x y f w) (hd : DAt w' p2 g2 c2 n') (q : Keeps (PG p2 g2) w w') (hF : Far w0 p1 g1 p2 g2 t B a) (hxy : x ≠ y) : Two w0 p1 g1 c1 p2 g2 c2 t B c a m m' n n' x y (Drawn.upd f y) w' := by
  have k1 : ∀ {u}, DAt w p1 g1 c1 u → DAt w' p1 g1 c1 u := fun h => keep_far q h hF.a1 hF.a2 hF.a3 hF.a4
  refine ⟨own_keep h.below q hF.l3 hF.l4, ActLies.keep h.act q (fun e => by rcases e with e | e; exact hF.t3 e; exact hF.t4 e) (fun h0 z e => fun e2 => by have := hF.b1 h0 z e; rcases e2 with e2 | e2; exact this.2.2.1 e2; exact this.2.2.2 e2), (fun e => k1 (h.d1 (by rwa [upd_other (fun e => hxy e.symm)] at e))), (fun e => k1 (h.d10 (by rwa [upd_other (fun e => hxy e.symm)] at e))), fun _ => hd, (fun e => by rw [upd_self] at e; cases e)⟩
end
/-- the document's disk has other bytes, all 0, of its own -/
theorem rebased {w : World} {p g c : Nat} {m : Dk} (h : DAt w p g c m) (n : Nat) (hn : n ≤ 32768) :
    DAt ((w.setCell ⟨p, 0, none⟩ (.slice (some ⟨w.heap.size, 0, none⟩) n n)).alloc (.cells (cells (List.replicate n 0)) 5)) p w.heap.size n ⟨SecM.noughts n, m.left, m.dead⟩ ∧
      Keeps (fun k => k = p) w ((w.setCell ⟨p, 0, none⟩ (.slice (some ⟨w.heap.size, 0, none⟩) n n)).alloc (.cells (cells (List.replicate n 0)) 5)) := by
  have hlt := h.lt.1
  have hl : (SecM.noughts n).length = n := SecM.noughts_len n
  have hk : Keeps (fun k => k = p) w (w.setCell ⟨p, 0, none⟩ (.slice (some ⟨w.heap.size, 0, none⟩) n n)) := .set _ _ _ _ rfl
  have hsz : (w.setCell ⟨p, 0, none⟩ (.slice (some ⟨w.heap.size, 0, none⟩) n n)).heap.size = w.heap.size := by simp [World.setCell]
  have c0 : (w.setCell ⟨p, 0, none⟩ (.slice (some ⟨w.heap.size, 0, none⟩) n n)).cell? ⟨p, 0, none⟩ = some (.slice (some ⟨w.heap.size, 0, none⟩) n n) := by rw [cell_store h.c0]; rfl
  have c1 : (w.setCell ⟨p, 0, none⟩ (.slice (some ⟨w.heap.size, 0, none⟩) n n)).cell? ⟨p, 1, none⟩ = some (.int .i64 m.left) := by rw [cell_store h.c1]; rfl
  have c2 : (w.setCell ⟨p, 0, none⟩ (.slice (some ⟨w.heap.size, 0, none⟩) n n)).cell? ⟨p, 2, none⟩ = some (.bool m.dead) := by rw [cell_store h.c2]; rfl
  have f0 : (w.setCell ⟨p, 0, none⟩ (.slice (some ⟨w.heap.size, 0, none⟩) n n)).frozen? ⟨p, 0, none⟩ = false := by rw [World.frozen?_setCell]; exact h.f0
  have f1 : (w.setCell ⟨p, 0, none⟩ (.slice (some ⟨w.heap.size, 0, none⟩) n n)).frozen? ⟨p, 1, none⟩ = false := by rw [World.frozen?_setCell]; exact h.f1
  have f2 : (w.setCell ⟨p, 0, none⟩ (.slice (some ⟨w.heap.size, 0, none⟩) n n)).frozen? ⟨p, 2, none⟩ = false := by rw [World.frozen?_setCell]; exact h.f2
  have ho := Own.make (w.setCell ⟨p, 0, none⟩ (.slice (some ⟨w.heap.size, 0, none⟩) n n)) n (by unfold maxLen; omega)
  rw [hsz] at ho
  generalize w.setCell ⟨p, 0, none⟩ (.slice (some ⟨w.heap.size, 0, none⟩) n n) = w1 at *
  have hb := balloc w1 (.cells (cells (List.replicate n 0)) 5)
  have k := Keeps.of_below (fun _ => False) hb
  refine ⟨⟨?_, k.cell c1 id, k.cell c2 id, k.frozen c0 id f0, k.frozen c1 id f1, k.frozen c2 id f2, ?_, by omega⟩, hk.trans (.of_below _ hb)⟩
  · show World.cell? _ _ = some (Value.slice (some ⟨w.heap.size, 0, none⟩) (SecM.noughts n).length n)
    rw [hl]; exact k.cell c0 id
  · show Own _ 0 (.slice (some ⟨w.heap.size, 0, none⟩) (SecM.noughts n).length n) (SecM.noughts n)
    rw [hl]; exact ho
theorem new_len (n : Int) : (new_ n).b.length = 64 * size n := by unfold new_; exact SecM.noughts_len _

end Go.Proofs.Ytapgpibindhlfaa.Law16
