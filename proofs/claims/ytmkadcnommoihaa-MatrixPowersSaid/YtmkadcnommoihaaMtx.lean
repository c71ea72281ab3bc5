/- a matrix of a call's own in memory: its rows lie in blocks of their own -/
import Derived.Test.YtmkadcnommoihaaFoot
import Derived.Test.YtmkadcnommoihaaGauss
namespace Go.Proofs.Ytmkadcnommoihaa
open Go.RowKit

/-- the first n bytes of a block -/
def RowF (w : World) (b n : Nat) (u : Nat → UInt8) : Prop := ∀ j, j < n → w.cell? ⟨b, j, none⟩ = some (.int .u8 ((u j).toNat : Nat)) ∧ w.frozen? ⟨b, j, none⟩ = false
section
variable {w w' : World} {b n : Nat} {u v : Nat → UInt8}
theorem RowF.congr (h : RowF w b n u) (e : ∀ j, j < n → u j = v j) : RowF w b n v := fun j hj => by rw [← e j hj]; exact h j hj
theorem RowF.drewN (h : RowF w b n u) (m : Nat) : RowF (w.drewN m) b n u := h
theorem RowF.keep {F : Nat → Prop} (h : RowF w b n u) (k : Keeps F w w') (hb : ¬ F b) : RowF w' b n u := fun j hj =>
  ⟨k.cell (h j hj).1 hb, k.frozen (h j hj).1 hb (h j hj).2⟩
theorem RowF.set (h : RowF w b n u) (i : Nat) (x : UInt8) : RowF (w.setCell ⟨b, i, none⟩ (.int .u8 (x.toNat : Nat))) b n (fun j => if j = i then x else u j) := fun j hj => by
  refine ⟨?_, by rw [World.frozen?_setCell]; exact (h j hj).2⟩
  rw [cell_store (h j hj).1]
  show _ = some (Value.int .u8 (((if j = i then x else u j).toNat : Nat) : Int))
  by_cases e : j = i
  · rw [if_pos e, if_pos e]
  · rw [if_neg e, if_neg e]
theorem RowF.bytes (h : RowF w b n u) : BytesAt w (some ⟨b, 0, none⟩) (PolyM.tab n u) := fun i hi => by
  have hi' : i < n := by rw [PolyM.tab_len] at hi; exact hi
  exact ⟨b, 0, rfl, by rw [Nat.zero_add, PolyM.tab_get]; exact (h i hi').1⟩
theorem RowF.lt (h : RowF w b n u) (hn : 0 < n) : b < w.heap.size := cell_lt (h 0 hn).1
theorem RowF.of_row {l : List UInt8} (h : Row w b l) (hl : l.length = n) : RowF w b n (PolyM.co l) := fun j hj => by
  rw [PolyM.co_get l j (by omega)]
  exact ⟨h.cell j (by omega), h.frozen j⟩
end

/-- k rows of n bytes: the header in block g, the rows in blocks gs, all unlike, from lo on, below hi -/
structure Mtx (w : World) (lo hi k n g : Nat) (gs cs : Nat → Nat) (m : MatM.Mat) : Prop where
  hd : ∀ i, i < k → w.cell? ⟨g, i, none⟩ = some (.slice (some ⟨gs i, 0, none⟩) n (cs i)) ∧ w.frozen? ⟨g, i, none⟩ = false
  row : ∀ i, i < k → RowF w (gs i) n (m i)
  cap : ∀ i, i < k → n ≤ cs i ∧ cs i ≤ maxLen
  inj : ∀ i j, i < k → j < k → gs i = gs j → i = j
  ne : ∀ i, i < k → gs i ≠ g
  foot : ∀ i, i < k → Span lo hi (gs i)
  footg : Span lo hi g
section
variable {w w' : World} {lo hi k n g : Nat} {gs cs : Nat → Nat} {m m' : MatM.Mat}
theorem Mtx.congr (h : Mtx w lo hi k n g gs cs m) (e : ∀ i j, i < k → j < n → m i j = m' i j) : Mtx w lo hi k n g gs cs m' :=
  ⟨h.hd, fun i hi => (h.row i hi).congr fun j hj => e i j hi hj, h.cap, h.inj, h.ne, h.foot, h.footg⟩
theorem Mtx.keep {F : Nat → Prop} (h : Mtx w lo hi k n g gs cs m) (q : Keeps F w w') (hF : ∀ i, Span lo hi i → ¬ F i) : Mtx w' lo hi k n g gs cs m :=
  ⟨fun i hi => ⟨q.cell (h.hd i hi).1 (hF _ h.footg), q.frozen (h.hd i hi).1 (hF _ h.footg) (h.hd i hi).2⟩, fun i hi => (h.row i hi).keep q (hF _ (h.foot i hi)), h.cap, h.inj, h.ne, h.foot, h.footg⟩
theorem Mtx.below (h : Mtx w lo hi k n g gs cs m) (q : Below w.heap.size w w') : Mtx w' lo hi k n g gs cs m := h.keep (F := fun _ => False) (.of_below _ q) fun _ _ => id
theorem Mtx.wide {lo' hi' : Nat} (h : Mtx w lo hi k n g gs cs m) (h1 : lo' ≤ lo) (h2 : hi ≤ hi') : Mtx w lo' hi' k n g gs cs m :=
  ⟨h.hd, h.row, h.cap, h.inj, h.ne, fun i hi => ⟨Nat.le_trans h1 (h.foot i hi).1, Nat.lt_of_lt_of_le (h.foot i hi).2 h2⟩, ⟨Nat.le_trans h1 h.footg.1, Nat.lt_of_lt_of_le h.footg.2 h2⟩⟩
/-- one row is written -/
theorem Mtx.setRow (h : Mtx w lo hi k n g gs cs m) {i : Nat} (hik : i < k) {u : Nat → UInt8} (q : w.grownBy w' (some (gs i))) (hr : RowF w' (gs i) n u) : Mtx w' lo hi k n g gs cs (MatM.setRow m i u) := by
  have q' : Keeps (fun b => b = gs i) w w' := .grow q rfl
  refine ⟨fun j hj => ⟨q'.cell (h.hd j hj).1 (Ne.symm (h.ne i hik)), q'.frozen (h.hd j hj).1 (Ne.symm (h.ne i hik)) (h.hd j hj).2⟩, fun j hj => ?_, h.cap, h.inj, h.ne, h.foot, h.footg⟩
  by_cases e : j = i
  · subst e; exact hr.congr fun j _ => by unfold MatM.setRow; rw [if_pos rfl]
  · exact ((h.row j hj).keep q' (fun e' => e (h.inj j i hj hik e'))).congr fun t _ => by unfold MatM.setRow; rw [if_neg e]
theorem Mtx.rows (h : Mtx w lo hi n n g gs cs m) : RowsAt w (some ⟨g, 0, none⟩) (MatM.matL n m) := fun i hi => by
  have hi' : i < n := by rw [MatM.matL_len] at hi; exact hi
  refine ⟨g, 0, _, rfl, by rw [Nat.zero_add]; exact (h.hd i hi').1, some ⟨gs i, 0, none⟩, cs i, ?_, ?_, (h.cap i hi').2, ?_⟩
  · rw [MatM.matL_get, PolyM.tab_len]
  · rw [MatM.matL_get, PolyM.tab_len]; exact (h.cap i hi').1
  · rw [MatM.matL_get]; exact (h.row i hi').bytes
/-- a row more is put behind those that there are -/
theorem Mtx.put (h : Mtx w lo hi k n g gs cs m) {b c : Nat} {u : Nat → UInt8} (hs : Keeps (fun x => x = g) w w') (hc : ∀ i, i < k → w'.cell? ⟨g, i, none⟩ = w.cell? ⟨g, i, none⟩ ∧ w'.frozen? ⟨g, i, none⟩ = w.frozen? ⟨g, i, none⟩)
    (h1 : w'.cell? ⟨g, k, none⟩ = some (.slice (some ⟨b, 0, none⟩) n c)) (h2 : w'.frozen? ⟨g, k, none⟩ = false) (hr : RowF w' b n u) (hcap : n ≤ c ∧ c ≤ maxLen) (hb : hi ≤ b) {hi' : Nat} (hh : b < hi') (hlo : lo ≤ hi) :
    Mtx w' lo hi' (k + 1) n g (fun i => if i = k then b else gs i) (fun i => if i = k then c else cs i) (MatM.setRow m k u) := by
  have hg := h.footg
  refine ⟨fun i hi => ?_, fun i hi => ?_, fun i hi => ?_, fun i j hi hj e => ?_, fun i hi => ?_, fun i hi => ?_, ⟨hg.1, by have := hg.2; omega⟩⟩
  · by_cases e : i = k
    · subst e; rw [if_pos rfl, if_pos rfl]; exact ⟨h1, h2⟩
    · rw [if_neg e, if_neg e, (hc i (by omega)).1, (hc i (by omega)).2]; exact h.hd i (by omega)
  · by_cases e : i = k
    · subst e; rw [if_pos rfl]; exact hr.congr fun j _ => by unfold MatM.setRow; rw [if_pos rfl]
    · rw [if_neg e]; exact ((h.row i (by omega)).keep hs (h.ne i (by omega))).congr fun j _ => by unfold MatM.setRow; rw [if_neg e]
  · by_cases e : i = k
    · rw [if_pos e]; exact hcap
    · rw [if_neg e]; exact h.cap i (by omega)
  · by_cases ei : i = k
    · by_cases ej : j = k
      · omega
      · rw [if_pos ei, if_neg ej] at e; have := (h.foot j (by omega)).2; omega
    · by_cases ej : j = k
      · rw [if_neg ei, if_pos ej] at e; have := (h.foot i (by omega)).2; omega
      · rw [if_neg ei, if_neg ej] at e; exact h.inj i j (by omega) (by omega) e
  · by_cases e : i = k
    · rw [if_pos e]; have := hg.2; omega
    · rw [if_neg e]; exact h.ne i (by omega)
  · by_cases e : i = k
    · rw [if_pos e]; have := hg.2; have := hg.1; exact ⟨by omega, hh⟩
    · rw [if_neg e]; have := h.foot i (by omega); exact ⟨this.1, by have := this.2; omega⟩
/-- two rows change places -/
theorem Mtx.swap (h : Mtx w lo hi n n g gs cs m) {c r : Nat} (hc : c < n) (hr : r < n) :
    Mtx ((w.setCell ⟨g, c, none⟩ (.slice (some ⟨gs r, 0, none⟩) n (cs r))).setCell ⟨g, r, none⟩ (.slice (some ⟨gs c, 0, none⟩) n (cs c))) lo hi n n g
      (fun i => if i = r then gs c else if i = c then gs r else gs i) (fun i => if i = r then cs c else if i = c then cs r else cs i) (MatM.swapR m c r) := by
  have key : ∀ i, i < n → ∃ j, j < n ∧ (j = if i = r then c else if i = c then r else i) := fun i hi => by
    refine ⟨_, ?_, rfl⟩
    repeat' split
    all_goals omega
  have kg : ∀ i, (if i = r then gs c else if i = c then gs r else gs i) = gs (if i = r then c else if i = c then r else i) := fun i => by (repeat' split) <;> rfl
  have kc : ∀ i, (if i = r then cs c else if i = c then cs r else cs i) = cs (if i = r then c else if i = c then r else i) := fun i => by (repeat' split) <;> rfl
  have km : ∀ i, MatM.swapR m c r i = m (if i = r then c else if i = c then r else i) := fun i => by
    unfold MatM.swapR
    by_cases e1 : i = c
    · by_cases e2 : i = r
      · have : c = r := by omega
        subst this; rw [if_pos e1, if_pos e1]
      · rw [if_pos e1, if_neg e2, if_pos e1]
    · by_cases e2 : i = r
      · rw [if_neg e1, if_pos e2, if_pos e2]
      · rw [if_neg e1, if_neg e2, if_neg e2, if_neg e1]
  have q : Keeps (fun b => b = g) w ((w.setCell ⟨g, c, none⟩ (.slice (some ⟨gs r, 0, none⟩) n (cs r))).setCell ⟨g, r, none⟩ (.slice (some ⟨gs c, 0, none⟩) n (cs c))) :=
    (Keeps.set (fun b => b = g) w ⟨g, c, none⟩ _ rfl).trans (Keeps.set (fun b => b = g) _ ⟨g, r, none⟩ _ rfl)
  refine ⟨fun i hi => ⟨?_, by rw [World.frozen?_setCell, World.frozen?_setCell]; exact (h.hd i hi).2⟩, fun i hi => ?_, fun i hi => ?_, fun i j hi hj e => ?_, fun i hi => ?_, fun i hi => ?_, h.footg⟩
  · rw [cell_store (cell_store (h.hd i hi).1)]
    by_cases e1 : i = r
    · rw [if_pos e1, if_pos e1, if_pos e1]
    · rw [if_neg e1, if_neg e1, if_neg e1]
      by_cases e2 : i = c
      · rw [if_pos e2, if_pos e2, if_pos e2]
      · rw [if_neg e2, if_neg e2, if_neg e2]
  · obtain ⟨j, hj, e⟩ := key i hi
    rw [kg, km, ← e]
    exact (h.row j hj).keep q (h.ne j hj)
  · obtain ⟨j, hj, e⟩ := key i hi
    rw [kc, ← e]; exact h.cap j hj
  · rw [kg, kg] at e
    obtain ⟨i', hi', ei⟩ := key i hi
    obtain ⟨j', hj', ej⟩ := key j hj
    rw [← ei, ← ej] at e
    have := h.inj i' j' hi' hj' e
    rw [ei, ej] at this
    revert this
    repeat' split
    all_goals omega
  · obtain ⟨j, hj, e⟩ := key i hi
    rw [kg, ← e]; exact h.ne j hj
  · obtain ⟨j, hj, e⟩ := key i hi
    rw [kg, ← e]; exact h.foot j hj
end
end Go.Proofs.Ytmkadcnommoihaa
