/- merged: DealA, DealB, DealC, DealD, DealE, Deal -/
import Derived.Test.YtchcgiapjhmflaaGreatMS
import Derived.Test.YtchcgiapjhmflaaGreatMB
import Derived.Test.YtchcgiapjhmflaaGreatFlow
import Derived.Test.YtchcgiapjhmflaaGreatFlowS
import Derived.Test.YtchcgiapjhmflaaGreatLagr

/- package deal: what a gathering is -/
set_option maxRecDepth 100000
namespace Go.Proofs.YtchcgiapjhmflaaGreat.Deal
open Go.RowKit PlanM StripeM DealM Plan Stripe

/-- a row that is being put together, in a block that has room for cap bytes -/
def head (R cap : Nat) (m : Nat → List UInt8) (i : Nat) : Value := .slice (some ⟨R + i, 0, none⟩) (m i).length cap
def heads (R cap n : Nat) (m : Nat → List UInt8) : List Value := (List.range n).map (head R cap m)
def pad (cap : Nat) (l : List UInt8) : List UInt8 := l ++ List.replicate (cap - l.length) 0
theorem heads_len (R cap n : Nat) (m : Nat → List UInt8) : (heads R cap n m).length = n := by unfold heads; simp
theorem heads_get (R cap n : Nat) (m : Nat → List UInt8) (i : Nat) (h : i < n) : (heads R cap n m)[i]? = some (head R cap m i) := by unfold heads; simp [h]
theorem heads_congr {R cap n : Nat} {m m' : Nat → List UInt8} (h : ∀ i, i < n → m i = m' i) : heads R cap n m = heads R cap n m' := by
  unfold heads
  refine List.map_congr_left fun i hi => ?_
  unfold head; rw [h i (List.mem_range.mp hi)]
theorem heads_set (R cap n : Nat) (m : Nat → List UInt8) (k : Nat) (b : UInt8) (_hk : k < n) : (heads R cap n m).set k (.slice (some ⟨R + k, 0, none⟩) ((m k).length + 1) cap) = heads R cap n (fun i => if i = k then m i ++ [b] else m i) := by
  refine List.ext_getElem? fun i => ?_
  by_cases hi : i < n
  · rw [heads_get _ _ _ _ _ hi]
    by_cases e : k = i
    · subst e
      rw [List.getElem?_set_self (by rw [heads_len]; exact hi)]
      unfold head; simp only [if_pos, List.length_append, List.length_singleton]
    · rw [List.getElem?_set_ne e, heads_get _ _ _ _ _ hi]
      have e2 : ¬ i = k := fun e' => e e'.symm
      unfold head; simp only [if_neg e2]
  · rw [List.getElem?_eq_none (by rw [List.length_set, heads_len]; omega), List.getElem?_eq_none (by rw [heads_len]; omega)]
theorem pad_len (cap : Nat) (l : List UInt8) (h : l.length ≤ cap) : (pad cap l).length = cap := by unfold pad; rw [List.length_append, List.length_replicate]; omega
theorem pad_nil (cap : Nat) : pad cap [] = List.replicate cap 0 := by unfold pad; simp
theorem pad_full (l : List UInt8) : pad l.length l = l := by unfold pad; simp
theorem pad_put (cap : Nat) (l : List UInt8) (b : UInt8) (h : l.length < cap) : (vals (pad cap l)).take l.length ++ [.int .u8 (b.toNat : Nat)] ++ (vals (pad cap l)).drop (l.length + 1) = vals (pad cap (l ++ [b])) := by
  unfold pad vals
  rw [← List.map_take, ← List.map_drop, List.take_left]
  have e : (l ++ List.replicate (cap - l.length) (0 : UInt8)).drop (l.length + 1) = List.replicate (cap - (l ++ [b]).length) 0 := by
    rw [List.drop_append, List.drop_eq_nil_of_le (by omega), List.nil_append, List.drop_replicate, List.length_append, List.length_singleton]
    congr 1
    omega
  rw [e]
  simp

theorem pad_again (cap : Nat) (l : List UInt8) (b : UInt8) : (vals (pad cap (l ++ [b]))).take l.length ++ [.int .u8 (b.toNat : Nat)] ++ (vals (pad cap (l ++ [b]))).drop (l.length + 1) = vals (pad cap (l ++ [b])) := by
  have e : vals (pad cap (l ++ [b])) = vals l ++ (.int .u8 (b.toNat : Nat) :: vals (List.replicate (cap - (l ++ [b]).length) 0)) := by unfold pad; simp [vals]
  rw [e, List.take_left' (vals_len l), List.drop_append, List.drop_eq_nil_of_le (by rw [vals_len]; omega), vals_len, Nat.add_sub_cancel_left]
  simp
/-- a row of the gathering, ahead of its next byte or behind it -/
def Pad2 (w : World) (g cap : Nat) (l : List UInt8) (b : UInt8) : Prop := Row w g (pad cap l) ∨ Row w g (pad cap (l ++ [b]))
/-- 'append(row, b)' where there is room: in place -/
theorem run_append_pad (w : World) (ty : TypeId) (g cap : Nat) (l : List UInt8) (b : UInt8) (hr : Pad2 w g cap l b) (hl : l.length < cap) (gb c : Nat) (hc : w.cell? ⟨gb, 0, none⟩ = some (.int .u8 (b.toNat : Nat))) :
    ∃ w', (Builtin.append_ #[24, 24] ty #[.slice (some ⟨g, 0, none⟩) l.length cap, .slice (some ⟨gb, 0, none⟩) 1 c]).run Tryz.prog w = .ok (.slice (some ⟨g, 0, none⟩) (l.length + 1) cap) w' ∧ Row w' g (pad cap (l ++ [b])) ∧ w.grownBy w' (some g) := by
  obtain ⟨i0, hi, hz, hs, hb⟩ := u8_info'
  obtain ⟨q, hq, hrq, e⟩ : ∃ q, q.length = cap ∧ Row w g q ∧ (vals q).take l.length ++ [.int .u8 (b.toNat : Nat)] ++ (vals q).drop (l.length + 1) = vals (pad cap (l ++ [b])) := by
    rcases hr with hr | hr
    · exact ⟨_, pad_len cap l (by omega), hr, pad_put cap l b hl⟩
    · exact ⟨_, pad_len cap (l ++ [b]) (by rw [List.length_append, List.length_singleton]; omega), hr, pad_again cap l b⟩
  have hr' := run_append_room (P := Tryz.prog) w 24 ty 5 i0 Tryz.underlying24 hi g l.length cap (cells q) hrq ⟨gb, 0, none⟩ 1 c [.int .u8 (b.toNat : Nat)] (by rw [hs]; rfl)
    (fun j u hj => by
      match j, hj with
      | 0, hj => simp at hj; subst hj; simpa [Addr.add] using hc) (fun u hu => by simp at hu; subst hu; rfl) (by omega) (by rw [hs, cells_size, hq]; simp; omega)
  refine ⟨_, hr', ?_, ⟨rfl, rfl, rfl, by simp [World.setRow], fun k _ hne => setRow_other w g k _ (fun e => hne (by rw [e]))⟩⟩
  have h2 := setRow_heap w g (cells q) ((cells q).toList.take (l.length * i0.size) ++ [Value.int .u8 (b.toNat : Nat)] ++ (cells q).toList.drop (l.length * i0.size + [Value.int .u8 (b.toNat : Nat)].length)).toArray 5 (0, 0) hrq
  refine h2.trans ?_
  rw [hs, Nat.mul_one]
  unfold cells
  rw [← e]
  simp
theorem wp_append_pad {o : Oper} {a : Act} {w : World} {K : Act → World → Prop} {Q : Exit → Act → World → Prop} (s x : Operand)
    (ho : o.op = .call { callee := .builtin .append, args := #[s, x], argTypes := #[24, 24] })
    (g n cap : Nat) (l : List UInt8) (b : UInt8) (hs : a.eval s = .slice (some ⟨g, 0, none⟩) n cap) (hn : l.length = n) (hr : Pad2 w g cap l b) (hl : n < cap) (gb c : Nat) (hx : a.eval x = .slice (some ⟨gb, 0, none⟩) 1 c)
    (hc : w.cell? ⟨gb, 0, none⟩ = some (.int .u8 (b.toNat : Nat)))
    (h : ∀ w', Row w' g (pad cap (l ++ [b])) → w.grownBy w' (some g) → K (a.put o.dst (.slice (some ⟨g, 0, none⟩) (n + 1) cap)) w') : o.wp Tryz.prog a w K Q := by
  subst hn
  obtain ⟨w', hrun, k2, k3⟩ := run_append_pad w o.type g cap l b hr hl gb c hc
  unfold Oper.wp execOp
  simp only [ho, resolve, invoke, builtin, Sem.run_bind, Sem.run_pure, Result.andThen_ok, List.map_toArray, List.map_cons, List.map_nil, hs, hx, hrun]
  exact h w' k2 k3
/-- a step that writes at most this row's next byte -/
structure T3 (g cap : Nat) (l : List UInt8) (b : UInt8) (w w' : World) : Prop where
  k : Keeps (fun i => i = g) w w'
  p : Pad2 w g cap l b → Pad2 w' g cap l b
  q : Row w g (pad cap (l ++ [b])) → Row w' g (pad cap (l ++ [b]))
theorem T3.tr (g cap : Nat) (l : List UInt8) (b : UInt8) (x y z : World) (h : T3 g cap l b x y) (h' : T3 g cap l b y z) : T3 g cap l b x z := ⟨h.k.trans h'.k, fun e => h'.p (h.p e), fun e => h'.q (h.q e)⟩
theorem T3.below {g cap : Nat} {l : List UInt8} {b : UInt8} {w w' : World} (h : Below w.heap.size w w') : T3 g cap l b w w' :=
  have k : ∀ q, Row w g q → Row w' g q := fun _ e => (h.block g e.lt).trans e
  ⟨.of_below _ h, fun e => e.imp (k _) (k _), k _⟩
theorem T3.refl {g cap : Nat} {l : List UInt8} {b : UInt8} (w : World) : T3 g cap l b w w := .below (Below.refl _ _)
theorem T3.grow {g cap : Nat} {l : List UInt8} {b : UInt8} {w w' : World} (h : w.grownBy w' (some g)) (hr : Row w' g (pad cap (l ++ [b]))) : T3 g cap l b w w' := ⟨.grow h rfl, fun _ => .inr hr, fun _ => hr⟩
def SQ.val (g cap : Nat) (l : List UInt8) (b : UInt8) : Drawn.SQ (T3 g cap l b) := ⟨fun v w => ∃ gb, v = .slice (some ⟨gb, 0, none⟩) 1 1 ∧ w.cell? ⟨gb, 0, none⟩ = some (.int .u8 (b.toNat : Nat)) ∧ gb ≠ g, fun _ _ _ h t => by
  obtain ⟨gb, h1, h2, h3⟩ := h; exact ⟨gb, h1, t.k.cell h2 h3, h3⟩⟩
def SQ.row (g cap n : Nat) (l : List UInt8) (b : UInt8) : Drawn.SQ (T3 g cap l b) := ⟨fun v w => v = .slice (some ⟨g, 0, none⟩) n cap ∧ Row w g (pad cap (l ++ [b])), fun _ _ _ h t => ⟨h.1, t.q h.2⟩⟩

/-- a gathering in block G: the points, and block Rb with the rows' heads, the rows in the blocks from R on -/
structure Gat (w : World) (G Rb R cap : Nat) (A : Option Addr) (c : Nat) (ps : List UInt8) (m : Nat → List UInt8) : Prop where
  g0 : w.cell? ⟨G, 0, none⟩ = some (.slice A ps.length c)
  g1 : w.cell? ⟨G, 1, none⟩ = some (.slice (some ⟨Rb, 0, none⟩) ps.length ps.length)
  pts : BytesAt w A ps
  hds : w.heap[Rb]? = some (.cells (heads R cap ps.length m).toArray 24 (0, 0))
  row : ∀ i, i < ps.length → Row w (R + i) (pad cap (m i))
/-- what is written when a gathering is added to -/
def GF (Rb R n : Nat) (k : Nat) : Prop := k = Rb ∨ (R ≤ k ∧ k < R + n)
/-- they lie apart -/
structure GA (G Rb R : Nat) (A : Option Addr) : Prop where
  g : G < R
  rb : Rb < R
  ne : G ≠ Rb
  a : ∀ a, A = some a → a.block < R ∧ a.block ≠ Rb
section
variable {w w' : World} {G Rb R cap c : Nat} {A : Option Addr} {ps : List UInt8} {m m' : Nat → List UInt8}
theorem Gat.congr (h : Gat w G Rb R cap A c ps m) (e : ∀ i, i < ps.length → m i = m' i) : Gat w G Rb R cap A c ps m' :=
  ⟨h.g0, h.g1, h.pts, by rw [← heads_congr e]; exact h.hds, fun i hi => by rw [← e i hi]; exact h.row i hi⟩
theorem Gat.below (h : Gat w G Rb R cap A c ps m) (hb : Below w.heap.size w w') : Gat w' G Rb R cap A c ps m :=
  ⟨(hb.cell (p := ⟨G, 0, none⟩) (cell_lt h.g0)).trans h.g0, (hb.cell (p := ⟨G, 1, none⟩) (cell_lt h.g1)).trans h.g1, h.pts.below hb,
    (hb.block Rb (Array.getElem?_eq_some_iff.1 h.hds).1).trans h.hds, fun i hi => (hb.block _ (h.row i hi).lt).trans (h.row i hi)⟩
theorem Gat.lt (h : Gat w G Rb R cap A c ps m) : G < w.heap.size ∧ Rb < w.heap.size ∧ ∀ i, i < ps.length → R + i < w.heap.size :=
  ⟨cell_lt h.g0, (Array.getElem?_eq_some_iff.1 h.hds).1, fun i hi => (h.row i hi).lt⟩
theorem Gat.head (h : Gat w G Rb R cap A c ps m) {k : Nat} (hk : k < ps.length) : w.cell? ⟨Rb, k, none⟩ = some (.slice (some ⟨R + k, 0, none⟩) (m k).length cap) := by
  rw [cell_of_row w Rb k _ 24 (0, 0) h.hds, List.getElem?_toArray, heads_get _ _ _ _ _ hk]; rfl
theorem Gat.frozen (h : Gat w G Rb R cap A c ps m) (k : Nat) : w.frozen? ⟨Rb, k, none⟩ = false := by simp [World.frozen?, h.hds]
theorem GA.gf (h : GA G Rb R A) {n : Nat} : ¬ GF Rb R n G := fun e => by
  rcases e with e | e
  · exact h.ne e
  · have := h.g; omega
theorem GA.af (h : GA G Rb R A) {n : Nat} : ∀ a, A = some a → ¬ GF Rb R n a.block := fun a e k => by
  have := h.a a e
  rcases k with k | k <;> omega
/-- one row has a byte more -/
theorem Gat.put (h : Gat w G Rb R cap A c ps m) (ha : GA G Rb R A) {k : Nat} (hk : k < ps.length) {b : UInt8} {w1 : World} {l : List UInt8} {ll : Nat} (hl : m k = l) (hll : l.length = ll) (hq : Keeps (fun i => i = R + k) w w1) (hr : Row w1 (R + k) (pad cap (l ++ [b]))) :
    Gat (w1.setCell ⟨Rb, k, none⟩ (.slice (some ⟨R + k, 0, none⟩) (ll + 1) cap)) G Rb R cap A c ps (fun i => if i = k then l ++ [b] else m i) ∧ Keeps (GF Rb R ps.length) w (w1.setCell ⟨Rb, k, none⟩ (.slice (some ⟨R + k, 0, none⟩) (ll + 1) cap)) := by
  have hrb := ha.rb
  have hs := heads_set R cap ps.length m k b hk
  rw [hl, hll] at hs
  have hs2 : (fun i => if i = k then m i ++ [b] else m i) = fun i => if i = k then l ++ [b] else m i := funext fun i => by
    by_cases e : i = k
    · rw [if_pos e, if_pos e, e, hl]
    · rw [if_neg e, if_neg e]
  rw [hs2] at hs
  have q1 : Keeps (GF Rb R ps.length) w w1 := hq.mono fun i _ e => .inr (by subst e; exact ⟨by omega, by omega⟩)
  have q2 : Keeps (GF Rb R ps.length) w (w1.setCell ⟨Rb, k, none⟩ (.slice (some ⟨R + k, 0, none⟩) (ll + 1) cap)) := q1.trans (Keeps.set _ _ _ _ (.inl rfl))
  have e1 : w1.heap[Rb]? = some (.cells (heads R cap ps.length m).toArray 24 (0, 0)) := (hq.block Rb h.lt.2.1 (by omega)).trans h.hds
  refine ⟨⟨q2.cell h.g0 ha.gf, q2.cell h.g1 ha.gf, q2.bytes h.pts ha.af, ?_, fun i hi => ?_⟩, q2⟩
  · have e : (heads R cap ps.length m).toArray.setIfInBounds k (.slice (some ⟨R + k, 0, none⟩) (ll + 1) cap) = (heads R cap ps.length (fun i => if i = k then l ++ [b] else m i)).toArray := by
      rw [List.setIfInBounds_toArray, hs]
    simp [World.setCell, Array.getElem?_modify, e1, e]
  · have hne : R + i ≠ Rb := by omega
    have f1 : (w1.setCell ⟨Rb, k, none⟩ (.slice (some ⟨R + k, 0, none⟩) (ll + 1) cap)).heap[R + i]? = w1.heap[R + i]? := Below.heap_setCell _ _ _ _ hne
    by_cases e : i = k
    · subst e
      rw [if_pos rfl]
      exact f1.trans hr
    · rw [if_neg e]
      exact f1.trans ((hq.block (R + i) (h.lt.2.2 i hi) (by omega)).trans (h.row i hi))
end
end Go.Proofs.YtchcgiapjhmflaaGreat.Deal

/- package deal: a stripe's values; what a gathering is told of them -/
set_option maxRecDepth 100000
namespace Go.Proofs.YtchcgiapjhmflaaGreat.Deal
open Go.RowKit PlanM StripeM DealM Plan Stripe

end Go.Proofs.YtchcgiapjhmflaaGreat.Deal

/- package deal: gather -/
set_option maxRecDepth 100000
namespace Go.Proofs.YtchcgiapjhmflaaGreat.Deal
open Go.RowKit PlanM StripeM DealM Plan Stripe

def SP.pts (B : Nat) (l : List UInt8) : Drawn.SP := ⟨fun v w => Own w B v l, fun _ _ _ h hb => Own.below h hb⟩
def SP.nils (B n : Nat) : Drawn.SP := ⟨fun v w => ∃ g, B ≤ g ∧ v = .slice (some ⟨g, 0, none⟩) n n ∧ w.heap[g]? = some (.cells (nilRows n).toArray 24 (0, 0)), fun _ _ _ h hb => by
  obtain ⟨g, h1, h2, h3⟩ := h; exact ⟨g, h1, h2, (hb.block g (Array.getElem?_eq_some_iff.1 h3).1).trans h3⟩⟩
def SP.pair (B : Nat) (l : List UInt8) (n : Nat) : Drawn.SP := ⟨fun v w => ∃ X d gr, v = .agg #[.slice X l.length d, .slice (some ⟨gr, 0, none⟩) n n] ∧ Own w B (.slice X l.length d) l ∧ B ≤ gr ∧ w.heap[gr]? = some (.cells (nilRows n).toArray 24 (0, 0)), fun _ _ _ h hb => by
  obtain ⟨X, d, gr, h1, h2, h3, h4⟩ := h; exact ⟨X, d, gr, h1, h2.below hb, h3, (hb.block gr (Array.getElem?_eq_some_iff.1 h4).1).trans h4⟩⟩
theorem make_room (cap : Nat) (hn : cap ≤ 1048576) (w : World) :
    (Instr.makeSlice 24 (.int .i64 0) (.int .i64 (cap : Int))).run Tryz.prog w = .ok (.slice (some ⟨w.heap.size, 0, none⟩) 0 cap) (w.alloc (.cells (cells (List.replicate cap 0)) 5)) := by
  obtain ⟨i0, hi, hz, hs, hb⟩ := u8_info'
  have hr := run_make (P := Tryz.prog) w 24 5 i0 _ Tryz.underlying24 hi hz .i64 .i64 0 cap (by omega) (by omega) (by rw [hb]; omega) (by omega)
  simp only [Int.toNat_natCast] at hr
  have : madeCells (Value.int .u8 0).cells cap = cells (List.replicate cap 0) := by
    apply Array.ext'
    rw [show (Value.int .u8 0).cells = #[.int .u8 0] from rfl, toList_madeCells_one]
    simp [cells, vals]
  rw [hr, hs, Nat.mul_one, this]
  rfl

/-- the rows, k of them made -/
def hdsTo (R cap n k : Nat) : List Value := (List.range n).map fun i => if i < k then head R cap (fun _ => []) i else .slice none 0 0
theorem hdsTo_len (R cap n k : Nat) : (hdsTo R cap n k).length = n := by unfold hdsTo; simp
theorem hdsTo_zero (R cap n : Nat) : hdsTo R cap n 0 = nilRows n := by
  unfold hdsTo nilRows
  refine List.ext_getElem (by simp) fun i _ _ => by simp
theorem hdsTo_all (R cap n : Nat) : hdsTo R cap n n = heads R cap n (fun _ => []) := by
  unfold hdsTo heads
  exact List.map_congr_left fun i hi => if_pos (List.mem_range.mp hi)
theorem hdsTo_set (R cap n k : Nat) : (hdsTo R cap n k).set k (.slice (some ⟨R + k, 0, none⟩) 0 cap) = hdsTo R cap n (k + 1) := by
  refine List.ext_getElem (by rw [List.length_set, hdsTo_len, hdsTo_len]) fun i h1 h2 => ?_
  rw [List.getElem_set]
  unfold hdsTo head
  simp only [List.getElem_map, List.getElem_range, List.length_nil]
  by_cases e : k = i
  · subst e; rw [if_pos rfl, if_pos (by omega)]
  · rw [if_neg e]
    by_cases e2 : i < k
    · rw [if_pos e2, if_pos (by omega)]
    · rw [if_neg e2, if_neg (by omega)]
structure GTo (W : World) (Rb R cap n k : Nat) : Prop where
  hds : W.heap[Rb]? = some (.cells (hdsTo R cap n k).toArray 24 (0, 0))
  row : ∀ i, i < k → Row W (R + i) (List.replicate cap 0)
  size : W.heap.size = R + k
theorem GTo.slot {W : World} {Rb R cap n k : Nat} (h : GTo W Rb R cap n k) (hk : k < n) : (∃ v, W.cell? ⟨Rb, k, none⟩ = some v) ∧ W.frozen? ⟨Rb, k, none⟩ = false := by
  refine ⟨⟨(hdsTo R cap n k)[k]'(by rw [hdsTo_len]; exact hk), ?_⟩, by simp [World.frozen?, h.hds]⟩
  rw [cell_of_row W Rb k _ 24 (0, 0) h.hds, List.getElem?_toArray, List.getElem?_eq_getElem]
theorem GTo.step {W W' : World} {Rb R cap n k : Nat} (h : GTo W Rb R cap n k) (hRb : Rb < R) (he : W'.heap = ((W.setCell ⟨Rb, k, none⟩ (.slice (some ⟨R + k, 0, none⟩) 0 cap)).alloc (.cells (cells (List.replicate cap 0)) 5)).heap) : GTo W' Rb R cap n (k + 1) := by
  have hz := h.size
  have hz2 : (W.setCell ⟨Rb, k, none⟩ (.slice (some ⟨R + k, 0, none⟩) 0 cap)).heap.size = R + k := by simp [World.setCell]; exact hz
  have e : (hdsTo R cap n k).toArray.setIfInBounds k (.slice (some ⟨R + k, 0, none⟩) 0 cap) = (hdsTo R cap n (k + 1)).toArray := by rw [List.setIfInBounds_toArray, hdsTo_set]
  have e1 := h.hds
  refine ⟨?_, fun i hi => ?_, ?_⟩
  · rw [he]
    refine (Below.heap_alloc _ _ _ (by omega)).trans ?_
    simp [World.setCell, Array.getElem?_modify, e1, e]
  · have hne : R + i ≠ Rb := by omega
    unfold Row
    rw [he]
    by_cases e3 : i = k
    · subst e3
      have := heap_alloc_new (W.setCell ⟨Rb, i, none⟩ (.slice (some ⟨R + i, 0, none⟩) 0 cap)) (.cells (cells (List.replicate cap 0)) 5)
      rw [hz2] at this
      exact this
    · exact (Below.heap_alloc _ _ _ (by omega)).trans ((Below.heap_setCell _ ⟨Rb, k, none⟩ _ _ hne).trans (h.row i (by omega)))
  · rw [he]; simp [World.setCell]; omega

end Go.Proofs.YtchcgiapjhmflaaGreat.Deal

/- package deal: eachPolynomial -/
set_option maxRecDepth 100000
namespace Go.Proofs.YtchcgiapjhmflaaGreat.Deal
open Go.RowKit PlanM StripeM DealM Plan Stripe

/-- what eachPolynomial reads, in each round -/
structure EP (W : World) (b0 gf gp : Nat) (p : P) (X Y A1 A2 : Option Addr) (sec rt tape : List UInt8) (m : List (List UInt8)) : Prop where
  tab : Gf.Tab W b0
  f : W.cell? ⟨gf, 0, none⟩ = some (.pointer (some ⟨b0, 0, none⟩))
  six : Six W gp p
  xs : BytesAt W X sec
  ys : BytesAt W Y rt
  tape : BytesAt W A2 tape
  rows : RowsAt W A1 m
section
variable {W W' : World} {b0 gf gp : Nat} {p : P} {X Y A1 A2 : Option Addr} {sec rt tape : List UInt8} {m : List (List UInt8)}
theorem EP.below (h : EP W b0 gf gp p X Y A1 A2 sec rt tape m) (hb : Below W.heap.size W W') : EP W' b0 gf gp p X Y A1 A2 sec rt tape m :=
  ⟨h.tab.below hb, (hb.cell (p := ⟨gf, 0, none⟩) (cell_lt h.f)).trans h.f, h.six.below hb, h.xs.below hb, h.ys.below hb, h.tape.below hb, h.rows.below hb⟩
theorem six_keep {F : Nat → Prop} {w w' : World} {g : Nat} {p : P} (h : Six w g p) (q : Keeps F w w') (hg : ¬ F g) : Six w' g p :=
  ⟨q.cell h.c0 hg, q.cell h.c1 hg, q.cell h.c2 hg, q.cell h.c3 hg, q.cell h.c4 hg, q.cell h.c5 hg⟩
theorem EP.keep {F : Nat → Prop} (h : EP W b0 gf gp p X Y A1 A2 sec rt tape m) (q : Keeps F W W') (hf : ¬ F gf) (hp : ¬ F gp) (hx : ∀ a, X = some a → ¬ F a.block) (hy : ∀ a, Y = some a → ¬ F a.block)
    (ht : Gf.Tab W' b0) (htp : BytesAt W' A2 tape) (hr : RowsAt W' A1 m) : EP W' b0 gf gp p X Y A1 A2 sec rt tape m :=
  ⟨ht, q.cell h.f hf, six_keep h.six q hp, q.bytes h.xs hx, q.bytes h.ys hy, htp, hr⟩
end
/-- the polynomials' values at a point -/
def valsAt (q : List (List UInt8)) (x : UInt8) : List UInt8 := q.map fun r => PolyM.ev r x
theorem valsAt_len (q : List (List UInt8)) (x : UInt8) : (valsAt q x).length = q.length := by unfold valsAt; simp

end Go.Proofs.YtchcgiapjhmflaaGreat.Deal

/- package deal: Cost, and the shares of some custodians -/
set_option maxRecDepth 100000
namespace Go.Proofs.YtchcgiapjhmflaaGreat.Deal
open Go.RowKit PlanM StripeM DealM Plan Stripe

/-- rows of the call's own, each of them new -/
def RowsNew (w w' : World) (v : Value) (m : List (List UInt8)) : Prop := ∀ A c, v = .slice A m.length c → ∀ i, (h : i < m.length) → ∃ b o B d, A = some ⟨b, o, none⟩ ∧ w'.cell? ⟨b, o + i, none⟩ = some (.slice B m[i].length d) ∧ m[i].length ≤ d ∧ d ≤ maxLen ∧ BytesAt w' B m[i] ∧ New w B
def RetOwnE (w : World) (m : List (List UInt8)) (err : Int) (e : Ending) (w' : World) : Prop :=
  ∃ v, e = .returned (.tuple #[v, .int .i64 err]) ∧ OwnM w' w.heap.size v m ∧ RowsNew w w' v m ∧ Below w.heap.size w w'
theorem RetOwnE.rows {w w' : World} {m : List (List UInt8)} {err : Int} {e : Ending} (h : RetOwnE w m err e w') : RetRowsE w m err e w' := by
  obtain ⟨v, rfl, h1, _, h3⟩ := h
  obtain ⟨A, c, rfl, k1, k2, k3, k4⟩ := h1.rows
  exact ⟨A, c, rfl, k1, k2, k3, h3, k4⟩
theorem RowsNew.nil (w w' : World) (v : Value) : RowsNew w w' v [] := fun _ _ _ i hi => absurd hi (by simp)
theorem Gat.own {w w' : World} {G Rb R cap c : Nat} {B : Option Addr} {ps : List UInt8} {m : Nat → List UInt8} {l : List (List UInt8)} (h : Gat w' G Rb R cap B c ps m) (ha : GA G Rb R B) (hcap : cap ≤ 1048576) (hps : ps.length ≤ 1048576) (h1 : w.heap.size ≤ Rb) (_h2 : w.heap.size ≤ R)
    (hl : l.length = ps.length) (hm : ∀ i, (h : i < l.length) → m i = l[i] ∧ (m i).length = cap) : OwnM w' w.heap.size (.slice (some ⟨Rb, 0, none⟩) ps.length ps.length) l ∧ RowsNew w w' (.slice (some ⟨Rb, 0, none⟩) ps.length ps.length) l := by
  have hrb := ha.rb
  have hrow : ∀ i, (hi : i < l.length) → Row w' (R + i) l[i] := fun i hi => by
    obtain ⟨e1, e2⟩ := hm i hi
    have := h.row i (by omega)
    rw [← e2, pad_full, e1] at this
    exact this
  refine ⟨⟨heads R cap ps.length m, ⟨?_, .inr ⟨Rb, ps.length, _, by rw [hl], h1, h.hds, ?_, ?_, ?_, ?_⟩⟩, fun i hi => ?_⟩, fun A c' e i hi => ?_⟩
  · rw [heads_len, hl, Nat.mul_one]
  · omega
  · unfold maxLen; omega
  · simp [heads_len]
  · rw [hl, Nat.mul_one]
    simp only
    exact List.take_of_length_le (by rw [heads_len]; exact Nat.le_refl _)
  · obtain ⟨e1, e2⟩ := hm i hi
    refine ⟨_, some ⟨R + i, 0, none⟩, cap, heads_get _ _ _ _ _ (by omega), by show Value.slice (some ⟨R + i, 0, none⟩) (m i).length cap = _; rw [e1], by rw [← e1, e2]; exact Nat.le_refl _, by unfold maxLen; omega, (hrow i hi).bytes, fun _ a e => ?_⟩
    injection e with e; subst e
    intro e
    simp only [Value.ownBlock] at e
    injection e with e
    omega
  · injection e with e _ _
    subst e
    obtain ⟨e1, e2⟩ := hm i hi
    refine ⟨Rb, 0, some ⟨R + i, 0, none⟩, cap, rfl, ?_, by rw [← e1, e2]; exact Nat.le_refl _, by unfold maxLen; omega, (hrow i hi).bytes, New.at w (by omega)⟩
    rw [Nat.zero_add, h.head (by omega), e1]

end Go.Proofs.YtchcgiapjhmflaaGreat.Deal

/- the contracts of package deal -/
set_option maxRecDepth 100000
namespace Go.Proofs.YtchcgiapjhmflaaGreat.Deal
open Go.RowKit PlanM StripeM DealM Plan Stripe

theorem RetOwnE.after {w w1 : World} {m : List (List UInt8)} {err : Int} {e : Ending} {w' : World} (hb : Below w.heap.size w w1) (h : RetOwnE w1 m err e w') : RetOwnE w m err e w' := by
  obtain ⟨v, h1, ⟨vs, h2, h3⟩, h4, h5⟩ := h
  refine ⟨v, h1, ⟨vs, ⟨h2.1, ?_⟩, h3⟩, fun A c e i hi => ?_, bstep hb h5⟩
  · rcases h2.2 with h | ⟨g, cap, cur, k1, k2, k3⟩
    · exact .inl h
    · exact .inr ⟨g, cap, cur, k1, Nat.le_trans hb.size k2, k3⟩
  · obtain ⟨b, o, B, d, q1, q2, q3, q4, q5, q6⟩ := h4 A c e i hi
    exact ⟨b, o, B, d, q1, q2, q3, q4, q5, q6.mono hb.size⟩
theorem all_in (n : Nat) (hn : n ≤ 1048576) : ∀ x ∈ all n, In64 x := fun x hx => by
  unfold all at hx
  obtain ⟨j, hj, rfl⟩ := List.mem_map.mp hx
  have := List.mem_range.mp hj
  unfold In64; omega
theorem allA_le (p : P) (_hp : p.In) : p.allA.length ≤ 1048576 ∧ ∀ x ∈ p.allA, In64 x := by
  unfold P.allA
  by_cases hM : p.May
  · rw [P.right_yes hM, if_pos rfl, all_len]
    unfold P.May at hM
    exact ⟨by omega, all_in _ (by omega)⟩
  · rw [P.right_no hM, if_neg (by simp)]
    exact ⟨by simp, fun x hx => by simp at hx⟩
theorem dealA_eq (p : P) (blob tape : List UInt8) : (if dealE p blob tape = 0 then p.allA.map (share (polys p blob tape)) else []) = dealA p blob tape := by
  unfold dealA
  by_cases h : dealE p blob tape = 0
  · rw [if_pos h, if_pos h]
    have hM : p.right = true := by
      rcases hr : p.right with _ | _
      · unfold dealE at h; rw [hr] at h; simp at h
      · rfl
    unfold P.allA shares; rw [hM, if_pos rfl]
  · rw [if_neg h, if_neg h]

end Go.Proofs.YtchcgiapjhmflaaGreat.Deal
