/- merged: DealA, DealB, DealC, DealD, DealE, Deal -/
import Derived.Test.YtompeiemioeohaaMS
import Derived.Test.YtompeiemioeohaaMB
import Derived.Test.YtompeiemioeohaaFlow
import Derived.Test.YtompeiemioeohaaFlowS
import Derived.Test.YtompeiemioeohaaLagr

/- package deal: what a gathering is -/
set_option maxRecDepth 100000
namespace Go.Proofs.Ytompeiemioeohaa.Deal
open Go.RowKit PlanM StripeM DealM Plan Stripe

/-- a row that is being put together, in a block that has room for cap bytes -/
def head (R cap : Nat) (m : Nat → List UInt8) (i : Nat) : Value := .slice (some ⟨R + i, 0, none⟩) (m i).length cap
def heads (R cap n : Nat) (m : Nat → List UInt8) : List Value := (List.range n).map (head R cap m)
def pad (cap : Nat) (l : List UInt8) : List UInt8 := l ++ List.replicate (cap - l.length) 0
theorem heads_len (R cap n : Nat) (m : Nat → List UInt8) : (heads R cap n m).length = n := by unfold heads; simp
theorem heads_get (R cap n : Nat) (m : Nat → List UInt8) (i : Nat) (h : i < n) : (heads R cap n m)[i]? = some (head R cap m i) := by unfold heads; simp [h]
theorem heads_congr {R cap n : Nat} {m m' : Nat → List UInt8} (h : ∀ i, i < n → m i = m' i) : heads R cap n m = heads R cap n m' := by
  unfold heads
  refine List.map_congr_left fun i hi => ?_
  unfold head; rw [h i (List.mem_range.mp hi)]
theorem heads_set (R cap n : Nat) (m : Nat → List UInt8) (k : Nat) (b : UInt8) (_hk : k < n) : (heads R cap n m).set k (.slice (some ⟨R + k, 0, none⟩) ((m k).length + 1) cap) = heads R cap n (fun i => if i = k then m i ++ [b] else m i) := by
  refine List.ext_getElem? fun i => ?_
  by_cases hi : i < n
  · rw [heads_get _ _ _ _ _ hi]
    by_cases e : k = i
    · subst e
      rw [List.getElem?_set_self (by rw [heads_len]; exact hi)]
      unfold head; simp only [if_pos, List.length_append, List.length_singleton]
    · rw [List.getElem?_set_ne e, heads_get _ _ _ _ _ hi]
      have e2 : ¬ i = k := fun e' => e e'.symm
      unfold head; simp only [if_neg e2]
  · rw [List.getElem?_eq_none (by rw [List.length_set, heads_len]; omega), List.getElem?_eq_none (by rw [heads_len]; omega)]
theorem pad_len (cap : Nat) (l : List UInt8) (h : l.length ≤ cap) : (pad cap l).length = cap := by unfold pad; rw [List.length_append, List.length_replicate]; omega
theorem pad_nil (cap : Nat) : pad cap [] = List.replicate cap 0 := by unfold pad; simp
theorem pad_full (l : List UInt8) : pad l.length l = l := by unfold pad; simp
theorem pad_put (cap : Nat) (l : List UInt8) (b : UInt8) (h : l.length < cap) : (vals (pad cap l)).take l.length ++ [.int .u8 (b.toNat : Nat)] ++ (vals (pad cap l)).drop (l.length + 1) = vals (pad cap (l ++ [b])) := by
  unfold pad vals
  rw [← List.map_take, ← List.map_drop, List.take_left]
  have e : (l ++ List.replicate (cap - l.length) (0 : UInt8)).drop (l.length + 1) = List.replicate (cap - (l ++ [b]).length) 0 := by
    rw [List.drop_append, List.drop_eq_nil_of_le (by omega), List.nil_append, List.drop_replicate, List.length_append, List.length_singleton]
    congr 1
    omega
  rw [e]
  simp

theorem pad_again (cap : Nat) (l : List UInt8) (b : UInt8) : (vals (pad cap (l ++ [b]))).take l.length ++ [.int .u8 (b.toNat : Nat)] ++ (vals (pad cap (l ++ [b]))).drop (l.length + 1) = vals (pad cap (l ++ [b])) := by
  have e : vals (pad cap (l ++ [b])) = vals l ++ (.int .u8 (b.toNat : Nat) :: vals (List.replicate (cap - (l ++ [b]).length) 0)) := by unfold pad; simp [vals]
  rw [e, List.take_left' (vals_len l), List.drop_append, List.drop_eq_nil_of_le (by rw [vals_len]; omega), vals_len, Nat.add_sub_cancel_left]
  simp
/-- a row of the gathering, ahead of its next byte or behind it -/
def Pad2 (w : World) (g cap : Nat) (l : List UInt8) (b : UInt8) : Prop := Row w g (pad cap l) ∨ Row w g (pad cap (l ++ [b]))
/-- 'append(row, b)' where there is room: in place -/
theorem run_append_pad (w : World) (ty : TypeId) (g cap : Nat) (l : List UInt8) (b : UInt8) (hr : Pad2 w g cap l b) (hl : l.length < cap) (gb c : Nat) (hc : w.cell? ⟨gb, 0, none⟩ = some (.int .u8 (b.toNat : Nat))) :
    ∃ w', (Builtin.append_ #[24, 24] ty #[.slice (some ⟨g, 0, none⟩) l.length cap, .slice (some ⟨gb, 0, none⟩) 1 c]).run Try.prog w = .ok (.slice (some ⟨g, 0, none⟩) (l.length + 1) cap) w' ∧ Row w' g (pad cap (l ++ [b])) ∧ w.grownBy w' (some g) := by
  obtain ⟨i0, hi, hz, hs, hb⟩ := u8_info'
  obtain ⟨q, hq, hrq, e⟩ : ∃ q, q.length = cap ∧ Row w g q ∧ (vals q).take l.length ++ [.int .u8 (b.toNat : Nat)] ++ (vals q).drop (l.length + 1) = vals (pad cap (l ++ [b])) := by
    rcases hr with hr | hr
    · exact ⟨_, pad_len cap l (by omega), hr, pad_put cap l b hl⟩
    · exact ⟨_, pad_len cap (l ++ [b]) (by rw [List.length_append, List.length_singleton]; omega), hr, pad_again cap l b⟩
  have hr' := run_append_room (P := Try.prog) w 24 ty 5 i0 Try.underlying24 hi g l.length cap (cells q) hrq ⟨gb, 0, none⟩ 1 c [.int .u8 (b.toNat : Nat)] (by rw [hs]; rfl)
    (fun j u hj => by
      match j, hj with
      | 0, hj => simp at hj; subst hj; simpa [Addr.add] using hc) (fun u hu => by simp at hu; subst hu; rfl) (by omega) (by rw [hs, cells_size, hq]; simp; omega)
  refine ⟨_, hr', ?_, ⟨rfl, rfl, rfl, by simp [World.setRow], fun k _ hne => setRow_other w g k _ (fun e => hne (by rw [e]))⟩⟩
  have h2 := setRow_heap w g (cells q) ((cells q).toList.take (l.length * i0.size) ++ [Value.int .u8 (b.toNat : Nat)] ++ (cells q).toList.drop (l.length * i0.size + [Value.int .u8 (b.toNat : Nat)].length)).toArray 5 (0, 0) hrq
  refine h2.trans ?_
  rw [hs, Nat.mul_one]
  unfold cells
  rw [← e]
  simp
theorem wp_append_pad {o : Oper} {a : Act} {w : World} {K : Act → World → Prop} {Q : Exit → Act → World → Prop} (s x : Operand)
    (ho : o.op = .call { callee := .builtin .append, args := #[s, x], argTypes := #[24, 24] })
    (g n cap : Nat) (l : List UInt8) (b : UInt8) (hs : a.eval s = .slice (some ⟨g, 0, none⟩) n cap) (hn : l.length = n) (hr : Pad2 w g cap l b) (hl : n < cap) (gb c : Nat) (hx : a.eval x = .slice (some ⟨gb, 0, none⟩) 1 c)
    (hc : w.cell? ⟨gb, 0, none⟩ = some (.int .u8 (b.toNat : Nat)))
    (h : ∀ w', Row w' g (pad cap (l ++ [b])) → w.grownBy w' (some g) → K (a.put o.dst (.slice (some ⟨g, 0, none⟩) (n + 1) cap)) w') : o.wp Try.prog a w K Q := by
  subst hn
  obtain ⟨w', hrun, k2, k3⟩ := run_append_pad w o.type g cap l b hr hl gb c hc
  unfold Oper.wp execOp
  simp only [ho, resolve, invoke, builtin, Sem.run_bind, Sem.run_pure, Result.andThen_ok, List.map_toArray, List.map_cons, List.map_nil, hs, hx, hrun]
  exact h w' k2 k3
/-- a step that writes at most this row's next byte -/
structure T3 (g cap : Nat) (l : List UInt8) (b : UInt8) (w w' : World) : Prop where
  k : Keeps (fun i => i = g) w w'
  p : Pad2 w g cap l b → Pad2 w' g cap l b
  q : Row w g (pad cap (l ++ [b])) → Row w' g (pad cap (l ++ [b]))
theorem T3.tr (g cap : Nat) (l : List UInt8) (b : UInt8) (x y z : World) (h : T3 g cap l b x y) (h' : T3 g cap l b y z) : T3 g cap l b x z := ⟨h.k.trans h'.k, fun e => h'.p (h.p e), fun e => h'.q (h.q e)⟩
theorem T3.below {g cap : Nat} {l : List UInt8} {b : UInt8} {w w' : World} (h : Below w.heap.size w w') : T3 g cap l b w w' :=
  have k : ∀ q, Row w g q → Row w' g q := fun _ e => (h.block g e.lt).trans e
  ⟨.of_below _ h, fun e => e.imp (k _) (k _), k _⟩
theorem T3.refl {g cap : Nat} {l : List UInt8} {b : UInt8} (w : World) : T3 g cap l b w w := .below (Below.refl _ _)
theorem T3.grow {g cap : Nat} {l : List UInt8} {b : UInt8} {w w' : World} (h : w.grownBy w' (some g)) (hr : Row w' g (pad cap (l ++ [b]))) : T3 g cap l b w w' := ⟨.grow h rfl, fun _ => .inr hr, fun _ => hr⟩
def SQ.val (g cap : Nat) (l : List UInt8) (b : UInt8) : Drawn.SQ (T3 g cap l b) := ⟨fun v w => ∃ gb, v = .slice (some ⟨gb, 0, none⟩) 1 1 ∧ w.cell? ⟨gb, 0, none⟩ = some (.int .u8 (b.toNat : Nat)) ∧ gb ≠ g, fun _ _ _ h t => by
  obtain ⟨gb, h1, h2, h3⟩ := h; exact ⟨gb, h1, t.k.cell h2 h3, h3⟩⟩
def SQ.row (g cap n : Nat) (l : List UInt8) (b : UInt8) : Drawn.SQ (T3 g cap l b) := ⟨fun v w => v = .slice (some ⟨g, 0, none⟩) n cap ∧ Row w g (pad cap (l ++ [b])), fun _ _ _ h t => ⟨h.1, t.q h.2⟩⟩

/-- a gathering in block G: the points, and block Rb with the rows' heads, the rows in the blocks from R on -/
structure Gat (w : World) (G Rb R cap : Nat) (A : Option Addr) (c : Nat) (ps : List UInt8) (m : Nat → List UInt8) : Prop where
  g0 : w.cell? ⟨G, 0, none⟩ = some (.slice A ps.length c)
  g1 : w.cell? ⟨G, 1, none⟩ = some (.slice (some ⟨Rb, 0, none⟩) ps.length ps.length)
  pts : BytesAt w A ps
  hds : w.heap[Rb]? = some (.cells (heads R cap ps.length m).toArray 24 (0, 0))
  row : ∀ i, i < ps.length → Row w (R + i) (pad cap (m i))
/-- what is written when a gathering is added to -/
def GF (Rb R n : Nat) (k : Nat) : Prop := k = Rb ∨ (R ≤ k ∧ k < R + n)
/-- they lie apart -/
structure GA (G Rb R : Nat) (A : Option Addr) : Prop where
  g : G < R
  rb : Rb < R
  ne : G ≠ Rb
  a : ∀ a, A = some a → a.block < R ∧ a.block ≠ Rb
section
variable {w w' : World} {G Rb R cap c : Nat} {A : Option Addr} {ps : List UInt8} {m m' : Nat → List UInt8}
theorem Gat.congr (h : Gat w G Rb R cap A c ps m) (e : ∀ i, i < ps.length → m i = m' i) : Gat w G Rb R cap A c ps m' :=
  ⟨h.g0, h.g1, h.pts, by rw [← heads_congr e]; exact h.hds, fun i hi => by rw [← e i hi]; exact h.row i hi⟩
theorem Gat.below (h : Gat w G Rb R cap A c ps m) (hb : Below w.heap.size w w') : Gat w' G Rb R cap A c ps m :=
  ⟨(hb.cell (p := ⟨G, 0, none⟩) (cell_lt h.g0)).trans h.g0, (hb.cell (p := ⟨G, 1, none⟩) (cell_lt h.g1)).trans h.g1, h.pts.below hb,
    (hb.block Rb (Array.getElem?_eq_some_iff.1 h.hds).1).trans h.hds, fun i hi => (hb.block _ (h.row i hi).lt).trans (h.row i hi)⟩
theorem Gat.lt (h : Gat w G Rb R cap A c ps m) : G < w.heap.size ∧ Rb < w.heap.size ∧ ∀ i, i < ps.length → R + i < w.heap.size :=
  ⟨cell_lt h.g0, (Array.getElem?_eq_some_iff.1 h.hds).1, fun i hi => (h.row i hi).lt⟩
theorem Gat.head (h : Gat w G Rb R cap A c ps m) {k : Nat} (hk : k < ps.length) : w.cell? ⟨Rb, k, none⟩ = some (.slice (some ⟨R + k, 0, none⟩) (m k).length cap) := by
  rw [cell_of_row w Rb k _ 24 (0, 0) h.hds, List.getElem?_toArray, heads_get _ _ _ _ _ hk]; rfl
theorem Gat.frozen (h : Gat w G Rb R cap A c ps m) (k : Nat) : w.frozen? ⟨Rb, k, none⟩ = false := by simp [World.frozen?, h.hds]
theorem GA.gf (h : GA G Rb R A) {n : Nat} : ¬ GF Rb R n G := fun e => by
  rcases e with e | e
  · exact h.ne e
  · have := h.g; omega
theorem GA.af (h : GA G Rb R A) {n : Nat} : ∀ a, A = some a → ¬ GF Rb R n a.block := fun a e k => by
  have := h.a a e
  rcases k with k | k <;> omega
/-- one row has a byte more -/
theorem Gat.put (h : Gat w G Rb R cap A c ps m) (ha : GA G Rb R A) {k : Nat} (hk : k < ps.length) {b : UInt8} {w1 : World} {l : List UInt8} {ll : Nat} (hl : m k = l) (hll : l.length = ll) (hq : Keeps (fun i => i = R + k) w w1) (hr : Row w1 (R + k) (pad cap (l ++ [b]))) :
    Gat (w1.setCell ⟨Rb, k, none⟩ (.slice (some ⟨R + k, 0, none⟩) (ll + 1) cap)) G Rb R cap A c ps (fun i => if i = k then l ++ [b] else m i) ∧ Keeps (GF Rb R ps.length) w (w1.setCell ⟨Rb, k, none⟩ (.slice (some ⟨R + k, 0, none⟩) (ll + 1) cap)) := by
  have hrb := ha.rb
  have hs := heads_set R cap ps.length m k b hk
  rw [hl, hll] at hs
  have hs2 : (fun i => if i = k then m i ++ [b] else m i) = fun i => if i = k then l ++ [b] else m i := funext fun i => by
    by_cases e : i = k
    · rw [if_pos e, if_pos e, e, hl]
    · rw [if_neg e, if_neg e]
  rw [hs2] at hs
  have q1 : Keeps (GF Rb R ps.length) w w1 := hq.mono fun i _ e => .inr (by subst e; exact ⟨by omega, by omega⟩)
  have q2 : Keeps (GF Rb R ps.length) w (w1.setCell ⟨Rb, k, none⟩ (.slice (some ⟨R + k, 0, none⟩) (ll + 1) cap)) := q1.trans (Keeps.set _ _ _ _ (.inl rfl))
  have e1 : w1.heap[Rb]? = some (.cells (heads R cap ps.length m).toArray 24 (0, 0)) := (hq.block Rb h.lt.2.1 (by omega)).trans h.hds
  refine ⟨⟨q2.cell h.g0 ha.gf, q2.cell h.g1 ha.gf, q2.bytes h.pts ha.af, ?_, fun i hi => ?_⟩, q2⟩
  · have e : (heads R cap ps.length m).toArray.setIfInBounds k (.slice (some ⟨R + k, 0, none⟩) (ll + 1) cap) = (heads R cap ps.length (fun i => if i = k then l ++ [b] else m i)).toArray := by
      rw [List.setIfInBounds_toArray, hs]
    simp [World.setCell, Array.getElem?_modify, e1, e]
  · have hne : R + i ≠ Rb := by omega
    have f1 : (w1.setCell ⟨Rb, k, none⟩ (.slice (some ⟨R + k, 0, none⟩) (ll + 1) cap)).heap[R + i]? = w1.heap[R + i]? := Below.heap_setCell _ _ _ _ hne
    by_cases e : i = k
    · subst e
      rw [if_pos rfl]
      exact f1.trans hr
    · rw [if_neg e]
      exact f1.trans ((hq.block (R + i) (h.lt.2.2 i hi) (by omega)).trans (h.row i hi))
end
end Go.Proofs.Ytompeiemioeohaa.Deal

/- package deal: a stripe's values; what a gathering is told of them -/
set_option maxRecDepth 100000
namespace Go.Proofs.Ytompeiemioeohaa.Deal
open Go.RowKit PlanM StripeM DealM Plan Stripe

theorem val_any (b0 bf bw : Nat) (Z : Option Addr) (q : List UInt8) (d : Nat) (x : UInt8) (w : World) (ht : Gf.Tab w b0) (hf : w.cell? ⟨bf, 0, none⟩ = some (.pointer (some ⟨b0, 0, none⟩))) (hw : w.cell? ⟨bw, 0, none⟩ = some (.slice Z q.length d)) (hZ : BytesAt w Z q) (hq : q.length ≤ 1099511627776) :
    Calls Try.prog 115 #[.int .u8 (x.toNat : Nat), .pointer (some ⟨bf, 0, none⟩), .pointer (some ⟨bw, 0, none⟩)] w fun e w' => e = .returned (.int .u8 ((PolyM.ev q x).toNat : Nat)) ∧ ∃ n, w' = w.drewN n := by
  have HT := Lib.hid ht; have HZ := Lib.hid hZ
  clear ht hZ
  go_enter Try.func115, Try.ntmps115
  go_wp2_with fail
  refine (Poly.eval_any b0 Z q d x _ HT.out HZ.out hq).mono ?_
  rintro e w1 ⟨rfl, n, rfl⟩
  go_wp2
  go_ret
  exact ⟨rfl, n, rfl⟩

set_option maxHeartbeats 2000000 in
theorem add_any (G Rb R cap c bf bw : Nat) (A : Option Addr) (ps : List UInt8) (m : Nat → List UInt8) (y : UInt8 → UInt8) (w : World) (h : Gat w G Rb R cap A c ps m) (ha : GA G Rb R A) (hn : ps.length ≤ 1048576) (hm : ∀ i, i < ps.length → (m i).length < cap) (_hcap : cap ≤ 1048576)
    (hv : ∀ (x : UInt8) (V : World), Keeps (GF Rb R ps.length) w V → Calls Try.prog 115 #[.int .u8 (x.toNat : Nat), .pointer (some ⟨bf, 0, none⟩), .pointer (some ⟨bw, 0, none⟩)] V fun e V' => e = .returned (.int .u8 ((y x).toNat : Nat)) ∧ ∃ n, V' = V.drewN n) :
    Calls Try.prog 99 #[.pointer (some ⟨G, 0, none⟩), .func (.func 115) #[] #[.pointer (some ⟨bf, 0, none⟩), .pointer (some ⟨bw, 0, none⟩)]] w fun e w' =>
      e = .returned (.tuple #[]) ∧ Gat w' G Rb R cap A c ps (fun i => m i ++ [y (PolyM.co ps i)]) ∧ Keeps (GF Rb R ps.length) w w' := by
  have e0 := h.g0
  have H := Lib.hid h; have HA := Lib.hid ha; have HM := Lib.hid hm; have HV := Lib.hid hv
  obtain ⟨n, hnn⟩ : ∃ n, n = ps.length := ⟨_, rfl⟩
  rw [← hnn] at e0 hn
  have HN := Lib.hid hnn
  clear h ha hm hv hnn
  go_enter Try.func99, Try.ntmps99
  go_wp2_with fail
  go_loopw [11] (fun i wr => ∃ k : Nat, k ≤ n ∧ i = .int .i64 k ∧ Gat wr G Rb R cap A c ps (fun i => if i < k then m i ++ [y (PolyM.co ps i)] else m i) ∧ Keeps (GF Rb R ps.length) w wr)
    (fun i _ => n - (intOf i).toNat)
  case atStart => exact ⟨0, Nat.zero_le _, rfl, H.out.congr fun i _ => by rw [if_neg (by omega)], Keeps.refl _ _⟩
  case round =>
    obtain ⟨k, hk, rfl, hg, hq⟩ := hrel
    rename World => wr
    clear e0
    have HG := Lib.hid hg; have HQ := Lib.hid hq
    clear hg hq
    by_cases hlt : k < n
    · have hkp : k < ps.length := by rw [← HN.out]; exact hlt
      obtain ⟨b, o, hA, ec⟩ := HG.out.pts k hkp
      have ek := HG.out.head hkp
      have e1 := HG.out.g1
      have ef := HG.out.frozen k
      have er := HG.out.row k hkp
      have hmk := HM.out k hkp
      simp only [Nat.lt_irrefl, if_false] at ek er
      rw [← HN.out] at e1
      subst hA
      have hx : ps[k] = PolyM.co ps k := (PolyM.co_get ps k hkp).symm
      rw [hx] at ec
      obtain ⟨x, hxx⟩ : ∃ x, x = PolyM.co ps k := ⟨_, rfl⟩
      rw [← hxx] at ec
      have HX := Lib.hid hxx
      have ER := Lib.hid er
      obtain ⟨l, hl⟩ : ∃ l, l = m k := ⟨_, rfl⟩
      rw [← hl] at ek hmk ER
      have HL := Lib.hid hl
      clear er hxx hx hl
      obtain ⟨z, hz⟩ : ∃ z, z = y x := ⟨_, rfl⟩
      have HVX := Lib.hid fun V hV => HV.out x V hV
      rw [← hz] at HVX
      have HZ := Lib.hid hz
      obtain ⟨ll, hll⟩ : ∃ ll, ll = l.length := ⟨_, rfl⟩
      rw [← hll] at ek hmk
      have HLL := Lib.hid hll
      clear hll hz
      go_wp2_with fail
      have hRk : Rb ≠ R + k := by have := HA.out.rb; omega
      have hGk : G ≠ R + k := by have := HA.out.g; omega
      have hsz := (HG.out.row k hkp).lt
      refine Drawn.wp_region_flowS (T3 (R + k) cap l z) (T3.tr _ _ _ _) 18 [Drawn.SQ.is (T3 (R + k) cap l z) (.pointer (some ⟨G, 0, none⟩)), Drawn.SQ.is (T3 (R + k) cap l z) (.pointer (some ⟨G, 0, none⟩)), Drawn.SQ.is (T3 (R + k) cap l z) (.pointer (some ⟨G, 1, none⟩)), Drawn.SQ.is (T3 (R + k) cap l z) (.slice (some ⟨Rb, 0, none⟩) n n), Drawn.SQ.is (T3 (R + k) cap l z) (.int .i64 (k : Nat)), Drawn.SQ.is (T3 (R + k) cap l z) (.pointer (some ⟨G, 0, none⟩)), Drawn.SQ.is (T3 (R + k) cap l z) (.pointer (some ⟨G, 0, none⟩)), Drawn.SQ.is (T3 (R + k) cap l z) (.pointer (some ⟨G, 1, none⟩)), Drawn.SQ.is (T3 (R + k) cap l z) (.slice (some ⟨Rb, 0, none⟩) n n), Drawn.SQ.is (T3 (R + k) cap l z) (.int .i64 (k : Nat)), Drawn.SQ.is (T3 (R + k) cap l z) (.pointer (some ⟨Rb, k, none⟩)), Drawn.SQ.is (T3 (R + k) cap l z) (.slice (some ⟨R + k, 0, none⟩) ll cap), Drawn.SQ.is (T3 (R + k) cap l z) (.func (.func 115) #[] #[.pointer (some ⟨bf, 0, none⟩), .pointer (some ⟨bw, 0, none⟩)]), Drawn.SQ.is (T3 (R + k) cap l z) (.int .u8 (x.toNat : Nat)), Drawn.SQ.is (T3 (R + k) cap l z) (.int .u8 (z.toNat : Nat)), SQ.val (R + k) cap l z, SQ.row (R + k) cap (ll + 1) l z, Drawn.SQ.is (T3 (R + k) cap l z) (.pointer (some ⟨Rb, k, none⟩))] (.below (bdraw _ 1)) (by kernel_rfl) (by kernel_rfl) ?_ ?_
      · intro i hi a w1 hb hev hdep
        rcases (show i = 0 ∨ i = 1 ∨ i = 2 ∨ i = 3 ∨ i = 4 ∨ i = 5 ∨ i = 6 ∨ i = 7 ∨ i = 8 ∨ i = 9 ∨ i = 10 ∨ i = 11 ∨ i = 12 ∨ i = 13 ∨ i = 14 ∨ i = 15 ∨ i = 16 ∨ i = 17 by omega) with rfl | rfl | rfl | rfl | rfl | rfl | rfl | rfl | rfl | rfl | rfl | rfl | rfl | rfl | rfl | rfl | rfl | rfl
        · have e0 : a.tmps[0]?.getD undef = .pointer (some ⟨G, 0, none⟩) := hev 0 rfl
          refine Drawn.wpOp_flowS (T3 (R + k) cap l z) 16 rfl rfl rfl ?_
          clear hev hdep hb
          go_simp
          exact ⟨_, rfl, rfl, .refl _⟩
        · have d0 : a.tmps[16]?.getD undef = .pointer (some ⟨G, 0, none⟩) := hdep 0 rfl
          refine Drawn.wpOp_flowS (T3 (R + k) cap l z) 17 rfl rfl rfl ?_
          clear hev hdep hb
          go_simp
          exact ⟨_, rfl, rfl, .refl _⟩
        · have d1 : a.tmps[17]?.getD undef = .pointer (some ⟨G, 0, none⟩) := hdep 1 rfl
          refine Drawn.wpOp_flowS (T3 (R + k) cap l z) 18 rfl rfl rfl ?_
          clear hev hdep hb
          go_simp
          exact ⟨_, rfl, rfl, .refl _⟩
        · have d2 : a.tmps[18]?.getD undef = .pointer (some ⟨G, 1, none⟩) := hdep 2 rfl
          refine Drawn.wpOp_flowS (T3 (R + k) cap l z) 19 rfl rfl rfl ?_
          have c1 := hb.k.cell e1 hGk
          have c2 := hb.k.cell ek hRk
          clear hev hdep hb
          go_simp
          exact ⟨_, rfl, rfl, .refl _⟩
        · have e4 : a.tmps[4]?.getD undef = .int .i64 (k : Nat) := hev 4 rfl
          refine Drawn.wpOp_flowS (T3 (R + k) cap l z) 20 rfl rfl rfl ?_
          clear hev hdep hb
          go_simp
          exact ⟨_, rfl, rfl, .refl _⟩
        · have e0 : a.tmps[0]?.getD undef = .pointer (some ⟨G, 0, none⟩) := hev 0 rfl
          refine Drawn.wpOp_flowS (T3 (R + k) cap l z) 21 rfl rfl rfl ?_
          clear hev hdep hb
          go_simp
          exact ⟨_, rfl, rfl, .refl _⟩
        · have d5 : a.tmps[21]?.getD undef = .pointer (some ⟨G, 0, none⟩) := hdep 5 rfl
          refine Drawn.wpOp_flowS (T3 (R + k) cap l z) 22 rfl rfl rfl ?_
          clear hev hdep hb
          go_simp
          exact ⟨_, rfl, rfl, .refl _⟩
        · have d6 : a.tmps[22]?.getD undef = .pointer (some ⟨G, 0, none⟩) := hdep 6 rfl
          refine Drawn.wpOp_flowS (T3 (R + k) cap l z) 23 rfl rfl rfl ?_
          clear hev hdep hb
          go_simp
          exact ⟨_, rfl, rfl, .refl _⟩
        · have d7 : a.tmps[23]?.getD undef = .pointer (some ⟨G, 1, none⟩) := hdep 7 rfl
          refine Drawn.wpOp_flowS (T3 (R + k) cap l z) 24 rfl rfl rfl ?_
          have c1 := hb.k.cell e1 hGk
          have c2 := hb.k.cell ek hRk
          clear hev hdep hb
          go_simp
          exact ⟨_, rfl, rfl, .refl _⟩
        · have e4 : a.tmps[4]?.getD undef = .int .i64 (k : Nat) := hev 4 rfl
          refine Drawn.wpOp_flowS (T3 (R + k) cap l z) 25 rfl rfl rfl ?_
          clear hev hdep hb
          go_simp
          exact ⟨_, rfl, rfl, .refl _⟩
        · have d8 : a.tmps[24]?.getD undef = .slice (some ⟨Rb, 0, none⟩) n n := hdep 8 rfl
          have d9 : a.tmps[25]?.getD undef = .int .i64 (k : Nat) := hdep 9 rfl
          refine Drawn.wpOp_flowS (T3 (R + k) cap l z) 26 rfl rfl rfl ?_
          clear hev hdep hb
          go_simp
          exact ⟨_, rfl, rfl, .refl _⟩
        · have d10 : a.tmps[26]?.getD undef = .pointer (some ⟨Rb, k, none⟩) := hdep 10 rfl
          refine Drawn.wpOp_flowS (T3 (R + k) cap l z) 27 rfl rfl rfl ?_
          have c1 := hb.k.cell e1 hGk
          have c2 := hb.k.cell ek hRk
          clear hev hdep hb
          go_simp
          exact ⟨_, rfl, rfl, .refl _⟩
        · have e1 : a.tmps[1]?.getD undef = .func (.func 115) #[] #[.pointer (some ⟨bf, 0, none⟩), .pointer (some ⟨bw, 0, none⟩)] := hev 1 rfl
          refine Drawn.wpOp_flowS (T3 (R + k) cap l z) 28 rfl rfl rfl ?_
          clear hev hdep hb
          go_simp
          exact ⟨_, rfl, rfl, .refl _⟩
        · have e5 : a.tmps[5]?.getD undef = .int .u8 (x.toNat : Nat) := hev 5 rfl
          refine Drawn.wpOp_flowS (T3 (R + k) cap l z) 29 rfl rfl rfl ?_
          clear hev hdep hb
          go_simp
          exact ⟨_, rfl, rfl, .refl _⟩
        · have d12 : a.tmps[28]?.getD undef = .func (.func 115) #[] #[.pointer (some ⟨bf, 0, none⟩), .pointer (some ⟨bw, 0, none⟩)] := hdep 12 rfl
          have d13 : a.tmps[29]?.getD undef = .int .u8 (x.toNat : Nat) := hdep 13 rfl
          refine Drawn.wpOp_flowS (T3 (R + k) cap l z) 30 rfl rfl rfl ?_
          clear hev hdep
          have C := HVX.out w1 (HQ.out.trans (hb.k.mono fun i _ e => .inr (by subst e; exact ⟨by omega, by rw [← HN.out]; omega⟩)))
          clear hb
          go_simp
          refine C.mono ?_
          rintro e w' ⟨rfl, nd, rfl⟩
          exact ⟨_, rfl, rfl, .below (bdraw _ _)⟩
        · have d14 : a.tmps[30]?.getD undef = .int .u8 (z.toNat : Nat) := hdep 14 rfl
          refine Drawn.wpOp_flowS (T3 (R + k) cap l z) 31 rfl rfl rfl ?_
          clear hev hdep
          have hz3 := hb.k.size
          clear hb
          go_simp
          exact ⟨_, rfl, ⟨w1.heap.size, rfl, by simp, by omega⟩, .below (balloc _ _)⟩
        · have d11 : a.tmps[27]?.getD undef = .slice (some ⟨R + k, 0, none⟩) ll cap := hdep 11 rfl
          obtain ⟨gb, d15, hgb, hne⟩ : (SQ.val (R + k) cap l z).p (a.tmps[31]?.getD undef) w1 := hdep 15 rfl
          refine Drawn.wpOp_flowS (T3 (R + k) cap l z) 32 rfl rfl rfl ?_
          clear hev hdep
          have P2 := hb.p (.inl ER.out)
          clear hb
          refine wp_append_pad (.tmp 27) (.tmp 31) rfl (R + k) ll cap l z (by simp only [Act.eval, Array.getD_eq_getD_getElem?]; exact d11) HLL.out.symm P2 hmk gb 1 (by simp only [Act.eval, Array.getD_eq_getD_getElem?]; exact d15) hgb ?_
          intro w2 hr2 hg2
          exact ⟨_, rfl, ⟨rfl, hr2⟩, .grow hg2 hr2⟩
        · have d3 : a.tmps[19]?.getD undef = .slice (some ⟨Rb, 0, none⟩) n n := hdep 3 rfl
          have d4 : a.tmps[20]?.getD undef = .int .i64 (k : Nat) := hdep 4 rfl
          refine Drawn.wpOp_flowS (T3 (R + k) cap l z) 33 rfl rfl rfl ?_
          clear hev hdep hb
          go_simp
          exact ⟨_, rfl, rfl, .refl _⟩
      · intro xq w1 hb hxq
        have vq0 : xq 0 = .pointer (some ⟨G, 0, none⟩) := hxq 0 (by omega)
        have vq1 : xq 1 = .pointer (some ⟨G, 0, none⟩) := hxq 1 (by omega)
        have vq2 : xq 2 = .pointer (some ⟨G, 1, none⟩) := hxq 2 (by omega)
        have vq3 : xq 3 = .slice (some ⟨Rb, 0, none⟩) n n := hxq 3 (by omega)
        have vq4 : xq 4 = .int .i64 (k : Nat) := hxq 4 (by omega)
        have vq5 : xq 5 = .pointer (some ⟨G, 0, none⟩) := hxq 5 (by omega)
        have vq6 : xq 6 = .pointer (some ⟨G, 0, none⟩) := hxq 6 (by omega)
        have vq7 : xq 7 = .pointer (some ⟨G, 1, none⟩) := hxq 7 (by omega)
        have vq8 : xq 8 = .slice (some ⟨Rb, 0, none⟩) n n := hxq 8 (by omega)
        have vq9 : xq 9 = .int .i64 (k : Nat) := hxq 9 (by omega)
        have vq10 : xq 10 = .pointer (some ⟨Rb, k, none⟩) := hxq 10 (by omega)
        have vq11 : xq 11 = .slice (some ⟨R + k, 0, none⟩) ll cap := hxq 11 (by omega)
        have vq12 : xq 12 = .func (.func 115) #[] #[.pointer (some ⟨bf, 0, none⟩), .pointer (some ⟨bw, 0, none⟩)] := hxq 12 (by omega)
        have vq13 : xq 13 = .int .u8 (x.toNat : Nat) := hxq 13 (by omega)
        have vq14 : xq 14 = .int .u8 (z.toNat : Nat) := hxq 14 (by omega)
        obtain ⟨vq16, hrow⟩ : (SQ.row (R + k) cap (ll + 1) l z).p (xq 16) w1 := hxq 16 (by omega)
        have vq17 : xq 17 = .pointer (some ⟨Rb, k, none⟩) := hxq 17 (by omega)
        show wpList _ _ _ _ (Drawn.acts _ [(33, some (xq 17)), (32, some (xq 16)), (31, some (xq 15)), (30, some (xq 14)), (29, some (xq 13)), (28, some (xq 12)), (27, some (xq 11)), (26, some (xq 10)), (25, some (xq 9)), (24, some (xq 8)), (23, some (xq 7)), (22, some (xq 6)), (21, some (xq 5)), (20, some (xq 4)), (19, some (xq 3)), (18, some (xq 2)), (17, some (xq 1)), (16, some (xq 0))]) _
        rw [vq0, vq1, vq2, vq3, vq4, vq5, vq6, vq7, vq8, vq9, vq10, vq11, vq12, vq13, vq14, vq16, vq17]
        clear hxq vq0 vq1 vq2 vq3 vq4 vq5 vq6 vq7 vq8 vq9 vq10 vq11 vq12 vq13 vq14 vq16 vq17
        generalize xq 15 = yq15
        clear xq
        simp only [Drawn.acts, List.drop_succ_cons, List.drop_zero]
        go_simp
        have cs := hb.k.cell ek hRk
        have fs := hb.k.frozen ek hRk ef
        have HR2 := Lib.hid hrow; have HB := Lib.hid hb
        clear hrow hb
        go_wp2_with fail
        go_roundw
        case rel =>
          obtain ⟨g1, g2⟩ := HG.out.put HA.out hkp (l := l) (ll := ll) (by rw [HL.out]; simp) HLL.out.symm HB.out.k HR2.out
          refine ⟨k + 1, by omega, by go_num, g1.congr fun i _ => ?_, HQ.out.trans g2⟩
          by_cases e : i = k
          · subst e
            rw [if_pos rfl, if_pos (by omega), HL.out, HZ.out, HX.out]
          · rw [if_neg e]
            by_cases e2 : i < k
            · rw [if_pos e2, if_pos (by omega)]
            · rw [if_neg e2, if_neg (by omega)]
        case measure => simp [intOf] <;> omega
    · obtain rfl : k = n := by omega
      go_wp2_with fail
      go_end0
      exact ⟨rfl, HG.out.congr fun i hi => by rw [if_pos (by rw [HN.out]; exact hi)], HQ.out⟩
end Go.Proofs.Ytompeiemioeohaa.Deal

/- package deal: gather -/
set_option maxRecDepth 100000
namespace Go.Proofs.Ytompeiemioeohaa.Deal
open Go.RowKit PlanM StripeM DealM Plan Stripe

def SP.pts (B : Nat) (l : List UInt8) : Drawn.SP := ⟨fun v w => Own w B v l, fun _ _ _ h hb => Own.below h hb⟩
def SP.nils (B n : Nat) : Drawn.SP := ⟨fun v w => ∃ g, B ≤ g ∧ v = .slice (some ⟨g, 0, none⟩) n n ∧ w.heap[g]? = some (.cells (nilRows n).toArray 24 (0, 0)), fun _ _ _ h hb => by
  obtain ⟨g, h1, h2, h3⟩ := h; exact ⟨g, h1, h2, (hb.block g (Array.getElem?_eq_some_iff.1 h3).1).trans h3⟩⟩
def SP.pair (B : Nat) (l : List UInt8) (n : Nat) : Drawn.SP := ⟨fun v w => ∃ X d gr, v = .agg #[.slice X l.length d, .slice (some ⟨gr, 0, none⟩) n n] ∧ Own w B (.slice X l.length d) l ∧ B ≤ gr ∧ w.heap[gr]? = some (.cells (nilRows n).toArray 24 (0, 0)), fun _ _ _ h hb => by
  obtain ⟨X, d, gr, h1, h2, h3, h4⟩ := h; exact ⟨X, d, gr, h1, h2.below hb, h3, (hb.block gr (Array.getElem?_eq_some_iff.1 h4).1).trans h4⟩⟩
def SP.gat (B : Nat) (l : List UInt8) (n : Nat) : Drawn.SP := ⟨fun v w => ∃ G X d gr, B ≤ G ∧ v = .pointer (some ⟨G, 0, none⟩) ∧ w.heap[G]? = some (.cells #[.slice X l.length d, .slice (some ⟨gr, 0, none⟩) n n] 113 (0, 0)) ∧ Own w B (.slice X l.length d) l ∧ B ≤ gr ∧ w.heap[gr]? = some (.cells (nilRows n).toArray 24 (0, 0)), fun _ _ _ h hb => by
  obtain ⟨G, X, d, gr, h1, h2, h3, h4, h5, h6⟩ := h; exact ⟨G, X, d, gr, h1, h2, (hb.block G (Array.getElem?_eq_some_iff.1 h3).1).trans h3, h4.below hb, h5, (hb.block gr (Array.getElem?_eq_some_iff.1 h6).1).trans h6⟩⟩

theorem make_room (cap : Nat) (hn : cap ≤ 1048576) (w : World) :
    (Instr.makeSlice 24 (.int .i64 0) (.int .i64 (cap : Int))).run Try.prog w = .ok (.slice (some ⟨w.heap.size, 0, none⟩) 0 cap) (w.alloc (.cells (cells (List.replicate cap 0)) 5)) := by
  obtain ⟨i0, hi, hz, hs, hb⟩ := u8_info'
  have hr := run_make (P := Try.prog) w 24 5 i0 _ Try.underlying24 hi hz .i64 .i64 0 cap (by omega) (by omega) (by rw [hb]; omega) (by omega)
  simp only [Int.toNat_natCast] at hr
  have : madeCells (Value.int .u8 0).cells cap = cells (List.replicate cap 0) := by
    apply Array.ext'
    rw [show (Value.int .u8 0).cells = #[.int .u8 0] from rfl, toList_madeCells_one]
    simp [cells, vals]
  rw [hr, hs, Nat.mul_one, this]
  rfl

/-- the rows, k of them made -/
def hdsTo (R cap n k : Nat) : List Value := (List.range n).map fun i => if i < k then head R cap (fun _ => []) i else .slice none 0 0
theorem hdsTo_len (R cap n k : Nat) : (hdsTo R cap n k).length = n := by unfold hdsTo; simp
theorem hdsTo_zero (R cap n : Nat) : hdsTo R cap n 0 = nilRows n := by
  unfold hdsTo nilRows
  refine List.ext_getElem (by simp) fun i _ _ => by simp
theorem hdsTo_all (R cap n : Nat) : hdsTo R cap n n = heads R cap n (fun _ => []) := by
  unfold hdsTo heads
  exact List.map_congr_left fun i hi => if_pos (List.mem_range.mp hi)
theorem hdsTo_set (R cap n k : Nat) : (hdsTo R cap n k).set k (.slice (some ⟨R + k, 0, none⟩) 0 cap) = hdsTo R cap n (k + 1) := by
  refine List.ext_getElem (by rw [List.length_set, hdsTo_len, hdsTo_len]) fun i h1 h2 => ?_
  rw [List.getElem_set]
  unfold hdsTo head
  simp only [List.getElem_map, List.getElem_range, List.length_nil]
  by_cases e : k = i
  · subst e; rw [if_pos rfl, if_pos (by omega)]
  · rw [if_neg e]
    by_cases e2 : i < k
    · rw [if_pos e2, if_pos (by omega)]
    · rw [if_neg e2, if_neg (by omega)]
structure GTo (W : World) (Rb R cap n k : Nat) : Prop where
  hds : W.heap[Rb]? = some (.cells (hdsTo R cap n k).toArray 24 (0, 0))
  row : ∀ i, i < k → Row W (R + i) (List.replicate cap 0)
  size : W.heap.size = R + k
theorem GTo.slot {W : World} {Rb R cap n k : Nat} (h : GTo W Rb R cap n k) (hk : k < n) : (∃ v, W.cell? ⟨Rb, k, none⟩ = some v) ∧ W.frozen? ⟨Rb, k, none⟩ = false := by
  refine ⟨⟨(hdsTo R cap n k)[k]'(by rw [hdsTo_len]; exact hk), ?_⟩, by simp [World.frozen?, h.hds]⟩
  rw [cell_of_row W Rb k _ 24 (0, 0) h.hds, List.getElem?_toArray, List.getElem?_eq_getElem]
theorem GTo.step {W W' : World} {Rb R cap n k : Nat} (h : GTo W Rb R cap n k) (hRb : Rb < R) (he : W'.heap = ((W.setCell ⟨Rb, k, none⟩ (.slice (some ⟨R + k, 0, none⟩) 0 cap)).alloc (.cells (cells (List.replicate cap 0)) 5)).heap) : GTo W' Rb R cap n (k + 1) := by
  have hz := h.size
  have hz2 : (W.setCell ⟨Rb, k, none⟩ (.slice (some ⟨R + k, 0, none⟩) 0 cap)).heap.size = R + k := by simp [World.setCell]; exact hz
  have e : (hdsTo R cap n k).toArray.setIfInBounds k (.slice (some ⟨R + k, 0, none⟩) 0 cap) = (hdsTo R cap n (k + 1)).toArray := by rw [List.setIfInBounds_toArray, hdsTo_set]
  have e1 := h.hds
  refine ⟨?_, fun i hi => ?_, ?_⟩
  · rw [he]
    refine (Below.heap_alloc _ _ _ (by omega)).trans ?_
    simp [World.setCell, Array.getElem?_modify, e1, e]
  · have hne : R + i ≠ Rb := by omega
    unfold Row
    rw [he]
    by_cases e3 : i = k
    · subst e3
      have := heap_alloc_new (W.setCell ⟨Rb, i, none⟩ (.slice (some ⟨R + i, 0, none⟩) 0 cap)) (.cells (cells (List.replicate cap 0)) 5)
      rw [hz2] at this
      exact this
    · exact (Below.heap_alloc _ _ _ (by omega)).trans ((Below.heap_setCell _ ⟨Rb, k, none⟩ _ _ hne).trans (h.row i (by omega)))
  · rw [he]; simp [World.setCell]; omega

set_option maxHeartbeats 2000000 in
theorem gather_any (A : Option Addr) (who : List Int) (cw cap : Nat) (w : World) (h : IntsAt w A who) (hl : who.length ≤ 1048576) (hc : who.length ≤ cw) (hc2 : cw ≤ maxLen) (hi : ∀ x ∈ who, In64 x) (hcap : cap ≤ 1048576) :
    Calls Try.prog 97 #[.slice A who.length cw, .int .i64 (cap : Nat)] w fun e w' => ∃ G Rb R B c, e = .returned (.pointer (some ⟨G, 0, none⟩)) ∧ Gat w' G Rb R cap B c (points who) (fun _ => []) ∧ GA G Rb R B ∧ Below w.heap.size w w' ∧ w.heap.size ≤ G ∧ w.heap.size ≤ Rb ∧ w.heap.size ≤ R := by
  have H := Lib.hid h; have HI := Lib.hid hi; have HMK := Lib.hid (fun W => make_slices who.length hl W)
  clear h hi
  go_enter Try.func97, Try.ntmps97
  go_wp2_with fail
  --FLOW--
  refine Drawn.wp_region_flowL 8 [Drawn.SP.is (.slice A who.length cw), SP.pts w.heap.size (points who), Drawn.SP.is (.slice A who.length cw), Drawn.SP.is (.int .i64 (who.length : Nat)), SP.nils w.heap.size who.length, SP.pair w.heap.size (points who) who.length, SP.gat w.heap.size (points who) who.length, SP.gat w.heap.size (points who) who.length] (by kernel_rfl) (by kernel_rfl) ?_ ?_
  · intro i hi a w1 hb hev hdep
    rcases (show i = 0 ∨ i = 1 ∨ i = 2 ∨ i = 3 ∨ i = 4 ∨ i = 5 ∨ i = 6 ∨ i = 7 by omega) with rfl | rfl | rfl | rfl | rfl | rfl | rfl | rfl
    · have e0 : a.tmps[0]?.getD undef = .slice A who.length cw := hev 0 rfl
      refine Drawn.wpOp_flow 7 rfl rfl rfl ?_
      clear hev hdep hb
      go_simp
      exact ⟨_, rfl, rfl, Below.refl _ _⟩
    · have d0 : a.tmps[7]?.getD undef = .slice A who.length cw := hdep 0 rfl
      refine Drawn.wpOp_flow 8 rfl rfl rfl ?_
      clear hev hdep
      go_simp
      refine (Plan.points_any A who cw w1 (H.out.below hb) hl hc hc2 HI.out).mono ?_
      rintro e w' ⟨v, rfl, hv, hb'⟩
      exact ⟨_, rfl, Own.lower hv hb.size, hb'⟩
    · have e0 : a.tmps[0]?.getD undef = .slice A who.length cw := hev 0 rfl
      refine Drawn.wpOp_flow 9 rfl rfl rfl ?_
      clear hev hdep hb
      go_simp
      exact ⟨_, rfl, rfl, Below.refl _ _⟩
    · have d2 : a.tmps[9]?.getD undef = .slice A who.length cw := hdep 2 rfl
      refine Drawn.wpOp_flow 10 rfl rfl rfl ?_
      clear hev hdep hb
      go_simp
      exact ⟨_, rfl, rfl, Below.refl _ _⟩
    · have d3 : a.tmps[10]?.getD undef = .int .i64 (who.length : Nat) := hdep 3 rfl
      refine Drawn.wpOp_flow 11 rfl rfl rfl ?_
      clear hev hdep
      have hz := hb.size
      have hmk := HMK.out
      clear hb
      go_simp
      exact ⟨_, rfl, ⟨w1.heap.size, hz, rfl, heap_alloc_new _ _⟩, balloc _ _⟩
    · obtain d1 : (SP.pts w.heap.size (points who)).p (a.tmps[8]?.getD undef) w1 := hdep 1 rfl
      obtain ⟨gr, hgr, d4, hnr⟩ : (SP.nils w.heap.size who.length).p (a.tmps[11]?.getD undef) w1 := hdep 4 rfl
      refine Drawn.wpOp_flow 12 rfl rfl rfl ?_
      clear hev hdep
      clear hb
      obtain ⟨X, xd, hX, _, _, _⟩ := Own.bytes d1
      go_simp
      exact ⟨_, rfl, ⟨X, xd, gr, rfl, by rw [← hX]; exact d1, hgr, hnr⟩, Below.refl _ _⟩
    · obtain ⟨X, xd, gr, d5, p1, p2, p3⟩ : (SP.pair w.heap.size (points who) who.length).p (a.tmps[12]?.getD undef) w1 := hdep 5 rfl
      refine Drawn.wpOp_flow 13 rfl rfl rfl ?_
      clear hev hdep
      have hz := hb.size
      clear hb
      have q1 := Own.below p1 (balloc w1 (.cells #[.slice X (points who).length xd, .slice (some ⟨gr, 0, none⟩) who.length who.length] 113))
      have q2 := (balloc w1 (.cells #[.slice X (points who).length xd, .slice (some ⟨gr, 0, none⟩) who.length who.length] 113)).block gr (Array.getElem?_eq_some_iff.1 p3).1
      clear p1
      go_simp
      exact ⟨_, rfl, ⟨w1.heap.size, X, xd, gr, hz, rfl, heap_alloc_new _ _, q1, p2, q2.trans p3⟩, balloc _ _⟩
    · have d6 := hdep 6 rfl
      refine Drawn.wpOp_flow 5 rfl rfl rfl ?_
      clear hev hdep hb
      go_simp
      exact ⟨_, rfl, d6, Below.refl _ _⟩
  · intro xq w1 hb hxq
    have vq0 : xq 0 = .slice A who.length cw := hxq 0 (by omega)
    have vq2 : xq 2 = .slice A who.length cw := hxq 2 (by omega)
    have vq3 : xq 3 = .int .i64 (who.length : Nat) := hxq 3 (by omega)
    obtain ⟨G, X, xd, gr, hgG, vq7, hG, p1, p2, p3⟩ : (SP.gat w.heap.size (points who) who.length).p (xq 7) w1 := hxq 7 (by omega)
    show Exit.then _ _ Exit.normal (Drawn.acts _ [(5, some (xq 7)), (13, some (xq 6)), (12, some (xq 5)), (11, some (xq 4)), (10, some (xq 3)), (9, some (xq 2)), (8, some (xq 1)), (7, some (xq 0))]) _
    rw [vq0, vq2, vq3, vq7]
    clear hxq vq0 vq2 vq3 vq7
    generalize xq 1 = yq1
    generalize xq 4 = yq4
    generalize xq 5 = yq5
    generalize xq 6 = yq6
    clear xq
    simp only [Drawn.acts]
    go_simp
  --END--
    have c0 : w1.cell? ⟨G, 0, none⟩ = some (.slice X (points who).length xd) := by rw [cell_of_row w1 G 0 _ 113 (0, 0) hG]; rfl
    have c1 : w1.cell? ⟨G, 1, none⟩ = some (.slice (some ⟨gr, 0, none⟩) who.length who.length) := by rw [cell_of_row w1 G 1 _ 113 (0, 0) hG]; rfl
    have hGr : G ≠ gr := fun e => by rw [e, p3] at hG; injection hG with hG; injection hG with _ hG; exact absurd hG (by decide)
    have hgl := (Array.getElem?_eq_some_iff.1 p3).1
    have hXa : ∀ a, X = some a → a.block < w1.heap.size ∧ a.block ≠ gr := fun a e => by
      subst e
      rcases p1.2 with ⟨h1, _⟩ | ⟨g, cp, cur, h1, _, h3, _⟩
      · injection h1 with h1; cases h1
      · injection h1 with h1; injection h1 with h1; subst h1
        refine ⟨(Array.getElem?_eq_some_iff.1 h3).1, fun e => ?_⟩
        simp only at e
        rw [e, p3] at h3; injection h3 with h3; injection h3 with _ h3; exact absurd h3 (by decide)
    have HXA := Lib.hid hXa
    clear hXa
    have hGl := cell_lt c0
    obtain ⟨n, hn⟩ : ∃ n, n = who.length := ⟨_, rfl⟩
    have hg0 : GTo w1 gr w1.heap.size cap n 0 := ⟨by rw [hdsTo_zero, hn]; exact p3, fun i hi => by omega, rfl⟩
    have HB := Lib.hid hb; have P1 := Lib.hid p1; have HN := Lib.hid hn
    rw [← hn] at c1 hl
    clear hb p1 p3 hn
    go_wp2_with fail
    generalize hR : w1.heap.size = R at *
    have HG0 := Lib.hid hg0; have HR := Lib.hid hR
    have hmk := fun W => make_room cap hcap W
    have HMR := Lib.hid hmk
    clear hg0 hG hmk hR
    go_loopw [19] (fun i wr => ∃ k : Nat, k ≤ n ∧ i = .int .i64 k ∧ GTo wr gr R cap n k ∧ Keeps (fun b => b = gr) w1 wr)
      (fun i _ => n - (intOf i).toNat)
    case atStart => exact ⟨0, Nat.zero_le _, rfl, HG0.out, Keeps.refl _ _⟩
    case round =>
      obtain ⟨k, hk, rfl, hg, hq⟩ := hrel
      rename World => wr
      by_cases hlt : k < n
      · obtain ⟨⟨u, cu⟩, fu⟩ := hg.slot hlt
        have e1 := hq.cell c1 hGr
        have hz := hg.size
        have HG := Lib.hid hg; have HQ := Lib.hid hq
        have hmk := HMR.out
        have hgz : gr < wr.heap.size := cell_lt cu
        have hgz2 : ¬ gr = wr.heap.size := by omega
        have hGz : G < wr.heap.size := cell_lt e1
        have hGz2 : ¬ G = wr.heap.size := by omega
        have hGr2 : ¬ gr = G := fun e => hGr e.symm
        have HZ := Lib.hid hz
        clear c0 c1 hg hq hz
        go_wp2_with fail
        go_region_held3 (fun w' => w'.cell? ⟨G, 1, none⟩ = some (.slice (some ⟨gr, 0, none⟩) n n)) (first | (exact e1) | go_keep) (fail)
        go_wp2_with fail
        go_roundw
        case rel =>
          refine ⟨k + 1, by omega, by go_num, HG.out.step hgl (by rw [← HZ.out]; rfl), ?_⟩
          exact HQ.out.trans ((Keeps.set (fun b => b = gr) wr ⟨gr, k, none⟩ _ rfl).trans ((Keeps.of_below _ (balloc _ _)).trans (Keeps.draw _ _ 1)))
        case measure => simp [intOf] <;> omega
      · obtain rfl : k = n := by omega
        have HG := Lib.hid hg; have HQ := Lib.hid hq
        clear hg
        go_wp2_with fail
        go_ret
        have hpl : (points who).length = k := by rw [points_len, HN.out]
        have p1 := P1.out.keep HQ.out (fun i e e2 => by
          subst e2
          rcases X with _ | a
          · simp [Value.ownBlock] at e
          · simp only [Value.ownBlock] at e
            exact (HXA.out a rfl).2 (by injection e))
        obtain ⟨_, _, hv, _, _, hX⟩ := p1.bytes
        injection hv with hv1 _ hv2
        subst hv1; subst hv2
        refine ⟨G, gr, R, X, xd, rfl, ⟨?_, ?_, hX, ?_, fun i hi => ?_⟩, ⟨hGl, hgl, hGr, ?_⟩, below_keeps HB.out HQ.out (fun i e => by subst e; exact p2) HB.out.size, hgG, p2, ?_⟩
        · exact HQ.out.cell c0 hGr
        · rw [hpl]; exact HQ.out.cell c1 hGr
        · rw [hpl, ← hdsTo_all]; exact HG.out.hds
        · rw [pad_nil]; exact HG.out.row i (by rw [← hpl]; exact hi)
        · exact HXA.out
        · rw [← HR.out]; exact HB.out.size
end Go.Proofs.Ytompeiemioeohaa.Deal

/- package deal: eachPolynomial -/
set_option maxRecDepth 100000
namespace Go.Proofs.Ytompeiemioeohaa.Deal
open Go.RowKit PlanM StripeM DealM Plan Stripe

/-- what eachPolynomial reads, in each round -/
structure EP (W : World) (b0 gf gp : Nat) (p : P) (X Y A1 A2 : Option Addr) (sec rt tape : List UInt8) (m : List (List UInt8)) : Prop where
  tab : Gf.Tab W b0
  f : W.cell? ⟨gf, 0, none⟩ = some (.pointer (some ⟨b0, 0, none⟩))
  six : Six W gp p
  xs : BytesAt W X sec
  ys : BytesAt W Y rt
  tape : BytesAt W A2 tape
  rows : RowsAt W A1 m
section
variable {W W' : World} {b0 gf gp : Nat} {p : P} {X Y A1 A2 : Option Addr} {sec rt tape : List UInt8} {m : List (List UInt8)}
theorem EP.below (h : EP W b0 gf gp p X Y A1 A2 sec rt tape m) (hb : Below W.heap.size W W') : EP W' b0 gf gp p X Y A1 A2 sec rt tape m :=
  ⟨h.tab.below hb, (hb.cell (p := ⟨gf, 0, none⟩) (cell_lt h.f)).trans h.f, h.six.below hb, h.xs.below hb, h.ys.below hb, h.tape.below hb, h.rows.below hb⟩
theorem six_keep {F : Nat → Prop} {w w' : World} {g : Nat} {p : P} (h : Six w g p) (q : Keeps F w w') (hg : ¬ F g) : Six w' g p :=
  ⟨q.cell h.c0 hg, q.cell h.c1 hg, q.cell h.c2 hg, q.cell h.c3 hg, q.cell h.c4 hg, q.cell h.c5 hg⟩
theorem EP.keep {F : Nat → Prop} (h : EP W b0 gf gp p X Y A1 A2 sec rt tape m) (q : Keeps F W W') (hf : ¬ F gf) (hp : ¬ F gp) (hx : ∀ a, X = some a → ¬ F a.block) (hy : ∀ a, Y = some a → ¬ F a.block)
    (ht : Gf.Tab W' b0) (htp : BytesAt W' A2 tape) (hr : RowsAt W' A1 m) : EP W' b0 gf gp p X Y A1 A2 sec rt tape m :=
  ⟨ht, q.cell h.f hf, six_keep h.six q hp, q.bytes h.xs hx, q.bytes h.ys hy, htp, hr⟩
end
/-- the polynomials' values at a point -/
def valsAt (q : List (List UInt8)) (x : UInt8) : List UInt8 := q.map fun r => PolyM.ev r x
theorem valsAt_len (q : List (List UInt8)) (x : UInt8) : (valsAt q x).length = q.length := by unfold valsAt; simp

set_option maxHeartbeats 4000000 in
theorem each_any (b0 G Rb R c : Nat) (B : Option Addr) (ps : List UInt8) (p : P) (A1 A2 : Option Addr) (blob tape : List UInt8) (c1 c2 : Nat) (w00 w : World) (hp : p.In) (hM : p.May)
    (ht : Gf.Tab w00 b0) (hs : RowsAt w00 A1 (cut p blob)) (htp : BytesAt w00 A2 tape) (k2 : tape.length ≤ c2) (_z2 : c2 ≤ maxLen) (hb : Below w00.heap.size w00 w) (hcost : p.T.toNat * p.stripes blob.length ≤ tape.length)
    (hg : Gat w G Rb R (p.stripes blob.length) B c ps (fun _ => [])) (ha : GA G Rb R B) (hRb : w00.heap.size ≤ Rb) (hR : w00.heap.size ≤ R) (hps : ps.length ≤ 1048576) :
    Calls Try.prog 98 #[.pointer (some ⟨b0, 0, none⟩), p.val, .slice A1 (p.stripes blob.length) c1, .slice A2 tape.length c2, .func (.func 99) #[.pointer (some ⟨G, 0, none⟩)] #[]] w fun e w' =>
      e = .returned (.tuple #[]) ∧ Gat w' G Rb R (p.stripes blob.length) B c ps (fun i => valsAt (polys p blob tape) (PolyM.co ps i)) ∧ Below w00.heap.size w00 w' := by
  have hM' := hM
  unfold P.May at hM'
  obtain ⟨m1, m2, m3, m4, m5, _, _, _, _⟩ := hM'
  obtain ⟨l, hl⟩ : ∃ l : Nat, p.L = (l : Int) := ⟨p.L.toNat, by omega⟩
  obtain ⟨t0, ht0⟩ : ∃ t0 : Nat, p.T = (t0 : Int) := ⟨p.T.toNat, by omega⟩
  have hlN : p.L.toNat = l := by omega
  have htN : p.T.toNat = t0 := by omega
  have hn240 := stripes_le p blob.length m2
  have hcut : cut p blob = cutTo l blob (p.stripes blob.length) := by unfold cut; rw [hlN]
  have hpo : polys p blob tape = polysTo p blob tape (p.stripes blob.length) := rfl
  have hpt := fun k => polysTo_succ p blob tape k
  have hpl := fun k => polysTo_len p blob tape k
  have hp0 : polysTo p blob tape 0 = [] := rfl
  have hpoly : ∀ k, poly p (row p.L.toNat blob k) (take_ p.T.toNat tape k) = PolyM.padd (LagrM.thr p.secrets (row l blob k)) (PolyM.pmul (PolyM.proot p.secrets) (take_ t0 tape k)) := fun k => by rw [hlN, htN]; rfl
  have hsl : p.secrets.length = l := by rw [secrets_len, hlN]
  have hsec : p.secretsA = p.secrets := by unfold P.secretsA; rw [P.right_yes hM]; rfl
  have hunl : LagrM.unl p.secrets = true := (LagrM.unl_iff _).2 (DealM.May.secrets hM)
  have KS := fun V => Plan.secrets_any p V hp
  rw [hsec] at KS
  rw [hcut] at hs
  rw [hpo]
  rw [htN] at hcost
  generalize p.stripes blob.length = n at *
  simp only [hpoly] at hpt
  generalize polysTo p blob tape = PT at *
  generalize p.secrets = sec at *
  obtain ⟨rt, hrt⟩ : ∃ rt, rt = PolyM.proot sec := ⟨_, rfl⟩
  have hrl : rt.length = l + 1 := by rw [hrt, PolyM.proot_len, hsl]
  have KR := fun X d V (h1 : Gf.Tab V b0) (h2 : BytesAt V X sec) => Poly.root_new b0 X sec d V h1 h2 (by omega)
  rw [← hrt] at KR
  simp only [← hrt] at hpt
  have KT := fun X d Y dy r V (h1 : Gf.Tab V b0) (h2 : BytesAt V X sec) (h3 : BytesAt V Y r) (h4 : r.length = l) => Lagr.through_yes b0 X Y sec r d dy V h1 h2 h3 (by omega) (by omega) hunl
  have KM := fun Y d Z dz q V (h1 : Gf.Tab V b0) (h2 : BytesAt V Y rt) (h3 : BytesAt V Z q) (h4 : q.length = t0) => Poly.mul_new b0 Y Z rt q d dz V h1 h2 h3 (by omega) (by omega)
  rw [hsl] at KT
  rw [hrl] at KM
  have H1 := Lib.hid KS; have H2 := Lib.hid KR; have H3 := Lib.hid KT; have H4 := Lib.hid KM; have HT := Lib.hid ht; have HS := Lib.hid hs; have HTP := Lib.hid htp; have HB := Lib.hid hb; have HG := Lib.hid hg; have HA := Lib.hid ha; have HPT := Lib.hid hpt; have HPL := Lib.hid hpl; have HP0 := Lib.hid hp0; have HSL := Lib.hid hsl; have HRL := Lib.hid hrl
  clear KS KR KT KM ht hs htp hb hg ha hpt hpl hp0 hsl hrl hpo hpoly hcut hlN htN hunl hsec hrt hM hp
  obtain ⟨pN, pT, pL, pW, pS, pR⟩ := p
  simp only at hl ht0 m1 m2 m3 m4 m5
  subst hl ht0
  unfold P.val at H1 ⊢
  have HX := Lib.hid (Six.new (w.alloc (.cells #[.pointer (some ⟨b0, 0, none⟩)] 31)) ⟨pN, (t0 : Int), (l : Int), pW, pS, pR⟩)
  simp only at HX
  go_enter Try.func98, Try.ntmps98
  go_wp2_with fail
  have hbw : Below w.heap.size w ((w.alloc (.cells #[.pointer (some ⟨b0, 0, none⟩)] 31)).alloc (.cells #[.int .i64 pN, .int .i64 t0, .int .i64 l, .int .i64 pW, .int .i64 pS, .int .i64 pR] 23)) := bstep (balloc _ _) (balloc _ _)
  have cf : ((w.alloc (.cells #[.pointer (some ⟨b0, 0, none⟩)] 31)).alloc (.cells #[.int .i64 pN, .int .i64 t0, .int .i64 l, .int .i64 pW, .int .i64 pS, .int .i64 pR] 23)).cell? ⟨w.heap.size, 0, none⟩ = some (.pointer (some ⟨b0, 0, none⟩)) := by
    refine ((balloc _ _).cell (p := ⟨w.heap.size, 0, none⟩) (by simp)).trans ?_
    simp
  rw [show (w.alloc (.cells #[.pointer (some ⟨b0, 0, none⟩)] 31)).heap.size = w.heap.size + 1 from by simp] at HX
  have hsz0 : ((w.alloc (.cells #[.pointer (some ⟨b0, 0, none⟩)] 31)).alloc (.cells #[.int .i64 pN, .int .i64 t0, .int .i64 l, .int .i64 pW, .int .i64 pS, .int .i64 pR] 23)).heap.size = w.heap.size + 2 := by simp
  generalize (w.alloc (.cells #[.pointer (some ⟨b0, 0, none⟩)] 31)).alloc (.cells #[.int .i64 pN, .int .i64 t0, .int .i64 l, .int .i64 pW, .int .i64 pS, .int .i64 pR] 23) = w0 at *
  have HF := Lib.hid cf; have HB0 := Lib.hid hbw
  clear cf hbw
  refine (H1.out w0).mono ?_
  rintro e w1 ⟨X, dX, rfl, _, _, hX, hb1, hnX⟩
  have cf := (hb1.cell (p := ⟨w.heap.size, 0, none⟩) (cell_lt HF.out)).trans HF.out
  have HX1 := Lib.hid (HX.out.below hb1)
  have HXS := Lib.hid hX
  have HB1 := Lib.hid (bstep HB0.out hb1)
  have HNX := Lib.hid (hnX.mono HB0.out.size)
  have hs1 := hb1.size
  clear hX hb1 hnX HX
  rw [HSL.out]
  go_wp2_with fail
  have C := H2.out X dX w1 (HT.out.below (HB.out.trans (HB1.out.mono HB.out.size))) HXS.out
  rw [HSL.out] at C
  refine C.mono ?_
  clear C
  rintro e w2 ⟨Y, dY, rfl, _, _, hY, hb2, hnY⟩
  have hbw2 := bstep HB1.out hb2
  have HNY := Lib.hid (hnY.mono HB1.out.size)
  have HB2 := Lib.hid (HB.out.trans (hbw2.mono HB.out.size))
  have he : EP w2 b0 w.heap.size (w.heap.size + 1) ⟨pN, (t0 : Int), (l : Int), pW, pS, pR⟩ X Y A1 A2 sec rt tape (cutTo l blob n) :=
    ⟨HT.out.below HB2.out, (hb2.cell (p := ⟨w.heap.size, 0, none⟩) (cell_lt cf)).trans cf, HX1.out.below hb2, HXS.out.below hb2, hY, HTP.out.below HB2.out, HS.out.below HB2.out⟩
  have HE := Lib.hid he
  have HG2 := Lib.hid (HG.out.below hbw2)
  have hwG := HG.out.lt
  have hGF : ∀ i, GF Rb R ps.length i → w00.heap.size ≤ i ∧ i < w.heap.size := fun i hi => by
    rcases hi with rfl | ⟨h1, h2⟩
    · exact ⟨hRb, hwG.2.1⟩
    · refine ⟨by omega, ?_⟩
      have := hwG.2.2 (i - R) (by omega)
      omega
  have HGF := Lib.hid hGF
  have hs2 := hb2.size
  clear he hY hb2 hnY hbw2 cf hGF hwG HB1 HX1 HXS HB0 HF
  rw [HRL.out]
  go_wp2_with fail
  go_loopw [25] (fun i wr => ∃ k : Nat, k ≤ n ∧ i = .int .i64 k ∧ Gat wr G Rb R n B c ps (fun i => valsAt (PT k) (PolyM.co ps i)) ∧ Keeps (GF Rb R ps.length) w2 wr)
    (fun i _ => n - (intOf i).toNat)
  case atStart => exact ⟨0, Nat.zero_le _, rfl, HG2.out.congr (fun i _ => by rw [HP0.out]; rfl), Keeps.refl _ _⟩
  case round =>
    obtain ⟨k, hk, rfl, hg, hq⟩ := hrel
    rename World => wr
    have hb00 : Below w00.heap.size w00 wr := below_keeps HB2.out hq (fun i hi => (HGF.out i hi).1) HB2.out.size
    have HG3 := Lib.hid hg; have HQ := Lib.hid hq; have HB3 := Lib.hid hb00
    have nf : ∀ j, w.heap.size ≤ j → ¬ GF Rb R ps.length j := fun j hj h => by have := (HGF.out j h).2; omega
    have he := HE.out.keep hq (nf _ (Nat.le_refl _)) (nf _ (by omega)) (fun a e => nf _ (HNX.out a e)) (fun a e => nf _ (HNY.out a e)) (HT.out.below hb00) (HTP.out.below hb00) (HS.out.below hb00)
    have HE3 := Lib.hid he; have HNF := Lib.hid nf
    have hz3 := hq.size
    clear hg hq hb00 he nf
    by_cases hlt : k < n
    · obtain ⟨b1, o1, P, cr, rfl, f1, g1, g2, hP⟩ := HE3.out.rows.row (i := k) (by rw [cutTo_len]; exact hlt)
      rw [cutTo_get] at f1 g1 hP
      have rl := row_len l blob k
      rw [rl] at f1 g1
      have hpt := HPT.out k
      obtain ⟨r, hr⟩ : ∃ r, r = row l blob k := ⟨_, rfl⟩
      rw [← hr] at hP rl hpt
      have cf := HE3.out.f
      have HP := Lib.hid hP; have HRW := Lib.hid rl; have HPK := Lib.hid hpt
      clear hr hP rl hpt
      go_wp2_with fail
      have C := H3.out X dX P cr r wr HE3.out.tab HE3.out.xs HP.out HRW.out
      rw [HRW.out] at C
      refine C.mono ?_
      clear C
      rintro e w3 ⟨Q, dQ, rfl, hQ, hb3, hnQ, _⟩
      have HE4 := Lib.hid (HE3.out.below hb3)
      have HPK2 := Lib.hid HPK.out
      obtain ⟨th, hth⟩ : ∃ th, th = LagrM.thr sec r := ⟨_, rfl⟩
      have hthl : th.length = l := by rw [hth, LagrM.thr_len, HSL.out]
      rw [← hth] at hQ ⊢
      have HTH := Lib.hid hth; have HTL := Lib.hid hthl; have HQ3 := Lib.hid hQ; have HBQ := Lib.hid hb3
      have hs3 := hb3.size
      clear hth hthl hQ hb3 hnQ cf f1
      have ce := HE4.out.six.c1
      have cf := HE4.out.f
      simp only at ce
      have hkn : (k + 1) * t0 ≤ tape.length := Nat.le_trans (Nat.mul_le_mul_right t0 hlt) (by rw [Nat.mul_comm]; exact hcost)
      obtain ⟨x, hx⟩ : ∃ x, x = k * t0 := ⟨_, rfl⟩
      obtain ⟨z, hz⟩ : ∃ z, z = x + t0 := ⟨_, rfl⟩
      have hzz : (k + 1) * t0 = z := by rw [Nat.succ_mul, hz, hx]
      rw [hzz] at hkn
      have hkt : k * t0 ≤ 240 * 256 := Nat.mul_le_mul (by omega) (by omega)
      have htk := take_len t0 tape k (by rw [hzz]; exact hkn)
      have hB2 : BytesAt w3 A2 tape := HE4.out.tape
      obtain ⟨b2, o2, rfl, hc0⟩ := hB2 0 (by omega)
      clear hc0
      have hdr : BytesAt w3 (some ⟨b2, o2 + x, none⟩) (take_ t0 tape k) := by unfold take_; rw [← hx]; exact (hB2.drop x).take t0
      have i1 : ((k : Int) * (t0 : Int)) = (x : Int) := by rw [← Int.natCast_mul, ← hx]
      have i2 : IntKind.i64.wrap (x : Int) = (x : Int) := IntWalk.i64_in _ (by omega)
      have i3 : IntKind.i64.wrap ((k : Int) + 1) = (k : Int) + 1 := IntWalk.i64_in _ (by omega)
      have i4 : (((k : Int) + 1) * (t0 : Int)) = (z : Int) := by rw [← hzz, Int.natCast_mul]; rfl
      have i5 : IntKind.i64.wrap (z : Int) = (z : Int) := IntWalk.i64_in _ (by omega)
      have j1 : x ≤ z := by omega
      have j2 : z ≤ tape.length := hkn
      have j3 : z ≤ c2 := by omega
      have j4 : ¬ c2 = x := by omega
      have j5 : z - x = t0 := by omega
      have HDR := Lib.hid hdr; have HTK := Lib.hid htk
      clear hdr htk hx hz hzz hkt hB2
      go_wp2_with fail
      have C := H4.out Y dY (some ⟨b2, o2 + x, none⟩) (c2 - x) (take_ t0 tape k) w3 HE4.out.tab HE4.out.ys HDR.out HTK.out
      rw [HTK.out] at C
      refine C.mono ?_
      clear C
      rintro e w4 ⟨M, dM, rfl, _, _, hMb, hb4, _⟩
      obtain ⟨pm, hpm⟩ : ∃ pm, pm = PolyM.pmul rt (take_ t0 tape k) := ⟨_, rfl⟩
      have hpml : pm.length ≤ 1048576 := by rw [hpm, PolyM.pmul_len, HRL.out, HTK.out]; split <;> omega
      rw [← hpm] at hMb ⊢
      have HE5 := Lib.hid (HE4.out.below hb4)
      have HMB := Lib.hid hMb; have HPM := Lib.hid hpm
      have hs4 := hb4.size
      have hb34 := bstep HBQ.out hb4
      have HB34 := Lib.hid hb34
      have HQ4 := Lib.hid (HQ3.out.below hb4)
      clear hMb hpm hb4 hb34 ce cf i1 i2 i3 i4 i5 j1 j2 j3 j4 j5
      go_wp2_with fail
      refine (Poly.sum_new Q M th pm dQ dM w4 HQ4.out HMB.out (by rw [HTL.out]; omega) (by omega)).mono ?_
      rintro e w5 ⟨Z, dZ, rfl, _, _, hZ, hb5, hnZ⟩
      obtain ⟨q, hqq⟩ : ∃ q, q = PolyM.padd th pm := ⟨_, rfl⟩
      have hql : q.length ≤ 1099511627776 := by rw [hqq, LagrM.padd_len, HTL.out]; omega
      rw [← hqq] at hZ ⊢
      have HZ := Lib.hid hZ; have HQQ := Lib.hid hqq; have HNZ := Lib.hid hnZ
      have HE6 := Lib.hid (HE5.out.below hb5)
      have HB35 := Lib.hid (bstep HB34.out hb5)
      have hs5 := hb5.size
      clear hZ hqq hnZ hb5
      go_wp2_with fail
      have hcw : (w5.alloc (.cells #[.slice Z q.length dZ] 24)).cell? ⟨w5.heap.size, 0, none⟩ = some (.slice Z q.length dZ) := by simp
      have hb6 := balloc w5 (.cells #[.slice Z q.length dZ] 24)
      generalize w5.alloc (.cells #[.slice Z q.length dZ] 24) = w6 at *
      have HBR := Lib.hid (bstep HB35.out hb6)
      have HE7 := Lib.hid (HE6.out.below hb6)
      have HZ7 := Lib.hid (HZ.out.below hb6)
      have HCW := Lib.hid hcw
      have HB0 := Lib.hid (HB3.out.trans (HBR.out.mono HB3.out.size))
      clear hcw hb6
      have hv : ∀ (x : UInt8) (V : World), Keeps (GF Rb R ps.length) w6 V → Calls Try.prog 115 #[.int .u8 (x.toNat : Nat), .pointer (some ⟨w.heap.size, 0, none⟩), .pointer (some ⟨w5.heap.size, 0, none⟩)] V fun e V' => e = .returned (.int .u8 ((PolyM.ev q x).toNat : Nat)) ∧ ∃ n, V' = V.drewN n := fun x V hV =>
        val_any b0 w.heap.size w5.heap.size Z q dZ x V (HT.out.below (below_keeps HB0.out hV (fun i hi => (HGF.out i hi).1) HB0.out.size)) (hV.cell HE7.out.f (HNF.out _ (Nat.le_refl _))) (hV.cell HCW.out (HNF.out _ (by show w.heap.size ≤ w5.heap.size; omega))) (hV.bytes HZ7.out (fun a e => HNF.out _ (by have := HNZ.out a e; omega))) hql
      refine (add_any G Rb R n c w.heap.size w5.heap.size B ps (fun i => valsAt (PT k) (PolyM.co ps i)) (fun x => PolyM.ev q x) w6 (HG3.out.below HBR.out) HA.out hps (fun i _ => by rw [valsAt_len, HPL.out]; exact hlt) (by omega) hv).mono ?_
      rintro e w7 ⟨rfl, hg7, hq7⟩
      have HG7 := Lib.hid hg7; have HQ7 := Lib.hid hq7
      clear hg7 hq7 hv
      go_wp2_with fail
      go_roundw
      case rel =>
        refine ⟨k + 1, by omega, by go_num, HG7.out.congr fun i _ => ?_, (HQ.out.trans (Keeps.of_below _ HBR.out)).trans HQ7.out⟩
        rw [HPK.out, ← HTH.out, ← HPM.out, ← HQQ.out]
        unfold valsAt
        rw [List.map_append]; rfl
      case measure => simp [intOf] <;> omega
    · obtain rfl : k = n := by omega
      go_wp2_with fail
      go_end0
      exact ⟨rfl, HG3.out, HB3.out⟩
end Go.Proofs.Ytompeiemioeohaa.Deal

/- package deal: Cost, and the shares of some custodians -/
set_option maxRecDepth 100000
namespace Go.Proofs.Ytompeiemioeohaa.Deal
open Go.RowKit PlanM StripeM DealM Plan Stripe

set_option maxHeartbeats 1000000 in
theorem cost_any (p : P) (size : Int) (w : World) (hp : p.In) (hs : In64 size) : Calls Try.prog 96 #[p.val, .int .i64 size] w (Says w (.int .i64 (costA p size))) := by
  have hT := fun V => Plan.stripes_any p size V hp hs
  have hc : IntKind.i64.wrap (p.T * p.stripesA size) = costA p size := by
    unfold costA P.stripesA
    by_cases hM : p.May
    · rw [P.right_yes hM, if_pos rfl, if_pos rfl]
      have hM' := hM
      unfold P.May at hM'
      have hn := stripes_le p size hM'.2.1
      have h1 : p.T * (p.stripes size : Nat) ≤ 256 * 240 := Int.mul_le_mul (by omega) (by omega) (by omega) (by omega)
      have h0 : 0 ≤ p.T * (p.stripes size : Nat) := Int.mul_nonneg (by omega) (by omega)
      exact IntWalk.i64_in _ (by omega)
    · rw [P.right_no hM, if_neg (by simp), if_neg (by simp), Int.mul_zero]; rfl
  have HS := Lib.hid (Six.new w p)
  have hb0 := Lib.hid (balloc w (.cells #[.int .i64 p.N, .int .i64 p.T, .int .i64 p.L, .int .i64 p.W, .int .i64 p.S, .int .i64 p.R] 23))
  generalize costA p size = ans at *
  generalize p.stripesA size = n at *
  clear hp hs
  obtain ⟨pN, pT, pL, pW, pS, pR⟩ := p
  unfold P.val at hT ⊢
  simp only at hc HS hb0 ⊢
  have HT := Lib.hid hT
  clear hT
  go_enter Try.func96, Try.ntmps96
  go_wp2_with fail
  generalize w.alloc (.cells #[.int .i64 pN, .int .i64 pT, .int .i64 pL, .int .i64 pW, .int .i64 pS, .int .i64 pR] 23) = w0 at *
  have s0 := HS.out
  have c0 := s0.c0; have c1 := s0.c1; have c2 := s0.c2; have c3 := s0.c3; have c4 := s0.c4; have c5 := s0.c5
  simp only at c0 c1 c2 c3 c4 c5
  clear s0
  go_region_held3 (fun w' => w'.cell? ⟨w.heap.size, 0, none⟩ = some (.int .i64 pN) ∧ w'.cell? ⟨w.heap.size, 1, none⟩ = some (.int .i64 pT) ∧ w'.cell? ⟨w.heap.size, 2, none⟩ = some (.int .i64 pL) ∧ w'.cell? ⟨w.heap.size, 3, none⟩ = some (.int .i64 pW) ∧ w'.cell? ⟨w.heap.size, 4, none⟩ = some (.int .i64 pS) ∧ w'.cell? ⟨w.heap.size, 5, none⟩ = some (.int .i64 pR)) (first | (exact ⟨c0, c1, c2, c3, c4, c5⟩) | (exact ⟨HA.out.c0, HA.out.c1, HA.out.c2, HA.out.c3, HA.out.c4, HA.out.c5⟩) | go_keep) ((first
    | (go_simp; go_at_call 112; refine (HT.out _).mono ?_; rintro e w1 ⟨rfl, hb1⟩; have hb1 : Below w0.heap.size w0 w1 := (by first | (exact hb1) | (exact bstep (bdraw w0 _) hb1)); have HA := Lib.hid (HS.out.below hb1))))
  clear c0 c1 c2 c3 c4 c5
  all_goals
    go_wp2
    go_ret
    exact ⟨rfl, bstep hb0.out hb1⟩

/-- rows of the call's own, each of them new -/
def RowsNew (w w' : World) (v : Value) (m : List (List UInt8)) : Prop := ∀ A c, v = .slice A m.length c → ∀ i, (h : i < m.length) → ∃ b o B d, A = some ⟨b, o, none⟩ ∧ w'.cell? ⟨b, o + i, none⟩ = some (.slice B m[i].length d) ∧ m[i].length ≤ d ∧ d ≤ maxLen ∧ BytesAt w' B m[i] ∧ New w B
def RetOwnE (w : World) (m : List (List UInt8)) (err : Int) (e : Ending) (w' : World) : Prop :=
  ∃ v, e = .returned (.tuple #[v, .int .i64 err]) ∧ OwnM w' w.heap.size v m ∧ RowsNew w w' v m ∧ Below w.heap.size w w'
theorem RetOwnE.rows {w w' : World} {m : List (List UInt8)} {err : Int} {e : Ending} (h : RetOwnE w m err e w') : RetRowsE w m err e w' := by
  obtain ⟨v, rfl, h1, _, h3⟩ := h
  obtain ⟨A, c, rfl, k1, k2, k3, k4⟩ := h1.rows
  exact ⟨A, c, rfl, k1, k2, k3, h3, k4⟩
theorem RowsNew.nil (w w' : World) (v : Value) : RowsNew w w' v [] := fun _ _ _ i hi => absurd hi (by simp)
theorem Gat.own {w w' : World} {G Rb R cap c : Nat} {B : Option Addr} {ps : List UInt8} {m : Nat → List UInt8} {l : List (List UInt8)} (h : Gat w' G Rb R cap B c ps m) (ha : GA G Rb R B) (hcap : cap ≤ 1048576) (hps : ps.length ≤ 1048576) (h1 : w.heap.size ≤ Rb) (_h2 : w.heap.size ≤ R)
    (hl : l.length = ps.length) (hm : ∀ i, (h : i < l.length) → m i = l[i] ∧ (m i).length = cap) : OwnM w' w.heap.size (.slice (some ⟨Rb, 0, none⟩) ps.length ps.length) l ∧ RowsNew w w' (.slice (some ⟨Rb, 0, none⟩) ps.length ps.length) l := by
  have hrb := ha.rb
  have hrow : ∀ i, (hi : i < l.length) → Row w' (R + i) l[i] := fun i hi => by
    obtain ⟨e1, e2⟩ := hm i hi
    have := h.row i (by omega)
    rw [← e2, pad_full, e1] at this
    exact this
  refine ⟨⟨heads R cap ps.length m, ⟨?_, .inr ⟨Rb, ps.length, _, by rw [hl], h1, h.hds, ?_, ?_, ?_, ?_⟩⟩, fun i hi => ?_⟩, fun A c' e i hi => ?_⟩
  · rw [heads_len, hl, Nat.mul_one]
  · omega
  · unfold maxLen; omega
  · simp [heads_len]
  · rw [hl, Nat.mul_one]
    simp only
    exact List.take_of_length_le (by rw [heads_len]; exact Nat.le_refl _)
  · obtain ⟨e1, e2⟩ := hm i hi
    refine ⟨_, some ⟨R + i, 0, none⟩, cap, heads_get _ _ _ _ _ (by omega), by show Value.slice (some ⟨R + i, 0, none⟩) (m i).length cap = _; rw [e1], by rw [← e1, e2]; exact Nat.le_refl _, by unfold maxLen; omega, (hrow i hi).bytes, fun _ a e => ?_⟩
    injection e with e; subst e
    intro e
    simp only [Value.ownBlock] at e
    injection e with e
    omega
  · injection e with e _ _
    subst e
    obtain ⟨e1, e2⟩ := hm i hi
    refine ⟨Rb, 0, some ⟨R + i, 0, none⟩, cap, rfl, ?_, by rw [← e1, e2]; exact Nat.le_refl _, by unfold maxLen; omega, (hrow i hi).bytes, New.at w (by omega)⟩
    rw [Nat.zero_add, h.head (by omega), e1]

theorem sharesOf_err (b0 : Nat) (p : P) (A1 A2 A3 : Option Addr) (blob : List UInt8) (tn n3 c1 c2 c3 : Nat) (w : World) (er : Int) (hp : p.In) (h1 : BytesAt w A1 blob) (k1 : blob.length ≤ c1) (z1 : c1 ≤ maxLen) (hl1 : blob.length ≤ 1048576) (he : cutE p blob = er) (h0 : (er != 0) = true) :
    Calls Try.prog 61 #[.pointer (some ⟨b0, 0, none⟩), p.val, .slice A1 blob.length c1, .slice A2 tn c2, .slice A3 n3 c3] w (RetOwnE w [] er) := by
  have HS := Lib.hid (Six.new w p)
  have hb0 := Lib.hid (balloc w (.cells #[.int .i64 p.N, .int .i64 p.T, .int .i64 p.L, .int .i64 p.W, .int .i64 p.S, .int .i64 p.R] 23))
  have hC := fun V h => Stripe.cut_any p A1 blob c1 V hp h k1 z1 hl1
  rw [show cutA p blob = [] from by unfold cutA; rw [he, if_neg (by simpa using h0)], he] at hC
  have H1 := Lib.hid h1
  obtain ⟨bl, hbl⟩ : ∃ bl, bl = blob.length := ⟨_, rfl⟩
  rw [← hbl] at hC ⊢
  clear he hp h1 hl1 hbl k1
  obtain ⟨pN, pT, pL, pW, pS, pR⟩ := p
  unfold P.val at hC ⊢
  simp only at HS hb0 hC ⊢
  have HC := Lib.hid hC
  clear hC
  go_enter Try.func61, Try.ntmps61
  go_wp2_with fail
  generalize w.alloc (.cells #[.int .i64 pN, .int .i64 pT, .int .i64 pL, .int .i64 pW, .int .i64 pS, .int .i64 pR] 23) = w0 at *
  have s0 := HS.out
  have c0 := s0.c0; have c1 := s0.c1; have c2 := s0.c2; have c3 := s0.c3; have c4 := s0.c4; have c5 := s0.c5
  simp only at c0 c1 c2 c3 c4 c5
  clear s0
  go_wp2_with fail
  refine (HC.out _ (H1.out.below hb0.out)).mono ?_
  rintro e w1 ⟨X, d, rfl, _, _, _, hb1, _⟩
  clear c0 c1 c2 c3 c4 c5
  have HB := Lib.hid (bstep hb0.out hb1)
  clear hb1
  go_wp2
  go_ret2
  exact ⟨_, rfl, OwnM.nil _ _, RowsNew.nil _ _ _, HB.out⟩

set_option maxHeartbeats 1000000 in
theorem sharesOf_empty (b0 : Nat) (p : P) (A1 A2 A3 : Option Addr) (blob : List UInt8) (tn n3 c1 c2 c3 : Nat) (w : World) (hp : p.In) (h1 : BytesAt w A1 blob) (k1 : blob.length ≤ c1) (z1 : c1 ≤ maxLen) (hl1 : blob.length ≤ 1048576) (he : cutE p blob = 0) (h0 : (tn : Int) < costA p blob.length) (_z2 : tn ≤ c2 ∧ c2 ≤ maxLen) :
    Calls Try.prog 61 #[.pointer (some ⟨b0, 0, none⟩), p.val, .slice A1 blob.length c1, .slice A2 tn c2, .slice A3 n3 c3] w (RetOwnE w [] 12) := by
  have HS := Lib.hid (Six.new w p)
  have hb0 := Lib.hid (balloc w (.cells #[.int .i64 p.N, .int .i64 p.T, .int .i64 p.L, .int .i64 p.W, .int .i64 p.S, .int .i64 p.R] 23))
  have hC := fun V h => Stripe.cut_any p A1 blob c1 V hp h k1 z1 hl1
  rw [he] at hC
  have hK := fun V => cost_any p blob.length V hp (by unfold In64; omega)
  have H1 := Lib.hid h1
  have hlt : decide ((tn : Int) < costA p blob.length) = true := decide_eq_true h0
  generalize costA p blob.length = co at *
  obtain ⟨bl, hbl⟩ : ∃ bl, bl = blob.length := ⟨_, rfl⟩
  rw [← hbl] at hC hK ⊢
  clear he hp h1 hl1 hbl k1
  obtain ⟨pN, pT, pL, pW, pS, pR⟩ := p
  unfold P.val at hC hK ⊢
  simp only at HS hb0 hC hK ⊢
  have HC := Lib.hid hC; have HK := Lib.hid hK
  clear hC hK
  go_enter Try.func61, Try.ntmps61
  go_wp2_with fail
  generalize w.alloc (.cells #[.int .i64 pN, .int .i64 pT, .int .i64 pL, .int .i64 pW, .int .i64 pS, .int .i64 pR] 23) = w0 at *
  have s0 := HS.out
  have c0 := s0.c0; have c1 := s0.c1; have c2 := s0.c2; have c3 := s0.c3; have c4 := s0.c4; have c5 := s0.c5
  simp only at c0 c1 c2 c3 c4 c5
  clear s0
  go_wp2_with fail
  refine (HC.out _ (H1.out.below hb0.out)).mono ?_
  rintro e w1 ⟨X, d, rfl, _, _, _, hb1, _⟩
  clear c0 c1 c2 c3 c4 c5
  have HB := Lib.hid (bstep hb0.out hb1)
  have s0 := HS.out.below hb1
  have c0 := s0.c0; have c1 := s0.c1; have c2 := s0.c2; have c3 := s0.c3; have c4 := s0.c4; have c5 := s0.c5
  simp only at c0 c1 c2 c3 c4 c5
  clear hb1 s0
  go_wp2_with fail
  refine (HK.out _).mono ?_
  rintro e w2 ⟨rfl, hb2⟩
  clear c0 c1 c2 c3 c4 c5
  have HB2 := Lib.hid (bstep HB.out hb2)
  clear hb2
  go_wp2
  go_ret2
  exact ⟨_, rfl, OwnM.nil _ _, RowsNew.nil _ _ _, HB2.out⟩

set_option maxHeartbeats 2000000 in
theorem sharesOf_ok (b0 : Nat) (p : P) (A1 A2 A3 : Option Addr) (blob tape : List UInt8) (who : List Int) (c1 c2 c3 : Nat) (w : World) (hp : p.In) (hM : p.May) (ht : Gf.Tab w b0) (h1 : BytesAt w A1 blob) (k1 : blob.length ≤ c1) (z1 : c1 ≤ maxLen) (hl1 : blob.length ≤ 240)
    (h2 : BytesAt w A2 tape) (k2 : tape.length ≤ c2) (z2 : c2 ≤ maxLen) (h3 : IntsAt w A3 who) (k3 : who.length ≤ c3) (z3 : c3 ≤ maxLen) (hw : who.length ≤ 1048576) (hi : ∀ x ∈ who, In64 x) (h0 : ¬ (tape.length : Int) < costA p blob.length) :
    Calls Try.prog 61 #[.pointer (some ⟨b0, 0, none⟩), p.val, .slice A1 blob.length c1, .slice A2 tape.length c2, .slice A3 who.length c3] w (RetOwnE w (who.map (share (polys p blob tape))) 0) := by
  have HS := Lib.hid (Six.new w p)
  have hb0 := Lib.hid (balloc w (.cells #[.int .i64 p.N, .int .i64 p.T, .int .i64 p.L, .int .i64 p.W, .int .i64 p.S, .int .i64 p.R] 23))
  have he : cutE p blob = 0 := by unfold cutE; rw [P.right_yes hM, if_pos rfl, if_neg (by omega)]
  have hC := fun V h => Stripe.cut_any p A1 blob c1 V hp h k1 z1 (by omega)
  rw [show cutA p blob = cut p blob from by unfold cutA; rw [he]; rfl, he] at hC
  have hcl : (cut p blob).length = p.stripes blob.length := by unfold cut; exact cutTo_len _ _ _
  have hK := fun V => cost_any p blob.length V hp (by unfold In64; omega)
  have hlt : decide ((tape.length : Int) < costA p blob.length) = false := decide_eq_false h0
  have hcost : p.T.toNat * p.stripes blob.length ≤ tape.length := by
    have hM' := hM
    unfold P.May at hM'
    unfold costA cost at h0
    rw [P.right_yes hM, if_pos rfl] at h0
    have e : ((p.T.toNat : Nat) : Int) = p.T := by omega
    rw [← e, ← Int.natCast_mul] at h0
    omega
  have hn240 := stripes_le p blob.length (by unfold P.May at hM; omega)
  have hql : (polys p blob tape).length = p.stripes blob.length := polysTo_len _ _ _ _
  have hG := fun V h => gather_any A3 who c3 (p.stripes blob.length) V h hw k3 z3 hi (by omega)
  have hE := fun G Rb R c B X d w00 V ht hs htp hb hg ha hRb hR => each_any b0 G Rb R c B (points who) p X A2 blob tape d c2 w00 V hp hM ht hs htp k2 z2 hb hcost hg ha hRb hR (by rw [points_len]; exact hw)
  have hpl : (points who).length = who.length := points_len who
  have hres : ∀ i, (h : i < (who.map (share (polys p blob tape))).length) → valsAt (polys p blob tape) (PolyM.co (points who) i) = (who.map (share (polys p blob tape)))[i] ∧ (valsAt (polys p blob tape) (PolyM.co (points who) i)).length = p.stripes blob.length := fun i h => by
    refine ⟨?_, by rw [valsAt_len, hql]⟩
    have hi' : i < (points who).length := by rw [hpl]; simpa using h
    rw [PolyM.co_get _ _ hi', List.getElem_map]
    have : (points who)[i] = point (who[i]'(by rw [← hpl]; exact hi')) := by simp [points]
    rw [this]; rfl
  have hrl : (who.map (share (polys p blob tape))).length = (points who).length := by rw [List.length_map, hpl]
  generalize who.map (share (polys p blob tape)) = res at *
  generalize valsAt (polys p blob tape) = va at *
  generalize costA p blob.length = co at *
  generalize cut p blob = m at *
  generalize p.stripes blob.length = n at *
  subst hcl
  have H1 := Lib.hid h1; have H2 := Lib.hid h2; have H3 := Lib.hid h3; have HT := Lib.hid ht
  obtain ⟨bl, hbl⟩ : ∃ bl, bl = blob.length := ⟨_, rfl⟩
  rw [← hbl] at hC hK ⊢
  obtain ⟨pp, hpp⟩ : ∃ pp, pp = points who := ⟨_, rfl⟩
  rw [← hpp] at hG hE hpl hrl hres
  clear he hp h1 h2 h3 ht hl1 hbl k1 hpp h0 hcost hM hql hi
  obtain ⟨pN, pT, pL, pW, pS, pR⟩ := p
  unfold P.val at hC hK hE ⊢
  simp only at HS hb0 hC hK hE ⊢
  have HC := Lib.hid hC; have HK := Lib.hid hK; have HGA := Lib.hid hG; have HEA := Lib.hid hE; have HR := Lib.hid hres; have HRL := Lib.hid hrl; have HPL := Lib.hid hpl
  clear hC hK hG hE hres hrl hpl
  go_enter Try.func61, Try.ntmps61
  go_wp2_with fail
  generalize w.alloc (.cells #[.int .i64 pN, .int .i64 pT, .int .i64 pL, .int .i64 pW, .int .i64 pS, .int .i64 pR] 23) = w0 at *
  have s0 := HS.out
  have c0 := s0.c0; have c1 := s0.c1; have c2 := s0.c2; have c3 := s0.c3; have c4 := s0.c4; have c5 := s0.c5
  simp only at c0 c1 c2 c3 c4 c5
  clear s0
  go_wp2_with fail
  refine (HC.out _ (H1.out.below hb0.out)).mono ?_
  rintro e w1 ⟨X, d, rfl, _, _, hX, hb1, _⟩
  clear c0 c1 c2 c3 c4 c5
  have HX := Lib.hid hX
  have HB := Lib.hid (bstep hb0.out hb1)
  have s0 := HS.out.below hb1
  have HS1 := Lib.hid s0
  have c0 := s0.c0; have c1 := s0.c1; have c2 := s0.c2; have c3 := s0.c3; have c4 := s0.c4; have c5 := s0.c5
  simp only at c0 c1 c2 c3 c4 c5
  clear hb1 s0 hX
  go_wp2_with fail
  refine (HK.out _).mono ?_
  rintro e w2 ⟨rfl, hb2⟩
  clear c0 c1 c2 c3 c4 c5
  have HB2 := Lib.hid (bstep HB.out hb2)
  have HX2 := Lib.hid (HX.out.below hb2)
  have HS2 := Lib.hid (HS1.out.below hb2)
  clear hb2
  go_wp2_with fail
  refine (HGA.out w2 (H3.out.below HB2.out)).mono ?_
  rintro e w3 ⟨G, Rb, R, B, c, rfl, hg, ha, hb3, z4, z5, z6⟩
  have s0 := HS2.out.below hb3
  have c0 := s0.c0; have c1 := s0.c1; have c2 := s0.c2; have c3 := s0.c3; have c4 := s0.c4; have c5 := s0.c5
  simp only at c0 c1 c2 c3 c4 c5
  have HG := Lib.hid hg; have HA := Lib.hid ha; have HB3 := Lib.hid hb3
  clear hg ha hb3 s0
  go_wp2_with fail
  refine (HEA.out G Rb R c B X d w2 w3 (HT.out.below HB2.out) HX2.out (H2.out.below HB2.out) HB3.out HG.out HA.out z5 z6).mono ?_
  rintro e w4 ⟨rfl, hg4, hb4⟩
  have cg := hg4.g1
  clear c0 c1 c2 c3 c4 c5
  have HB4 := Lib.hid (HB2.out.trans (hb4.mono HB2.out.size))
  have HG4 := Lib.hid hg4
  have hs2 := HB2.out.size
  clear hg4 hb4
  go_wp2
  go_ret2
  obtain ⟨o1, o2⟩ := HG4.out.own HA.out (w := w) (by omega) (by rw [HPL.out]; exact hw) (by omega) (by omega) HRL.out HR.out
  exact ⟨_, rfl, o1, o2, HB4.out⟩
end Go.Proofs.Ytompeiemioeohaa.Deal

/- the contracts of package deal -/
set_option maxRecDepth 100000
namespace Go.Proofs.Ytompeiemioeohaa.Deal
open Go.RowKit PlanM StripeM DealM Plan Stripe

theorem sharesOf_any (b0 : Nat) (p : P) (A1 A2 A3 : Option Addr) (blob tape : List UInt8) (who : List Int) (c1 c2 c3 : Nat) (w : World) (hp : p.In) (ht : Gf.Tab w b0) (h1 : BytesAt w A1 blob) (k1 : blob.length ≤ c1) (z1 : c1 ≤ maxLen) (hl1 : blob.length ≤ 1048576)
    (h2 : BytesAt w A2 tape) (k2 : tape.length ≤ c2) (z2 : c2 ≤ maxLen) (h3 : IntsAt w A3 who) (k3 : who.length ≤ c3) (z3 : c3 ≤ maxLen) (hw : who.length ≤ 1048576) (hi : ∀ x ∈ who, In64 x) :
    Calls Try.prog 61 #[.pointer (some ⟨b0, 0, none⟩), p.val, .slice A1 blob.length c1, .slice A2 tape.length c2, .slice A3 who.length c3] w (RetOwnE w (if dealE p blob tape = 0 then who.map (share (polys p blob tape)) else []) (dealE p blob tape)) := by
  by_cases hM : p.May
  · by_cases hb : 240 < blob.length
    · have e : dealE p blob tape = 7 := by unfold dealE; rw [P.right_yes hM, if_pos rfl, if_pos hb]
      rw [e, if_neg (by decide)]
      exact sharesOf_err b0 p A1 A2 A3 blob tape.length who.length c1 c2 c3 w 7 hp h1 k1 z1 hl1 (by unfold cutE; rw [P.right_yes hM, if_pos rfl, if_pos hb]) rfl
    · have ec : costA p blob.length = cost p blob.length := by unfold costA; rw [P.right_yes hM, if_pos rfl]
      by_cases hc : (tape.length : Int) < costA p blob.length
      · have e : dealE p blob tape = 12 := by unfold dealE; rw [P.right_yes hM, if_pos rfl, if_neg hb, if_pos (by rw [← ec]; exact hc)]
        rw [e, if_neg (by decide)]
        exact sharesOf_empty b0 p A1 A2 A3 blob tape.length who.length c1 c2 c3 w hp h1 k1 z1 hl1 (by unfold cutE; rw [P.right_yes hM, if_pos rfl, if_neg hb]) hc ⟨k2, z2⟩
      · have e : dealE p blob tape = 0 := by unfold dealE; rw [P.right_yes hM, if_pos rfl, if_neg hb, if_neg (by rw [← ec]; exact hc)]
        rw [e, if_pos rfl]
        exact sharesOf_ok b0 p A1 A2 A3 blob tape who c1 c2 c3 w hp hM ht h1 k1 z1 (by omega) h2 k2 z2 h3 k3 z3 hw hi hc
  · have e : dealE p blob tape = 1 := by unfold dealE; rw [P.right_no hM]; rfl
    rw [e, if_neg (by decide)]
    exact sharesOf_err b0 p A1 A2 A3 blob tape.length who.length c1 c2 c3 w 1 hp h1 k1 z1 hl1 (by unfold cutE; rw [P.right_no hM]; rfl) rfl
theorem RetOwnE.after {w w1 : World} {m : List (List UInt8)} {err : Int} {e : Ending} {w' : World} (hb : Below w.heap.size w w1) (h : RetOwnE w1 m err e w') : RetOwnE w m err e w' := by
  obtain ⟨v, h1, ⟨vs, h2, h3⟩, h4, h5⟩ := h
  refine ⟨v, h1, ⟨vs, ⟨h2.1, ?_⟩, h3⟩, fun A c e i hi => ?_, bstep hb h5⟩
  · rcases h2.2 with h | ⟨g, cap, cur, k1, k2, k3⟩
    · exact .inl h
    · exact .inr ⟨g, cap, cur, k1, Nat.le_trans hb.size k2, k3⟩
  · obtain ⟨b, o, B, d, q1, q2, q3, q4, q5, q6⟩ := h4 A c e i hi
    exact ⟨b, o, B, d, q1, q2, q3, q4, q5, q6.mono hb.size⟩
theorem all_in (n : Nat) (hn : n ≤ 1048576) : ∀ x ∈ all n, In64 x := fun x hx => by
  unfold all at hx
  obtain ⟨j, hj, rfl⟩ := List.mem_map.mp hx
  have := List.mem_range.mp hj
  unfold In64; omega
theorem allA_le (p : P) (_hp : p.In) : p.allA.length ≤ 1048576 ∧ ∀ x ∈ p.allA, In64 x := by
  unfold P.allA
  by_cases hM : p.May
  · rw [P.right_yes hM, if_pos rfl, all_len]
    unfold P.May at hM
    exact ⟨by omega, all_in _ (by omega)⟩
  · rw [P.right_no hM, if_neg (by simp)]
    exact ⟨by simp, fun x hx => by simp at hx⟩
theorem dealA_eq (p : P) (blob tape : List UInt8) : (if dealE p blob tape = 0 then p.allA.map (share (polys p blob tape)) else []) = dealA p blob tape := by
  unfold dealA
  by_cases h : dealE p blob tape = 0
  · rw [if_pos h, if_pos h]
    have hM : p.right = true := by
      rcases hr : p.right with _ | _
      · unfold dealE at h; rw [hr] at h; simp at h
      · rfl
    unfold P.allA shares; rw [hM, if_pos rfl]
  · rw [if_neg h, if_neg h]

set_option maxHeartbeats 2000000 in
theorem deal_own (b0 : Nat) (p : P) (A1 A2 : Option Addr) (blob tape : List UInt8) (c1 c2 : Nat) (w : World) (hp : p.In) (ht : Gf.Tab w b0) (h1 : BytesAt w A1 blob) (k1 : blob.length ≤ c1) (z1 : c1 ≤ maxLen) (h2 : BytesAt w A2 tape) (k2 : tape.length ≤ c2) (z2 : c2 ≤ maxLen)
    (hl1 : blob.length ≤ 1048576) :
    Calls Try.prog 30 #[.pointer (some ⟨b0, 0, none⟩), p.val, .slice A1 blob.length c1, .slice A2 tape.length c2] w (RetOwnE w (dealA p blob tape) (dealE p blob tape)) := by
  have HS := Lib.hid (Six.new w p)
  have hb0 := Lib.hid (balloc w (.cells #[.int .i64 p.N, .int .i64 p.T, .int .i64 p.L, .int .i64 p.W, .int .i64 p.S, .int .i64 p.R] 23))
  have hA := fun V => Plan.all_any p V hp
  obtain ⟨hal, hai⟩ := allA_le p hp
  have hO := fun V A3 c3 ht h1 h2 h3 k3 z3 => sharesOf_any b0 p A1 A2 A3 blob tape p.allA c1 c2 c3 V hp ht h1 k1 z1 hl1 h2 k2 z2 h3 k3 z3 hal hai
  rw [dealA_eq] at hO
  have HT := Lib.hid ht; have H1 := Lib.hid h1; have H2 := Lib.hid h2
  generalize dealA p blob tape = res at *
  generalize dealE p blob tape = er at *
  generalize p.allA = who at *
  obtain ⟨bl, hbl⟩ : ∃ bl, bl = blob.length := ⟨_, rfl⟩
  obtain ⟨tl, htl⟩ : ∃ tl, tl = tape.length := ⟨_, rfl⟩
  rw [← hbl, ← htl] at hO ⊢
  clear hp h1 h2 ht hl1 hbl htl k1 hai
  obtain ⟨pN, pT, pL, pW, pS, pR⟩ := p
  unfold P.val at hA hO ⊢
  simp only at HS hb0 hA hO ⊢
  have HA := Lib.hid hA; have HO := Lib.hid hO
  clear hA hO
  go_enter Try.func30, Try.ntmps30
  go_wp2_with fail
  generalize w.alloc (.cells #[.int .i64 pN, .int .i64 pT, .int .i64 pL, .int .i64 pW, .int .i64 pS, .int .i64 pR] 23) = w0 at *
  have s0 := HS.out
  have c0 := s0.c0; have c1 := s0.c1; have c2 := s0.c2; have c3 := s0.c3; have c4 := s0.c4; have c5 := s0.c5
  simp only at c0 c1 c2 c3 c4 c5
  clear s0
  go_region_held3 (fun w' => w'.cell? ⟨w.heap.size, 0, none⟩ = some (.int .i64 pN) ∧ w'.cell? ⟨w.heap.size, 1, none⟩ = some (.int .i64 pT) ∧ w'.cell? ⟨w.heap.size, 2, none⟩ = some (.int .i64 pL) ∧ w'.cell? ⟨w.heap.size, 3, none⟩ = some (.int .i64 pW) ∧ w'.cell? ⟨w.heap.size, 4, none⟩ = some (.int .i64 pS) ∧ w'.cell? ⟨w.heap.size, 5, none⟩ = some (.int .i64 pR)) (first | (exact ⟨c0, c1, c2, c3, c4, c5⟩) | (exact ⟨HA2.out.c0, HA2.out.c1, HA2.out.c2, HA2.out.c3, HA2.out.c4, HA2.out.c5⟩) | (exact ⟨HA1.out.c0, HA1.out.c1, HA1.out.c2, HA1.out.c3, HA1.out.c4, HA1.out.c5⟩) | go_keep) ((first
    | (go_simp; go_at_call 62; refine (HA.out _).mono ?_; rintro e w1 ⟨X, d, rfl, kd, zd, hX, hb1, _⟩; have HX := Lib.hid hX; clear hX; have hb1 : Below w0.heap.size w0 w1 := (by first | (exact hb1) | (exact bstep (bdraw w0 _) hb1)); have HA1 := Lib.hid (HS.out.below hb1))
    | (go_simp; go_at_call 61; refine (HO.out _ X d (HT.out.below (bstep hb0.out hb1)) (H1.out.below (bstep hb0.out hb1)) (H2.out.below (bstep hb0.out hb1)) HX.out kd zd).mono ?_; rintro e w2 ⟨v, rfl, o1, o2, hb2⟩; have HO1 := Lib.hid o1; have HO2 := Lib.hid o2; clear o1 o2; have HA2 := Lib.hid (HA1.out.below hb2))))
  clear c0 c1 c2 c3 c4 c5
  all_goals
    go_wp2
    go_ret2
    exact RetOwnE.after (bstep hb0.out hb1) ⟨v, rfl, HO1.out, HO2.out, hb2⟩

theorem deal_any (b0 : Nat) (p : P) (A1 A2 : Option Addr) (blob tape : List UInt8) (c1 c2 : Nat) (w : World) (hp : p.In) (ht : Gf.Tab w b0) (h1 : BytesAt w A1 blob) (k1 : blob.length ≤ c1) (z1 : c1 ≤ maxLen) (h2 : BytesAt w A2 tape) (k2 : tape.length ≤ c2) (z2 : c2 ≤ maxLen)
    (hl1 : blob.length ≤ 1048576) :
    Calls Try.prog 30 #[.pointer (some ⟨b0, 0, none⟩), p.val, .slice A1 blob.length c1, .slice A2 tape.length c2] w (RetRowsE w (dealA p blob tape) (dealE p blob tape)) :=
  (deal_own b0 p A1 A2 blob tape c1 c2 w hp ht h1 k1 z1 h2 k2 z2 hl1).mono fun _ _ h => h.rows

end Go.Proofs.Ytompeiemioeohaa.Deal
