/- lists of bytes that a call makes: literals, make, append, stores -/
import Derived.Test.YtjoocjkakgjgmaaMem
import Derived.Below
import Derived.Laws.OwnMore
import Derived.Laws.MakeOwn
import Derived.OwnWalk
import Derived.Deep.Draws
import Derived.Laws.Rows
import Derived.Laws.CopyOwn
set_option maxRecDepth 100000
namespace Go.Proofs.Ytjoocjkakgjgmaa
open Go.RowKit

def vals (l : List UInt8) : List Value := l.map fun b => .int .u8 (b.toNat : Nat)
def cells (l : List UInt8) : Array Value := (vals l).toArray
theorem vals_len (l : List UInt8) : (vals l).length = l.length := by simp [vals]
theorem vals_get (l : List UInt8) (i : Nat) (h : i < l.length) : (vals l)[i]? = some (.int .u8 (l[i].toNat : Nat)) := by simp [vals, h]
theorem cells_size (l : List UInt8) : (cells l).size = l.length := by simp [cells, vals]

/-- a block that is just these bytes -/
def Row (w : World) (g : Nat) (l : List UInt8) : Prop := w.heap[g]? = some (.cells (cells l) 5 (0, 0))
section
variable {w w' : World} {g : Nat} {l : List UInt8}
theorem Row.lt (h : Row w g l) : g < w.heap.size := by
  rcases Nat.lt_or_ge g w.heap.size with hlt | hge
  · exact hlt
  · unfold Row at h; rw [Array.getElem?_eq_none hge] at h; cases h
theorem Row.cell (h : Row w g l) (i : Nat) (hi : i < l.length) : w.cell? ⟨g, i, none⟩ = some (.int .u8 (l[i].toNat : Nat)) := by
  rw [cell_of_row w g i (cells l) 5 (0, 0) h]
  unfold cells; rw [List.getElem?_toArray, vals_get l i hi]
theorem Row.frozen (h : Row w g l) (i : Nat) : w.frozen? ⟨g, i, none⟩ = false := by
  unfold Row at h
  simp [World.frozen?, h]
theorem Row.new (w : World) (l : List UInt8) : Row (w.alloc (.cells (cells l) 5)) w.heap.size l := heap_alloc_new w _
theorem Row.drewN (h : Row w g l) (n : Nat) : Row (w.drewN n) g l := h
theorem Row.drew (h : Row w g l) : Row w.drew g l := h
theorem Row.alloc (h : Row w g l) (o : Obj) : Row (w.alloc o) g l := (Below.heap_alloc w o g h.lt).trans h
theorem Row.set (h : Row w g l) (i : Nat) (b : UInt8) : Row (w.setCell ⟨g, i, none⟩ (.int .u8 (b.toNat : Nat))) g (l.set i b) := by
  unfold Row at h ⊢
  have e : (cells l).setIfInBounds i (.int .u8 (b.toNat : Nat)) = cells (l.set i b) := by
    unfold cells vals; rw [List.map_set, List.setIfInBounds_toArray]
  simp [World.setCell, Array.getElem?_modify, h, e]
theorem Row.far (h : Row w g l) {p : Addr} (hp : g ≠ p.block) (u : Value) : Row (w.setCell p u) g l := (Below.heap_setCell w p u g hp).trans h
theorem Row.below {B : Nat} (h : Row w g l) (hb : Below B w w') (hg : g < B) : Row w' g l := (hb.block g hg).trans h
theorem Row.bytes (h : Row w g l) : BytesAt w (some ⟨g, 0, none⟩) l := fun i hi => ⟨g, 0, rfl, by rw [Nat.zero_add]; exact h.cell i hi⟩
end

theorem BytesAt.nil (w : World) (A : Option Addr) : BytesAt w A [] := fun i hi => absurd hi (by simp)
theorem BytesAt.alloc {w : World} {A : Option Addr} {l : List UInt8} (h : BytesAt w A l) (o : Obj) : BytesAt (w.alloc o) A l := h.below ((Below.refl _ _).alloc (Nat.le_refl _) o)
/-- what was there stays, if only blocks from B on have turned -/
theorem BytesAt.keep {w w' : World} {A : Option Addr} {l : List UInt8} {B : Nat} (h : BytesAt w A l) (hb : Below B w w') (hl : ∀ a, A = some a → a.block < B) : BytesAt w' A l := by
  intro i hi
  obtain ⟨b, o, hA, hc⟩ := h i hi
  exact ⟨b, o, hA, (hb.cell (p := ⟨b, o + i, none⟩) (hl ⟨b, o, none⟩ hA)).trans hc⟩

/-- a list of bytes that the call has gathered: nil, or a row of its own -/
def Own (w : World) (base : Nat) (v : Value) (l : List UInt8) : Prop := w.ownsRow base 5 1 v l.length (vals l)
section
variable {w w' : World} {base : Nat} {v : Value} {l : List UInt8}
theorem Own.nil (w : World) (base : Nat) : Own w base (.slice none 0 0) [] := World.ownsRow_nil _ _ _ _
theorem Own.alloc (h : Own w base v l) (o : Obj) : Own (w.alloc o) base v l := World.ownsRow.alloc h o
theorem Own.drewN (h : Own w base v l) (n : Nat) : Own (w.drewN n) base v l := h
theorem Own.below (h : Own w base v l) (hb : Below w.heap.size w w') : Own w' base v l := by
  refine ⟨h.1, ?_⟩
  rcases h.2 with h2 | ⟨g, cap, cur, h1, h2, h3, h4⟩
  · exact .inl h2
  · refine .inr ⟨g, cap, cur, h1, h2, (hb.block g ?_).trans h3, h4⟩
    rcases Nat.lt_or_ge g w.heap.size with hlt | hge
    · exact hlt
    · rw [Array.getElem?_eq_none hge] at h3; cases h3
theorem Own.bytes (h : Own w base v l) : ∃ A c, v = .slice A l.length c ∧ l.length ≤ c ∧ c ≤ maxLen ∧ BytesAt w A l := by
  rcases h.2 with ⟨rfl, hn⟩ | ⟨g, cap, cur, rfl, _, h3, h4, h5, h6, h7⟩
  · have : l = [] := List.eq_nil_of_length_eq_zero hn
    subst this
    exact ⟨none, 0, rfl, Nat.le_refl _, Nat.zero_le _, BytesAt.nil _ _⟩
  · refine ⟨_, _, rfl, h4, h5, fun i hi => ⟨g, 0, rfl, ?_⟩⟩
    rw [Nat.zero_add, cell_of_row w g i cur 5 (0, 0) h3, ← vals_get l i hi, ← h7, Nat.mul_one, List.getElem?_take, if_pos hi]
    simp
end

theorem u8_info : (Try.prog.info? 5).map (fun i => (i.zero, i.size, i.bytes)) = some (some (.int .u8 0), 1, 1) := by kernel_rfl
theorem u8_info' : ∃ i, Try.prog.info? 5 = some i ∧ i.zero = some (.int .u8 0) ∧ i.size = 1 ∧ i.bytes = 1 := by
  obtain ⟨i0, h, a, b, c⟩ := info_parts u8_info
  exact ⟨i0, h, a, b, c⟩

theorem make_u8 (n : Nat) (hn : n ≤ 1099511627776) (w : World) :
    (Instr.makeSlice 24 (.int .i64 (n : Int)) (.int .i64 (n : Int))).run Try.prog w = .ok (.slice (some ⟨w.heap.size, 0, none⟩) n n) (w.alloc (.cells (cells (List.replicate n 0)) 5)) := by
  obtain ⟨i0, hi, hz, hs, hb⟩ := u8_info'
  have hr := run_make (P := Try.prog) w 24 5 i0 _ Try.underlying24 hi hz .i64 .i64 n n (by omega) (by omega) (by rw [hb]; omega) (by omega)
  simp only [Int.toNat_natCast] at hr
  have : madeCells (Value.int .u8 0).cells n = cells (List.replicate n 0) := by
    apply Array.ext'
    rw [show (Value.int .u8 0).cells = #[.int .u8 0] from rfl, toList_madeCells_one]
    simp [cells, vals]
  rw [hr, hs, Nat.mul_one, this]

/-- 'append(out, b)' onto a list of the call's own -/
theorem run_append_u8 (w : World) (ty : TypeId) (base : Nat) (v : Value) (l : List UInt8) (hown : Own w base v l) (g c : Nat) (b : UInt8) (hc : w.cell? ⟨g, 0, none⟩ = some (.int .u8 (b.toNat : Nat)))
    (hl : l.length < 1099511627776) (hbase : base ≤ w.heap.size) :
    ∃ v' w', (Builtin.append_ #[24, 24] ty #[v, .slice (some ⟨g, 0, none⟩) 1 c]).run Try.prog w = .ok v' w' ∧ Own w' base v' (l ++ [b]) ∧ Below base w w' := by
  obtain ⟨i0, hi, hz, hs, hb⟩ := u8_info'
  obtain ⟨v', w', hrun, h2, h3, _⟩ := run_append_own (P := Try.prog) w base 24 ty 5 i0 _ 1 1 Try.underlying24 hi hz hs hb rfl (by omega) v l.length (vals l) hown
    ⟨g, 0, none⟩ 1 c [.int .u8 (b.toNat : Nat)] rfl (by
      intro j u hj
      match j, hj with
      | 0, hj => simp at hj; subst hj; simpa [Addr.add] using hc)
    (by intro u hu; simp at hu; subst hu; rfl) (by unfold maxLen; omega) (by omega) hbase
  refine ⟨v', w', hrun, ?_, ?_⟩
  · unfold Own
    rw [List.length_append, List.length_singleton]
    have : vals (l ++ [b]) = vals l ++ [.int .u8 (b.toNat : Nat)] := by simp [vals]
    rw [this]; exact h2
  · refine (Below.refl _ _).grown h3 hbase ?_
    intro k hk
    rcases hown.2 with ⟨rfl, _⟩ | ⟨g', cap, cur, rfl, hg, _⟩
    · simp [Value.ownBlock] at hk
    · simp [Value.ownBlock] at hk; omega

theorem wp_append_u8 {o : Oper} {a : Act} {w : World} {K : Act → World → Prop} {Q : Exit → Act → World → Prop} (s x : Operand)
    (ho : o.op = .call { callee := .builtin .append, args := #[s, x], argTypes := #[24, 24] })
    (base : Nat) (v : Value) (l : List UInt8) (hs : a.eval s = v) (hown : Own w base v l) (g c : Nat) (b : UInt8) (hx : a.eval x = .slice (some ⟨g, 0, none⟩) 1 c)
    (hc : w.cell? ⟨g, 0, none⟩ = some (.int .u8 (b.toNat : Nat))) (hl : l.length < 1099511627776) (hbase : base ≤ w.heap.size)
    (h : ∀ v' w', Own w' base v' (l ++ [b]) → Below base w w' → K (a.put o.dst v') w') : o.wp Try.prog a w K Q := by
  obtain ⟨v', w', hrun, h2, h3⟩ := run_append_u8 w o.type base v l hown g c b hc hl hbase
  unfold Oper.wp execOp
  simp only [ho, resolve, invoke, builtin, Sem.run_bind, Sem.run_pure, Result.andThen_ok, List.map_toArray, List.map_cons, List.map_nil, hs, hx, hrun]
  exact h v' w' h2 h3
theorem wpList_append_u8 {ops : Array Oper} {rest : List Oper} {o : Oper} {a : Act} {w : World} {Q : Exit → Act → World → Prop} (hgd : o.guard = none) (s x : Operand)
    (ho : o.op = .call { callee := .builtin .append, args := #[s, x], argTypes := #[24, 24] })
    (base : Nat) (v : Value) (l : List UInt8) (hs : a.eval s = v) (hown : Own w base v l) (g c : Nat) (b : UInt8) (hx : a.eval x = .slice (some ⟨g, 0, none⟩) 1 c)
    (hc : w.cell? ⟨g, 0, none⟩ = some (.int .u8 (b.toNat : Nat))) (hl : l.length < 1099511627776) (hbase : base ≤ w.heap.size)
    (h : ∀ v' w', Own w' base v' (l ++ [b]) → Below base w w' → wpList Try.prog ops Q rest (a.put o.dst v') w') : wpList Try.prog ops Q (o :: rest) a w :=
  wpList_plain hgd fun _ hK => wp_append_u8 s x ho base v l hs hown g c b hx hc hl hbase fun v' w' h2 h3 => hK _ _ (h v' w' h2 h3)
theorem step_append_u8 {ops : Array Oper} {o : Oper} {a : Act} {w : World} {K : Act → World → Prop} {Q : Exit → Act → World → Prop} {E : Prop} (hgd : o.guard = none) (s x : Operand)
    (ho : o.op = .call { callee := .builtin .append, args := #[s, x], argTypes := #[24, 24] })
    (base : Nat) (v : Value) (l : List UInt8) (hs : a.eval s = v) (hown : Own w base v l) (g c : Nat) (b : UInt8) (hx : a.eval x = .slice (some ⟨g, 0, none⟩) 1 c)
    (hc : w.cell? ⟨g, 0, none⟩ = some (.int .u8 (b.toNat : Nat))) (hl : l.length < 1099511627776) (hbase : base ≤ w.heap.size)
    (h : ∀ v' w', Own w' base v' (l ++ [b]) → Below base w w' → K (a.put o.dst v') w') : if Region.wanted o (yielded ops a.tmps) = true then Oper.wp Try.prog o a w K Q else E := by
  have hw : Region.wanted o (yielded ops a.tmps) = true := by simp [Region.wanted, hgd]
  rw [if_pos hw]
  exact wp_append_u8 s x ho base v l hs hown g c b hx hc hl hbase h

theorem u8_size : (Try.prog.info? 5).map (·.size) = some 1 := by kernel_rfl
/-- 'copy' into a row of the call's own -/
theorem wpList_copy_u8 {ops : Array Oper} {rest : List Oper} {o : Oper} {a : Act} {w : World} {Q : Exit → Act → World → Prop} (hgd : o.guard = none) (d s : Operand)
    (ho : o.op = .call { callee := .builtin .copy, args := #[d, s], argTypes := #[24, 24] })
    (D : Option Addr) (dn dc : Nat) (A : Option Addr) (l : List UInt8) (c : Nat) (hd : a.eval d = .slice D dn dc) (hs : a.eval s = .slice A l.length c)
    (g off : Nat) (l0 : List UInt8) (hg : Row w g l0) (hD : 0 < dn → D = some ⟨g, off, none⟩) (hA : BytesAt w A l) (hfit : off + min l.length dn ≤ l0.length)
    (h : ∀ w', Row w' g (splice l0 off (l.take dn)) → Below g w w' → wpList Try.prog ops Q rest (a.put o.dst (goInt (min l.length dn : Nat))) w') : wpList Try.prog ops Q (o :: rest) a w := by
  have hlen : (vals (l.take dn)).length = Nat.min l.length dn := by rw [vals_len, List.length_take]; exact Nat.min_comm _ _
  have hlen' : (vals (l.take dn)).length = min l.length dn := hlen
  refine wpList_copy_splice hgd d s 24 24 ho 5 Try.underlying24 u8_size D A dn dc l.length c hd hs g off (vals l0) 5 hg (vals (l.take dn)) hlen ?_ ?_ ?_ g w (Below.refl _ _) (Nat.le_refl _) ?_
  · intro hp
    refine ⟨hD (by omega), ?_⟩
    obtain ⟨b, o', hA', _⟩ := hA 0 (by omega)
    refine ⟨_, hA', fun j v hv => ?_⟩
    have hj : j < (vals (l.take dn)).length := by
      rcases Nat.lt_or_ge j (vals (l.take dn)).length with hlt | hge
      · exact hlt
      · rw [List.getElem?_eq_none hge] at hv; cases hv
    obtain ⟨b2, o2, hA2, hc⟩ := hA j (by omega)
    rw [hA'] at hA2
    obtain ⟨rfl, rfl⟩ : b = b2 ∧ o' = o2 := by injection hA2 with hA2; injection hA2 with h1 h2; exact ⟨h1, h2⟩
    have hv' : (vals (l.take dn))[j]? = some (.int .u8 (l[j].toNat : Nat)) := by
      rw [vals_get _ j (by rw [vals_len] at hj; exact hj)]
      simp
    rw [hv'] at hv
    injection hv with hv
    subst hv
    have hadd : (⟨b, o', none⟩ : Addr).add j = ⟨b, o' + j, none⟩ := by unfold Addr.add; split <;> simp_all
    rw [hadd]; exact hc
  · rw [hlen', vals_len]; omega
  · intro u hu
    simp only [vals, List.mem_map] at hu
    obtain ⟨b, _, rfl⟩ := hu
    rfl
  · intro w' h1 h2
    rw [hlen']
    refine h w' ?_ h2
    have e : splice (vals l0) off (vals (l.take dn)) = vals (splice l0 off (l.take dn)) := by
      simp [splice, vals, List.map_take, List.map_drop]
    unfold Row cells
    rw [← e]; exact h1
theorem splice_all (l0 l : List UInt8) (h : l0.length = l.length) : splice l0 0 (l.take l.length) = l := by
  simp [splice, h]

/-- the call hands back these bytes, in memory of its own or none -/
def RetBytes (w : World) (l : List UInt8) (e : Ending) (w' : World) : Prop :=
  ∃ A c, e = .returned (.slice A l.length c) ∧ l.length ≤ c ∧ c ≤ maxLen ∧ BytesAt w' A l ∧ Below w.heap.size w w'
theorem RetBytes.of_own {w w' : World} {v : Value} {l : List UInt8} (h : Own w' w.heap.size v l) (hb : Below w.heap.size w w') : RetBytes w l (.returned v) w' := by
  obtain ⟨A, c, rfl, h1, h2, h3⟩ := h.bytes
  exact ⟨A, c, rfl, h1, h2, h3, hb⟩
theorem RetBytes.of_row {w w' : World} {g : Nat} {l : List UInt8} (h : Row w' g l) (hb : Below w.heap.size w w') (hl : l.length ≤ maxLen) : RetBytes w l (.returned (.slice (some ⟨g, 0, none⟩) l.length l.length)) w' :=
  ⟨_, _, rfl, Nat.le_refl _, hl, h.bytes, hb⟩
theorem RetBytes.of_nil {w w' : World} (hb : Below w.heap.size w w') : RetBytes w [] (.returned (.slice none 0 0)) w' :=
  ⟨Option.none, 0, rfl, Nat.le_refl _, Nat.zero_le _, BytesAt.nil _ _, hb⟩
theorem toNat_bne (a b : UInt8) : ((a.toNat : Int) != (b.toNat : Int)) = (a != b) := by
  unfold bne; rw [toNat_beq]
/-- whether two lists are the same: not to be laid open by the walk -/
def same (l1 l2 : List UInt8) : Bool := decide (l1 = l2)
theorem same_self (l : List UInt8) : same l l = true := by simp [same]
theorem same_len {l1 l2 : List UInt8} (h : l1.length ≠ l2.length) : same l1 l2 = false := by
  unfold same; exact decide_eq_false (fun e => h (by rw [e]))
theorem same_at {l1 l2 : List UInt8} (i : Nat) (h1 : i < l1.length) (h2 : i < l2.length) (h : l1[i] ≠ l2[i]) : same l1 l2 = false := by
  unfold same; exact decide_eq_false (fun e => h (by subst e; rfl))
theorem same_all {l1 l2 : List UInt8} (h : l1.length = l2.length) (h2 : ∀ i, (h1 : i < l1.length) → l1[i] = l2[i]'(by omega)) : same l1 l2 = true := by
  unfold same; exact decide_eq_true (List.ext_getElem h fun i h1 _ => h2 i h1)
theorem ret_bool {a b : Bool} (h : a = b) : Ending.returned (.bool a) = .returned (.bool b) := by rw [h]
theorem ret2 {v1 v2 u1 u2 : Value} (h1 : v1 = u1) (h2 : v2 = u2) : Ending.returned (.tuple #[v1, v2]) = .returned (.tuple #[u1, u2]) := by rw [h1, h2]
theorem xor_i64 (a b : UInt8) : bits .xor .i64 (a.toNat : Int) (b.toNat : Int) = ((GfM.add a b).toNat : Int) := by
  have := GfM.lt a; have := GfM.lt b
  rw [i64_xor_nat _ _ (by omega) (by omega), GfM.add, UInt8.toNat_xor]

/-- what is handed back lies in new memory (or in none) -/
def New (w : World) (A : Option Addr) : Prop := ∀ a, A = some a → w.heap.size ≤ a.block
theorem New.none (w : World) : New w Option.none := fun a h => by cases h
theorem New.at (w : World) {g o : Nat} (h : w.heap.size ≤ g) : New w (some ⟨g, o, Option.none⟩) := fun a e => by injection e with e; subst e; exact h
theorem New.mono {w w' : World} {A : Option Addr} (h : New w' A) (hs : w.heap.size ≤ w'.heap.size) : New w A := fun a e => Nat.le_trans hs (h a e)
def RetNew (w : World) (l : List UInt8) (e : Ending) (w' : World) : Prop :=
  ∃ A c, e = .returned (.slice A l.length c) ∧ l.length ≤ c ∧ c ≤ maxLen ∧ BytesAt w' A l ∧ Below w.heap.size w w' ∧ New w A
theorem RetNew.bytes {w w' : World} {l : List UInt8} {e : Ending} (h : RetNew w l e w') : RetBytes w l e w' := by
  obtain ⟨A, c, h1, h2, h3, h4, h5, _⟩ := h
  exact ⟨A, c, h1, h2, h3, h4, h5⟩
theorem Own.new {w : World} {base : Nat} {v : Value} {l : List UInt8} (h : Own w base v l) : ∃ A c, v = .slice A l.length c ∧ l.length ≤ c ∧ c ≤ maxLen ∧ BytesAt w A l ∧ ∀ a, A = some a → base ≤ a.block := by
  obtain ⟨A, c, rfl, h1, h2, h3⟩ := h.bytes
  refine ⟨A, c, rfl, h1, h2, h3, ?_⟩
  rcases h.2 with ⟨hv, _⟩ | ⟨g, cap, cur, hv, hg, _⟩
  · injection hv with hv _ _; subst hv; exact fun a e => by cases e
  · injection hv with hv _ _; subst hv; exact fun a e => by injection e with e; subst e; exact hg
theorem RetNew.of_own {w w' : World} {v : Value} {l : List UInt8} (h : Own w' w.heap.size v l) (hb : Below w.heap.size w w') : RetNew w l (.returned v) w' := by
  obtain ⟨A, c, rfl, h1, h2, h3, h4⟩ := h.new
  exact ⟨A, c, rfl, h1, h2, h3, hb, h4⟩
theorem RetNew.of_row {w w' : World} {g : Nat} {l : List UInt8} (h : Row w' g l) (hb : Below w.heap.size w w') (hl : l.length ≤ maxLen) (hg : w.heap.size ≤ g) : RetNew w l (.returned (.slice (some ⟨g, 0, none⟩) l.length l.length)) w' :=
  ⟨_, _, rfl, Nat.le_refl _, hl, h.bytes, hb, New.at w hg⟩
theorem RetNew.of_nil {w w' : World} (hb : Below w.heap.size w w') : RetNew w [] (.returned (.slice none 0 0)) w' :=
  ⟨Option.none, 0, rfl, Nat.le_refl _, Nat.zero_le _, BytesAt.nil _ _, hb, New.none w⟩
/-- a store elsewhere -/
theorem BytesAt.far {w : World} {A : Option Addr} {l : List UInt8} (h : BytesAt w A l) (p : Addr) (u : Value) (hp : ∀ a, A = some a → a.block ≠ p.block) : BytesAt (w.setCell p u) A l := by
  intro i hi
  obtain ⟨b, o, hA, hc⟩ := h i hi
  refine ⟨b, o, hA, ?_⟩
  rw [World.cell?_setCell_other _ _ _ _ (by intro e; exact hp _ hA (by rw [e]))]
  exact hc
theorem BytesAt.setCell {w : World} {A : Option Addr} {l : List UInt8} (h : BytesAt w A l) {p : Addr} (u : Value) {B : Nat} (hA : ∀ a, A = some a → a.block < B) (hp : B ≤ p.block) : BytesAt (w.setCell p u) A l :=
  h.far p u fun a e => by have := hA a e; omega
/-- what holds these bytes was there -/
theorem BytesAt.lt {w : World} {A : Option Addr} {l : List UInt8} (h : BytesAt w A l) (hl : 0 < l.length) : ∀ a, A = some a → a.block < w.heap.size := by
  intro a e
  obtain ⟨b, o, hA, hc⟩ := h 0 hl
  rw [e] at hA; injection hA with hA; subst hA
  exact cell_lt hc
theorem BytesAt.same {w w' : World} {A : Option Addr} {l : List UInt8} (h : BytesAt w A l) (hs : ∀ a, A = some a → w'.heap[a.block]? = w.heap[a.block]?) : BytesAt w' A l := by
  intro i hi
  obtain ⟨b, o, hA, hc⟩ := h i hi
  refine ⟨b, o, hA, ?_⟩
  have := hs _ hA
  unfold World.cell? at hc ⊢
  simp only at this hc ⊢
  rw [this]; exact hc
end Go.Proofs.Ytjoocjkakgjgmaa
