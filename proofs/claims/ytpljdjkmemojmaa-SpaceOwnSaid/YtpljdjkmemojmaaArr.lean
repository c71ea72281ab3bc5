/- arrays of 64 bytes by value: a block that is just these bytes, whatever its type -/
import Derived.Test.YtpljdjkmemojmaaBytes
import Derived.Laws.Rows
import Derived.Laws.Tables
import Derived.Laws.ResultCell
import Derived.Laws.StructEq
import Derived.ChangeKeysEq
set_option maxRecDepth 100000
namespace Go.Proofs.Ytpljdjkmemojmaa
open Go.RowKit

def RowT (t : TypeId) (w : World) (g : Nat) (l : List UInt8) : Prop := w.heap[g]? = some (.cells (cells l) t (0, 0))
section
variable {w w' : World} {g : Nat} {l : List UInt8} {t : TypeId}
theorem RowT.lt (h : RowT t w g l) : g < w.heap.size := by
  rcases Nat.lt_or_ge g w.heap.size with hlt | hge
  · exact hlt
  · unfold RowT at h; rw [Array.getElem?_eq_none hge] at h; cases h
theorem RowT.cell (h : RowT t w g l) (i : Nat) (hi : i < l.length) : w.cell? ⟨g, i, none⟩ = some (.int .u8 (l[i].toNat : Nat)) := by
  rw [cell_of_row w g i (cells l) t (0, 0) h]
  unfold cells; rw [List.getElem?_toArray, vals_get l i hi]
theorem RowT.new (w : World) (l : List UInt8) (t : TypeId) : RowT t (w.alloc (.cells (cells l) t)) w.heap.size l := heap_alloc_new w _
theorem RowT.drewN (h : RowT t w g l) (n : Nat) : RowT t (w.drewN n) g l := h
theorem RowT.alloc (h : RowT t w g l) (o : Obj) : RowT t (w.alloc o) g l := (Below.heap_alloc w o g h.lt).trans h
theorem RowT.below {B : Nat} (h : RowT t w g l) (hb : Below B w w') (hg : g < B) : RowT t w' g l := (hb.block g hg).trans h
theorem RowT.bytes (h : RowT t w g l) : BytesAt w (some ⟨g, 0, none⟩) l := fun i hi => ⟨g, 0, rfl, by rw [Nat.zero_add]; exact h.cell i hi⟩
/-- the first of them -/
theorem BytesAt.firstN {w : World} {A : Option Addr} {l : List UInt8} (h : BytesAt w A l) (n : Nat) : BytesAt w A (l.take n) := fun i hi => by
  have hi' : i < l.length := by rw [List.length_take] at hi; omega
  obtain ⟨b, o, e, c⟩ := h i hi'
  exact ⟨b, o, e, by rw [List.getElem_take]; exact c⟩
end
theorem below_setRow (w : World) (g : Nat) (cs : Array Value) : Below g w (w.setRow g cs) :=
  ⟨rfl, rfl, rfl, by simp, fun k hk => setRow_other w g k cs (by omega)⟩
theorem cells_one (l : List UInt8) : (cells l).all (·.oneCell') = true := by
  rw [Array.all_eq_true_iff_forall_mem]
  intro v hv
  unfold cells vals at hv
  simp only [List.mem_toArray, List.mem_map] at hv
  obtain ⟨b, _, rfl⟩ := hv
  rfl
theorem cells_inj {l m : List UInt8} (h : cells l = cells m) : l = m := by
  unfold cells vals at h
  have h1 := congrArg Array.toList h
  simp only at h1
  exact List.map_inj_right (fun a b e => by
    injection e with _ e
    exact UInt8.toNat_inj.1 (by omega)) |>.1 h1
/-- two such arrays, compared -/
theorem run_part_u8 (l : List UInt8) (i : Nat) (h : i < l.length) (w : World) : (part 5 (cells l) (i * 1)).run Try.prog w = .ok (.int .u8 (l[i].toNat : Nat)) w := by
  have hg : (cells l)[i]? = some (.int .u8 (l[i].toNat : Nat)) := by
    unfold cells; rw [List.getElem?_toArray, vals_get l i h]
  simp [part, isAgg, run_underlying (P := Try.prog) Try.underlying5, hg]
theorem run_items (l m : List UInt8) : ∀ (is : List Nat) (_ : ∀ i ∈ is, i < l.length ∧ i < m.length) (w : World), (Op.eqItems 9999 5 1 (cells l) (cells m) is).run Try.prog w = .ok (is.all fun i => l[i]? == m[i]?) w
  | [], _, w => by simp [Op.eqItems]
  | i :: is, h, w => by
    have h1 := (h i List.mem_cons_self).1
    have h2 := (h i List.mem_cons_self).2
    have ih := run_items l m is (fun j hj => h j (List.mem_cons_of_mem _ hj)) w
    have hq := toNat_beq l[i] m[i]
    have e1 : l[i]? = some l[i] := List.getElem?_eq_getElem h1
    have e2 : m[i]? = some m[i] := List.getElem?_eq_getElem h2
    have hk := run_equalIn_int (P := Try.prog) w 9998 5 .u8 .u8 (l[i].toNat : Nat) (m[i].toNat : Nat) Try.underlying5
    rw [hq] at hk
    rw [List.all_cons, e1, e2]
    simp only [Op.eqItems, Sem.run_bind, run_part_u8 l i h1, run_part_u8 m i h2, Result.andThen_ok, hk]
    by_cases e : l[i] = m[i]
    · simp [e, ih]
    · have : (l[i] == m[i]) = false := by simpa using e
      simp [this]
theorem same_items (l m : List UInt8) (n : Nat) (hl : l.length = n) (hm : m.length = n) : ((List.range n).all fun i => l[i]? == m[i]?) = same l m := by
  unfold same
  rw [Bool.eq_iff_iff, List.all_eq_true, decide_eq_true_iff]
  constructor
  · intro h
    apply List.ext_getElem (by omega)
    intro i h1 h2
    have := h i (List.mem_range.2 (by omega))
    rw [List.getElem?_eq_getElem h1, List.getElem?_eq_getElem h2] at this
    simpa using this
  · rintro rfl i _
    simp
theorem u8_cells1 : Try.prog.cellsOf 5 = 1 := by kernel_rfl
theorem equal_T (ty : TypeId) (hu : Try.prog.underlying ty = some (.array 64 5)) (l m : List UInt8) (hl : l.length = 64) (hm : m.length = 64) (w : World) :
    (Op.equalIn 10000 ty (.agg (cells l)) (.agg (cells m))).run Try.prog w = .ok (same l m) w := by
  obtain ⟨i0, hi, _⟩ := u8_info'
  rw [show (10000 : Nat) = 9999 + 1 from rfl, run_equalIn_array w 9999 (cells l) (cells m) hu hi, u8_cells1, run_items l m _ (fun i h => by have := List.mem_range.1 h; omega), same_items l m 64 hl hm]
/-- a result that lies in such a block, and another one beside it -/
theorem results_T2 {fn : Func} {p u : Tmp} {ty : TypeId} (h : fn.results = #[.cell p ty, .tmp u]) (tmps : Array Value) (w : World) (g : Nat) (l : List UInt8) (t : TypeId) (hp : tmps.getD p undef = .pointer (some ⟨g, 0, none⟩)) (hg : RowT t w g l)
    (e : TypeId) (hu : Try.prog.underlying ty = some (.array 64 e)) (hi : (Try.prog.info? ty).map (·.size) = some 64) (hl : l.length = 64) (v : Value) (hv : tmps.getD u undef = v) :
    (results fn tmps).run Try.prog w = .ok (.tuple #[.agg (cells l), v]) w := by
  rw [results_cell_tmp h, hp, hv]
  simp only [asAddr, Sem.run_pure, Result.andThen_ok, run_loadVar_row w g t ty (cells l) (0, 0) _ hg hu rfl (by rw [hi, cells_size, hl])]
theorem results_T1 {fn : Func} {p : Tmp} {ty : TypeId} (h : fn.results = #[.cell p ty]) (tmps : Array Value) (w : World) (g : Nat) (l : List UInt8) (t : TypeId) (hp : tmps.getD p undef = .pointer (some ⟨g, 0, none⟩)) (hg : RowT t w g l)
    (e : TypeId) (hu : Try.prog.underlying ty = some (.array 64 e)) (hi : (Try.prog.info? ty).map (·.size) = some 64) (hl : l.length = 64) :
    (results fn tmps).run Try.prog w = .ok (.agg (cells l)) w :=
  results_cell_row h tmps w g t (cells l) (0, 0) _ hp hg hu rfl (by rw [hi, cells_size, hl])
/-- a load of the whole -/
theorem wpList_load_T {P : Program} {ops : Array Oper} {rest : List Oper} {o : Oper} {a : Act} {w : World} {Q : Exit → Act → World → Prop} (hgd : o.guard = none) (ty : TypeId) (x : Operand) (ho : o.op = .load ty x)
    (g : Nat) (hx : a.eval x = .pointer (some ⟨g, 0, none⟩)) (l : List UInt8) (t : TypeId) (hg : RowT t w g l) (e : TypeId) (hu : P.underlying ty = some (.array 64 e)) (hi : (P.info? ty).map (·.size) = some 64) (hl : l.length = 64)
    (h : wpList P ops Q rest (a.put o.dst (.agg (cells l))) w) : wpList P ops Q (o :: rest) a w :=
  wpList_load_row hgd ty x ho g hx t (cells l) (0, 0) _ hg hu rfl (by rw [hi, cells_size, hl]) h
theorem wpList_load_Tw {P : Program} {ops : Array Oper} {rest : List Oper} {o : Oper} {a : Act} {w : World} {Q : Exit → Act → World → Prop} (hw : Region.wanted o (yielded ops a.tmps) = true) (ty : TypeId) (x : Operand) (ho : o.op = .load ty x)
    (g : Nat) (hx : a.eval x = .pointer (some ⟨g, 0, none⟩)) (l : List UInt8) (t : TypeId) (hg : RowT t w g l) (e : TypeId) (hu : P.underlying ty = some (.array 64 e)) (hi : (P.info? ty).map (·.size) = some 64) (hl : l.length = 64)
    (h : wpList P ops Q rest (a.put o.dst (.agg (cells l))) w) : wpList P ops Q (o :: rest) a w :=
  BigFrame.wpList_want hw fun _ hK => wp_load_row ty x ho g hx t (cells l) (0, 0) _ hg hu rfl (by rw [hi, cells_size, hl]) (hK _ _ h)
/-- a store of the whole -/
theorem wpList_store_T {P : Program} {ops : Array Oper} {rest : List Oper} {o : Oper} {a : Act} {w : World} {Q : Exit → Act → World → Prop} (hgd : o.guard = none) (ty : TypeId) (x y : Operand) (ho : o.op = .store ty x y)
    (g : Nat) (l : List UInt8) (hx : a.eval x = .pointer (some ⟨g, 0, none⟩)) (hy : a.eval y = .agg (cells l)) (l0 : List UInt8) (t : TypeId) (hg : RowT t w g l0) (hi : (P.info? ty).map (·.size) = some 64) (h0 : l0.length = 64) (hl : l.length = 64)
    (h : ∀ w', RowT t w' g l → Below g w w' → wpList P ops Q rest (a.put o.dst undef) w') : wpList P ops Q (o :: rest) a w :=
  wpList_store_row hgd ty x y ho g (cells l) hx hy t (cells l0) hg (by rw [hi, cells_size, hl]) (by rw [cells_size, cells_size, h0, hl]) (cells_one l)
    (h _ (setRow_heap w g _ _ t (0, 0) hg) (below_setRow w g _))
/-- 'copy' into such a block -/
theorem wpList_copy_T {ops : Array Oper} {rest : List Oper} {o : Oper} {a : Act} {w : World} {Q : Exit → Act → World → Prop} (hgd : o.guard = none) (d s : Operand)
    (ho : o.op = .call { callee := .builtin .copy, args := #[d, s], argTypes := #[40, 40] })
    (g dn dc : Nat) (A : Option Addr) (l : List UInt8) (c : Nat) (hd : a.eval d = .slice (some ⟨g, 0, none⟩) dn dc) (hs : a.eval s = .slice A l.length c)
    (t : TypeId) (l0 : List UInt8) (hg : RowT t w g l0) (hA : BytesAt w A l) (hfit : min l.length dn ≤ l0.length)
    (h : ∀ w', RowT t w' g (splice l0 0 (l.take dn)) → Below g w w' → wpList Try.prog ops Q rest (a.put o.dst (goInt (min l.length dn : Nat))) w') : wpList Try.prog ops Q (o :: rest) a w := by
  have hlen : (vals (l.take dn)).length = Nat.min l.length dn := by rw [vals_len, List.length_take]; exact Nat.min_comm _ _
  have hlen' : (vals (l.take dn)).length = min l.length dn := hlen
  refine wpList_copy_splice hgd d s 40 40 ho 5 Try.underlying40 u8_size (some ⟨g, 0, none⟩) A dn dc l.length c hd hs g 0 (vals l0) t hg (vals (l.take dn)) hlen ?_ ?_ ?_ g w (Below.refl _ _) (Nat.le_refl _) ?_
  · intro hp
    refine ⟨rfl, ?_⟩
    obtain ⟨b, o', hA', _⟩ := hA 0 (by omega)
    refine ⟨_, hA', fun j v hv => ?_⟩
    have hj : j < (vals (l.take dn)).length := by
      rcases Nat.lt_or_ge j (vals (l.take dn)).length with hlt | hge
      · exact hlt
      · rw [List.getElem?_eq_none hge] at hv; cases hv
    obtain ⟨b2, o2, hA2, hc⟩ := hA j (by omega)
    rw [hA'] at hA2
    obtain ⟨rfl, rfl⟩ : b = b2 ∧ o' = o2 := by injection hA2 with hA2; injection hA2 with h1 h2; exact ⟨h1, h2⟩
    have hv' : (vals (l.take dn))[j]? = some (.int .u8 (l[j].toNat : Nat)) := by
      rw [vals_get _ j (by rw [vals_len] at hj; exact hj)]
      simp
    rw [hv'] at hv
    injection hv with hv
    subst hv
    have hadd : (⟨b, o', none⟩ : Addr).add j = ⟨b, o' + j, none⟩ := by unfold Addr.add; split <;> simp_all
    rw [hadd]; exact hc
  · rw [hlen', vals_len]; omega
  · intro u hu
    simp only [vals, List.mem_map] at hu
    obtain ⟨b, _, rfl⟩ := hu
    rfl
  · intro w' h1 h2
    rw [hlen']
    refine h w' ?_ h2
    have e : splice (vals l0) 0 (vals (l.take dn)) = vals (splice l0 0 (l.take dn)) := by
      simp [splice, vals, List.map_take, List.map_drop]
    unfold RowT cells
    rw [← e]; exact h1
end Go.Proofs.Ytpljdjkmemojmaa
