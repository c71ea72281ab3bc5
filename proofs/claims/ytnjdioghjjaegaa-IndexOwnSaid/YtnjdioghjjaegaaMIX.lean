/- merged: IdxA, IdxB, IdxC, IdxD -/
import Derived.Test.YtnjdioghjjaegaaEnts
import Derived.Test.YtnjdioghjjaegaaKnown
import Derived.Test.YtnjdioghjjaegaaLabelE
import Derived.Test.YtnjdioghjjaegaaStore
import Derived.Lib.MinMax
import Derived.Lib.SliceRun
import Derived.IntWalk
import Derived.Deep.QuietTactic
import Derived.BigQuiet
import Derived.Test.YtnjdioghjjaegaaSkip

/- package index: entries and keys by value: compared, loaded, stored, told; Key.ahead -/
set_option maxRecDepth 100000
namespace Go.Proofs.Ytnjdioghjjaegaa.Index
open Go.RowKit IdxM Ents

theorem str_eq (a c : ByteArray) : (a.toList == c.toList) = decide (a = c) := by
  by_cases h : a = c
  · subst h; simp
  · rw [decide_eq_false h]; exact R07.str_ne h
theorem part_key (a : ByteArray) (i p q : Int) (W : World) : (part 33 #[.string a, .int .i64 i, .int .i64 p, .int .i64 q] 0).run Try.prog W = .ok (.agg #[.string a, .int .i64 i]) W := by
  have hu : Try.prog.underlying 33 = some (.struct (Try.prog.fieldsOf 33)) := by kernel_rfl
  have hsz : (sizeOf 33).run Try.prog W = .ok 2 W := by kernel_rfl
  simp [part, isAgg, run_underlying hu]
theorem eql_key (n : Nat) (a c : ByteArray) (i j : Int) (w : World) : (Op.equalIn (n + 2) 33 (.agg #[.string a, .int .i64 i]) (.agg #[.string c, .int .i64 j])).run Try.prog w = .ok (decide ((a, i) = (c, j))) w := by
  have hu : Try.prog.underlying 33 = some (.struct (Try.prog.fieldsOf 33)) := by kernel_rfl
  have hg : Try.prog.stoodInHeld 33 = false := by kernel_rfl
  have hi : ∀ x y : Int, ∀ W : World, (Op.equalIn (n + 1) 3 (.int .i64 x) (.int .i64 y)).run Try.prog W = .ok (x == y) W := fun x y W => run_equalIn_int W n _ _ _ x y Try.underlying3
  have hs : ∀ x y : ByteArray, ∀ W : World, (Op.equalIn (n + 1) 9 (.string x) (.string y)).run Try.prog W = .ok (decide (x = y)) W := fun x y W => (run_equalIn_string W n _ x y Try.underlying9).trans (by rw [str_eq])
  have hd : decide ((a, i) = (c, j)) = (decide (a = c) && (i == j)) := by
    rw [Bool.eq_iff_iff]; simp
  rw [hd, show n + 2 = (n + 1) + 1 from rfl, run_equalIn_struct w (n + 1) _ _ _ hu hg]
  obtain ⟨f0, f1, hf, n0, n1, t0, t1, o0, o1⟩ : ∃ f0 f1, (Try.prog.fieldsOf 33).toList = [f0, f1] ∧ f0.name ≠ "_" ∧ f1.name ≠ "_" ∧ f0.type = 9 ∧ f1.type = 3 ∧ f0.offset = 0 ∧ f1.offset = 1 :=
    ⟨⟨"Name", 9, 0, false, "", "", 0⟩, ⟨"Role", 3, 1, false, "", "", 16⟩, by kernel_rfl, by decide, by decide, rfl, rfl, rfl, rfl⟩
  rw [hf]
  have p : ∀ (xs : Array Value) (k : Nat) (z : Int) (W : World), xs[k]? = some (.int .i64 z) → (part 3 xs k).run Try.prog W = .ok (.int .i64 z) W := fun xs k z W h => by
    exact run_part_plain (P := Try.prog) W (by kernel_rfl) h
  have ps : ∀ (xs : Array Value) (k : Nat) (z : ByteArray) (W : World), xs[k]? = some (.string z) → (part 9 xs k).run Try.prog W = .ok (.string z) W := fun xs k z W h => by
    exact run_part_plain (P := Try.prog) W (by kernel_rfl) h
  simp only [Op.eqFields, n0, n1, t0, t1, o0, o1, ne_eq, not_false_eq_true, if_true, Sem.run_bind, Sem.run_ite, Sem.run_pure]
  rw [ps _ 0 a w rfl]
  simp only [Result.andThen_ok]
  rw [ps _ 0 c w rfl]
  simp only [Result.andThen_ok]
  rw [hs a c w]
  simp only [Result.andThen_ok]
  cases h1 : decide (a = c)
  · rfl
  simp only [Bool.not_true, Bool.false_eq_true, if_false]
  rw [p _ 1 i w rfl]
  simp only [Result.andThen_ok]
  rw [p _ 1 j w rfl]
  simp only [Result.andThen_ok]
  rw [hi i j w]
  simp only [Result.andThen_ok]
  cases h2 : (i == j) <;> rfl
theorem eql_en (a c : ByteArray) (i j p q r s : Int) (w : World) : (Op.equalIn 10000 35 (.agg #[.string a, .int .i64 i, .int .i64 p, .int .i64 q]) (.agg #[.string c, .int .i64 j, .int .i64 r, .int .i64 s])).run Try.prog w = .ok (decide ((⟨a, i, p, q⟩ : En) = ⟨c, j, r, s⟩)) w := by
  have hu : Try.prog.underlying 35 = some (.struct (Try.prog.fieldsOf 35)) := by kernel_rfl
  have hg : Try.prog.stoodInHeld 35 = false := by kernel_rfl
  have hi : ∀ x y : Int, ∀ W : World, (Op.equalIn 9999 3 (.int .i64 x) (.int .i64 y)).run Try.prog W = .ok (x == y) W := fun x y W => run_equalIn_int W 9998 _ _ _ x y Try.underlying3
  have hd : decide ((⟨a, i, p, q⟩ : En) = ⟨c, j, r, s⟩) = (decide ((a, i) = (c, j)) && ((p == r) && (q == s))) := by
    rw [Bool.eq_iff_iff]; simp [and_assoc]
  rw [hd, show (10000 : Nat) = 9999 + 1 from rfl, run_equalIn_struct w 9999 _ _ _ hu hg]
  obtain ⟨f0, f1, f2, hf, n0, n1, n2, t0, t1, t2, o0, o1, o2⟩ : ∃ f0 f1 f2, (Try.prog.fieldsOf 35).toList = [f0, f1, f2] ∧ f0.name ≠ "_" ∧ f1.name ≠ "_" ∧ f2.name ≠ "_" ∧ f0.type = 33 ∧ f1.type = 3 ∧ f2.type = 3 ∧ f0.offset = 0 ∧ f1.offset = 2 ∧ f2.offset = 3 :=
    ⟨⟨"Key", 33, 0, true, "", "", 0⟩, ⟨"At", 3, 2, false, "", "", 24⟩, ⟨"N", 3, 3, false, "", "", 32⟩, by kernel_rfl, by decide, by decide, by decide, rfl, rfl, rfl, rfl, rfl, rfl⟩
  rw [hf]
  have hp : ∀ (xs : Array Value) (k : Nat) (z : Int) (W : World), xs[k]? = some (.int .i64 z) → (part 3 xs k).run Try.prog W = .ok (.int .i64 z) W := fun xs k z W h => by
    exact run_part_plain (P := Try.prog) W (by kernel_rfl) h
  simp only [Op.eqFields, n0, n1, n2, t0, t1, t2, o0, o1, o2, ne_eq, not_false_eq_true, if_true, Sem.run_bind, Sem.run_ite, Sem.run_pure]
  rw [part_key]
  simp only [Result.andThen_ok]
  rw [part_key]
  simp only [Result.andThen_ok]
  rw [show (9999 : Nat) = 9997 + 2 from rfl, eql_key 9997 a c i j w]
  simp only [Result.andThen_ok]
  cases h1 : decide ((a, i) = (c, j))
  · rfl
  simp only [Bool.not_true, Bool.false_eq_true, if_false]
  rw [hp _ 2 p w rfl]
  simp only [Result.andThen_ok]
  rw [hp _ 2 r w rfl]
  simp only [Result.andThen_ok]
  rw [show (9997 : Nat) + 2 = 9999 from rfl, hi p r w]
  simp only [Result.andThen_ok]
  cases h2 : (p == r)
  · rfl
  simp only [Bool.not_true, Bool.false_eq_true, if_false]
  rw [hp _ 3 q w rfl]
  simp only [Result.andThen_ok]
  rw [hp _ 3 s w rfl]
  simp only [Result.andThen_ok]
  rw [hi q s w]
  simp only [Result.andThen_ok]
  cases h3 : (q == s) <;> rfl
theorem key_guard : Try.prog.eqGuardType Try.prog.depth 33 = false := by kernel_rfl
theorem en_guard : Try.prog.eqGuardType Try.prog.depth 35 = false := by kernel_rfl
theorem key_neq (a c : ByteArray) (i j : Int) (w : World) : (binOp .neq 33 (.agg #[.string a, .int .i64 i]) (.agg #[.string c, .int .i64 j])).run Try.prog w = .ok (.bool (!(decide ((a, i) = (c, j))))) w := by
  rw [run_neq_struct, eql_key 9998 a c i j w]; rfl
theorem en_neq (a c : ByteArray) (i j p q r s : Int) (w : World) : (binOp .neq 35 (.agg #[.string a, .int .i64 i, .int .i64 p, .int .i64 q]) (.agg #[.string c, .int .i64 j, .int .i64 r, .int .i64 s])).run Try.prog w = .ok (.bool (!(decide ((⟨a, i, p, q⟩ : En) = ⟨c, j, r, s⟩)))) w := by
  rw [run_neq_struct, eql_en]; rfl

/-- an entry in block g, the whole of it -/
def EnB (w : World) (g : Nat) (a : ByteArray) (i p q : Int) : Prop := w.heap[g]? = some (.cells #[.string a, .int .i64 i, .int .i64 p, .int .i64 q] 35 (0, 0))
section
variable {w w' : World} {g : Nat} {a : ByteArray} {i p q : Int}
theorem EnB.lt (k : EnB w g a i p q) : g < w.heap.size := (Array.getElem?_eq_some_iff.1 k).1
theorem EnB.lies (k : EnB w g a i p q) : EnLies w g 0 ⟨a, i, p, q⟩ :=
  ⟨by rw [cell_of_row w g 0 _ 35 (0, 0) k]; rfl, by rw [cell_of_row w g 1 _ 35 (0, 0) k]; rfl, by rw [cell_of_row w g 2 _ 35 (0, 0) k]; rfl, by rw [cell_of_row w g 3 _ 35 (0, 0) k]; rfl⟩
theorem EnB.new (w : World) (a : ByteArray) (i p q : Int) : EnB (w.alloc (.cells #[.string a, .int .i64 i, .int .i64 p, .int .i64 q] 35)) w.heap.size a i p q := heap_alloc_new w _
theorem EnB.below (k : EnB w g a i p q) (hb : Below w.heap.size w w') : EnB w' g a i p q := (hb.block g k.lt).trans k
theorem EnB.belowK {D : Nat} (k : EnB w g a i p q) (hb : Below D w w') (hg : g < D) : EnB w' g a i p q := (hb.block g hg).trans k
theorem EnB.keep {F : Nat → Prop} (k : EnB w g a i p q) (h : Keeps F w w') (hg : ¬ F g) : EnB w' g a i p q := (h.block g k.lt hg).trans k
end
theorem en_under : Try.prog.underlying 35 = some (.struct (Try.prog.fieldsOf 35)) := by kernel_rfl
theorem en_size : (Try.prog.info? 35).map (fun i => i.size) = some 4 := by kernel_rfl
theorem load_en (w : World) (g : Nat) (a : ByteArray) (i p q : Int) (k : EnB w g a i p q) : (loadVar 35 ⟨g, 0, none⟩).run Try.prog w = .ok (.agg #[.string a, .int .i64 i, .int .i64 p, .int .i64 q]) w := by
  obtain ⟨c0, c1, c2, c3⟩ := k.lies
  simp only [Nat.zero_add] at c1 c2 c3
  clear k
  go_simp
/-- a result that lies in such a block -/
theorem results_en1 {fn : Func} {t : Tmp} (h : fn.results = #[.cell t 35]) (tmps : Array Value) (w : World) (g : Nat) (a : ByteArray) (i p q : Int) (hp : tmps.getD t undef = .pointer (some ⟨g, 0, none⟩)) (hs : EnB w g a i p q) :
    (results fn tmps).run Try.prog w = .ok (.agg #[.string a, .int .i64 i, .int .i64 p, .int .i64 q]) w := by
  have hp' : tmps[t]?.getD undef = .pointer (some ⟨g, 0, none⟩) := by simpa using hp
  simp [results, h, hp', asAddr, load_en w g a i p q hs]
/-- and another one beside it -/
theorem results_en2 {fn : Func} {t u : Tmp} (h : fn.results = #[.cell t 35, .tmp u]) (tmps : Array Value) (w : World) (g : Nat) (a : ByteArray) (i p q : Int) (hp : tmps.getD t undef = .pointer (some ⟨g, 0, none⟩)) (hs : EnB w g a i p q) (v : Value) (hv : tmps.getD u undef = v) :
    (results fn tmps).run Try.prog w = .ok (.tuple #[.agg #[.string a, .int .i64 i, .int .i64 p, .int .i64 q], v]) w := by
  rw [results_cell_tmp h, hp, hv]
  simp only [asAddr, Sem.run_pure, Result.andThen_ok, load_en w g a i p q hs]
theorem en_one (a : ByteArray) (i p q : Int) : (#[.string a, .int .i64 i, .int .i64 p, .int .i64 q] : Array Value).all (·.oneCell') = true := by simp [Value.oneCell']
theorem wpList_load_en {ops : Array Oper} {rest : List Oper} {o : Oper} {act : Act} {w : World} {Q : Exit → Act → World → Prop} (hgd : o.guard = none) (x : Operand) (ho : o.op = .load 35 x)
    (g : Nat) (hx : act.eval x = .pointer (some ⟨g, 0, none⟩)) (a : ByteArray) (i p q : Int) (hg : EnB w g a i p q)
    (k : wpList Try.prog ops Q rest (act.put o.dst (.agg #[.string a, .int .i64 i, .int .i64 p, .int .i64 q])) w) : wpList Try.prog ops Q (o :: rest) act w :=
  wpList_load_row hgd 35 x ho g hx 35 _ (0, 0) _ hg en_under rfl en_size k
theorem wpList_store_en {ops : Array Oper} {rest : List Oper} {o : Oper} {act : Act} {w : World} {Q : Exit → Act → World → Prop} (hgd : o.guard = none) (x y : Operand) (ho : o.op = .store 35 x y)
    (g : Nat) (a : ByteArray) (i p q : Int) (hx : act.eval x = .pointer (some ⟨g, 0, none⟩)) (hy : act.eval y = .agg #[.string a, .int .i64 i, .int .i64 p, .int .i64 q]) (a0 : ByteArray) (i0 p0 q0 : Int) (hg : EnB w g a0 i0 p0 q0)
    (k : ∀ w', EnB w' g a i p q → Keeps (fun k => k = g) w w' → wpList Try.prog ops Q rest (act.put o.dst undef) w') : wpList Try.prog ops Q (o :: rest) act w :=
  wpList_store_row hgd 35 x y ho g _ hx hy 35 _ hg en_size rfl (en_one a i p q) (k _ (setRow_heap w g _ _ _ (0, 0) hg) (keeps_setRow w g _))

/-- is a key less -/
theorem ahead_any (a c : ByteArray) (i j : Int) (w : World) :
    Calls Try.prog 31 #[.agg #[.string a, .int .i64 i], .agg #[.string c, .int .i64 j]] w fun e w' => e = .returned (.bool (kless (a, i) (c, j))) ∧ Below w.heap.size w w' := by
  have HB := Lib.hid ((balloc w (.cells #[.string a, .int .i64 i] 33)).alloc (by simp) (.cells #[.string c, .int .i64 j] 33))
  by_cases h : a = c
  · subst h
    have q : (a.toList == a.toList) = true := by simp
    rw [kless_pair]
    go_enter Try.func31, Try.ntmps31
    go_wp2
    go_ret
    exact ⟨rfl, HB.out⟩
  · have q : (a.toList == c.toList) = false := R07.str_ne h
    rw [kless_not (by exact h)]
    have C := fun V => Label.less_same a c V
    simp only at C ⊢
    generalize LabM.lessS a c = r at *
    have HC := Lib.hid C
    clear C h
    go_enter Try.func31, Try.ntmps31
    go_wp2_with fail
    refine (HC.out _).mono ?_
    rintro e w1 ⟨rfl, rfl⟩
    go_wp2
    go_ret
    exact ⟨rfl, HB.out⟩
end Go.Proofs.Ytnjdioghjjaegaa.Index

/- package index: an index in memory; where a key's place is (place$1, sort.Search, place) -/
set_option maxRecDepth 100000
namespace Go.Proofs.Ytnjdioghjjaegaa.Index
open Go.RowKit IdxM Ents

/-- an index in block x: its entries, of the index's own, in a list that the cell holds -/
structure IxAt (w : World) (B x : Nat) (v : Value) (l : List En) : Prop where
  row : w.heap[x]? = some (.cells #[v] 52 (0, 0))
  own : OwnEn w B 35 v l
  rise : Rise l
  few : l.length ≤ 1048576
  apart : v.ownBlock ≠ some x
  base : B ≤ x
/-- what its calls may write -/
def Its (x : Nat) (v : Value) (k : Nat) : Prop := k = x ∨ v.ownBlock = some k
section
variable {w w' : World} {B x : Nat} {v : Value} {l : List En}
theorem IxAt.lt (h : IxAt w B x v l) : x < w.heap.size := (Array.getElem?_eq_some_iff.1 h.row).1
theorem IxAt.cell (h : IxAt w B x v l) : w.cell? ⟨x, 0, none⟩ = some v := by rw [cell_of_row w x 0 _ _ (0, 0) h.row]; rfl
theorem IxAt.fro (h : IxAt w B x v l) : w.frozen? ⟨x, 0, none⟩ = false := by simp [World.frozen?, h.row]
theorem IxAt.keep {F : Nat → Prop} (h : IxAt w B x v l) (q : Keeps F w w') (hF : ∀ k, Its x v k → ¬ F k) : IxAt w' B x v l :=
  ⟨(q.block x h.lt (hF x (.inl rfl))).trans h.row, h.own.keep q fun k hk => hF k (.inr hk), h.rise, h.few, h.apart, h.base⟩
theorem IxAt.below (h : IxAt w B x v l) (hb : Below w.heap.size w w') : IxAt w' B x v l := h.keep (F := fun _ => False) (.of_below _ hb) fun _ _ => id
theorem IxAt.belowK {D : Nat} (h : IxAt w B x v l) (hb : Below D w w') (hD : ∀ k, Its x v k → k < D) (_hs : D ≤ w.heap.size) : IxAt w' B x v l :=
  h.keep (F := fun k => D ≤ k) ⟨hb.os, hb.tape, hb.output, hb.size, fun k _ hn => hb.block k (by omega)⟩ fun k hk => by have := hD k hk; omega
theorem IxAt.its (h : IxAt w B x v l) : ∀ k, Its x v k → k < w.heap.size := fun k hk => by
  rcases hk with rfl | hk
  · exact h.lt
  · exact (h.own.lt k hk).2
end
theorem keys_less {l : List En} {k : Ky} (hr : Rise l) {i : Nat} (hi : i < l.length) : kless l[i].key k = decide (i < plc l k) := by
  by_cases h : i < plc l k
  · rw [decide_eq_true h]; exact place_less hi h
  · rw [decide_eq_false h]; exact place_not kord hr hi (by unfold plc at h; omega)

theorem closure_any (x bx bk i : Nat) (v : Value) (l : List En) (kn : ByteArray) (kr : Int) (B : Nat) (w : World) (h : IxAt w B x v l) (hi : i < l.length)
    (hx : w.cell? ⟨bx, 0, none⟩ = some (.pointer (some ⟨x, 0, none⟩))) (k0 : w.cell? ⟨bk, 0, none⟩ = some (.string kn)) (k1 : w.cell? ⟨bk, 1, none⟩ = some (.int .i64 kr)) :
    Calls Try.prog 30 #[.int .i64 (i : Nat), .pointer (some ⟨bx, 0, none⟩), .pointer (some ⟨bk, 0, none⟩)] w fun e w' => e = .returned (.bool (!(decide (i < plc l (kn, kr))))) ∧ Below w.heap.size w w' := by
  rw [← keys_less h.rise hi]
  obtain ⟨A, c, rfl, hc1, hc2, hA, _⟩ := h.own.ents
  obtain ⟨b, o, rfl, e⟩ := hA i hi
  have HX := Lib.hid h.cell; have HB := Lib.hid hx; have HK0 := Lib.hid k0; have HK1 := Lib.hid k1
  obtain ⟨en, hen⟩ : ∃ en, en = l[i] := ⟨_, rfl⟩
  rw [← hen] at e ⊢
  obtain ⟨en, er, ep, eq⟩ := en
  obtain ⟨e0, e1, e2, e3⟩ := e
  simp only at e0 e1 e2 e3
  have E0 := Lib.hid e0; have E1 := Lib.hid e1
  show Calls _ _ _ _ fun e w' => e = .returned (.bool (!(kless (en, er) (kn, kr)))) ∧ _
  have C := fun V => ahead_any en kn er kr V
  generalize kless (en, er) (kn, kr) = r at *
  have HC := Lib.hid C
  clear C e0 e1 e2 e3 hx k0 k1 h hc1 hA hen
  generalize l.length = n at *
  go_enter Try.func30, Try.ntmps30
  go_wp2_with fail
  refine Drawn.wp_region_flowL 12 [Drawn.SP.is (.pointer (some ⟨x, 0, none⟩)), Drawn.SP.is (.pointer (some ⟨x, 0, none⟩)), Drawn.SP.is (.pointer (some ⟨x, 0, none⟩)), Drawn.SP.is (.slice (some ⟨b, o, none⟩) n c), Drawn.SP.is (.int .i64 (i : Nat)), Drawn.SP.is (.pointer (some ⟨b, o + i * 4, none⟩)), Drawn.SP.is (.pointer (some ⟨b, o + i * 4, none⟩)), Drawn.SP.is (.agg #[.string en, .int .i64 er]), Drawn.SP.is (.agg #[.string kn, .int .i64 kr]), Drawn.SP.is (.bool r), Drawn.SP.is (.bool (!r)), Drawn.SP.is (.bool (!r))] (by kernel_rfl) (by kernel_rfl) ?_ ?_
  · intro i hi a w1 hb hev hdep
    rcases (show i = 0 ∨ i = 1 ∨ i = 2 ∨ i = 3 ∨ i = 4 ∨ i = 5 ∨ i = 6 ∨ i = 7 ∨ i = 8 ∨ i = 9 ∨ i = 10 ∨ i = 11 by omega) with rfl | rfl | rfl | rfl | rfl | rfl | rfl | rfl | rfl | rfl | rfl | rfl
    · have e1 : a.tmps[1]?.getD undef = .pointer (some ⟨bx, 0, none⟩) := hev 1 rfl
      refine Drawn.wpOp_flow 5 rfl rfl rfl ?_
      have c1 := (hb.cell (p := ⟨x, 0, none⟩) (cell_lt HX.out)).trans HX.out
      have c2 := (hb.cell (p := ⟨bx, 0, none⟩) (cell_lt HB.out)).trans HB.out
      have c3 := (hb.cell (p := ⟨bk, 0, none⟩) (cell_lt HK0.out)).trans HK0.out
      have c4 := (hb.cell (p := ⟨bk, 1, none⟩) (cell_lt HK1.out)).trans HK1.out
      have c5 := (hb.cell (p := ⟨b, o + i * 4, none⟩) (cell_lt E0.out)).trans E0.out
      have c6 := (hb.cell (p := ⟨b, o + i * 4 + 1, none⟩) (cell_lt E1.out)).trans E1.out
      clear hev hdep hb
      go_simp
      exact ⟨_, rfl, rfl, Below.refl _ _⟩
    · have d0 : a.tmps[5]?.getD undef = .pointer (some ⟨x, 0, none⟩) := hdep 0 rfl
      refine Drawn.wpOp_flow 6 rfl rfl rfl ?_
      clear hev hdep hb
      go_simp
      exact ⟨_, rfl, rfl, Below.refl _ _⟩
    · have d1 : a.tmps[6]?.getD undef = .pointer (some ⟨x, 0, none⟩) := hdep 1 rfl
      refine Drawn.wpOp_flow 7 rfl rfl rfl ?_
      clear hev hdep hb
      go_simp
      exact ⟨_, rfl, rfl, Below.refl _ _⟩
    · have d2 : a.tmps[7]?.getD undef = .pointer (some ⟨x, 0, none⟩) := hdep 2 rfl
      refine Drawn.wpOp_flow 8 rfl rfl rfl ?_
      have c1 := (hb.cell (p := ⟨x, 0, none⟩) (cell_lt HX.out)).trans HX.out
      have c2 := (hb.cell (p := ⟨bx, 0, none⟩) (cell_lt HB.out)).trans HB.out
      have c3 := (hb.cell (p := ⟨bk, 0, none⟩) (cell_lt HK0.out)).trans HK0.out
      have c4 := (hb.cell (p := ⟨bk, 1, none⟩) (cell_lt HK1.out)).trans HK1.out
      have c5 := (hb.cell (p := ⟨b, o + i * 4, none⟩) (cell_lt E0.out)).trans E0.out
      have c6 := (hb.cell (p := ⟨b, o + i * 4 + 1, none⟩) (cell_lt E1.out)).trans E1.out
      clear hev hdep hb
      go_simp
      exact ⟨_, rfl, rfl, Below.refl _ _⟩
    · have e0 : a.tmps[0]?.getD undef = .int .i64 (i : Nat) := hev 0 rfl
      refine Drawn.wpOp_flow 9 rfl rfl rfl ?_
      clear hev hdep hb
      go_simp
      exact ⟨_, rfl, rfl, Below.refl _ _⟩
    · have d3 : a.tmps[8]?.getD undef = .slice (some ⟨b, o, none⟩) n c := hdep 3 rfl
      have d4 : a.tmps[9]?.getD undef = .int .i64 (i : Nat) := hdep 4 rfl
      refine Drawn.wpOp_flow 10 rfl rfl rfl ?_
      clear hev hdep hb
      go_simp
      exact ⟨_, rfl, rfl, Below.refl _ _⟩
    · have d5 : a.tmps[10]?.getD undef = .pointer (some ⟨b, o + i * 4, none⟩) := hdep 5 rfl
      refine Drawn.wpOp_flow 11 rfl rfl rfl ?_
      clear hev hdep hb
      go_simp
      exact ⟨_, rfl, rfl, Below.refl _ _⟩
    · have d6 : a.tmps[11]?.getD undef = .pointer (some ⟨b, o + i * 4, none⟩) := hdep 6 rfl
      refine Drawn.wpOp_flow 12 rfl rfl rfl ?_
      have c1 := (hb.cell (p := ⟨x, 0, none⟩) (cell_lt HX.out)).trans HX.out
      have c2 := (hb.cell (p := ⟨bx, 0, none⟩) (cell_lt HB.out)).trans HB.out
      have c3 := (hb.cell (p := ⟨bk, 0, none⟩) (cell_lt HK0.out)).trans HK0.out
      have c4 := (hb.cell (p := ⟨bk, 1, none⟩) (cell_lt HK1.out)).trans HK1.out
      have c5 := (hb.cell (p := ⟨b, o + i * 4, none⟩) (cell_lt E0.out)).trans E0.out
      have c6 := (hb.cell (p := ⟨b, o + i * 4 + 1, none⟩) (cell_lt E1.out)).trans E1.out
      clear hev hdep hb
      go_simp
      exact ⟨_, rfl, rfl, Below.refl _ _⟩
    · have e2 : a.tmps[2]?.getD undef = .pointer (some ⟨bk, 0, none⟩) := hev 2 rfl
      refine Drawn.wpOp_flow 13 rfl rfl rfl ?_
      have c1 := (hb.cell (p := ⟨x, 0, none⟩) (cell_lt HX.out)).trans HX.out
      have c2 := (hb.cell (p := ⟨bx, 0, none⟩) (cell_lt HB.out)).trans HB.out
      have c3 := (hb.cell (p := ⟨bk, 0, none⟩) (cell_lt HK0.out)).trans HK0.out
      have c4 := (hb.cell (p := ⟨bk, 1, none⟩) (cell_lt HK1.out)).trans HK1.out
      have c5 := (hb.cell (p := ⟨b, o + i * 4, none⟩) (cell_lt E0.out)).trans E0.out
      have c6 := (hb.cell (p := ⟨b, o + i * 4 + 1, none⟩) (cell_lt E1.out)).trans E1.out
      clear hev hdep hb
      go_simp
      exact ⟨_, rfl, rfl, Below.refl _ _⟩
    · have d7 : a.tmps[12]?.getD undef = .agg #[.string en, .int .i64 er] := hdep 7 rfl
      have d8 : a.tmps[13]?.getD undef = .agg #[.string kn, .int .i64 kr] := hdep 8 rfl
      refine Drawn.wpOp_flow 14 rfl rfl rfl ?_
      clear hev hdep
      go_simp
      refine (HC.out w1).mono ?_
      rintro e w2 ⟨rfl, hb2⟩
      exact ⟨_, rfl, rfl, hb2⟩
    · have d9 : a.tmps[14]?.getD undef = .bool r := hdep 9 rfl
      refine Drawn.wpOp_flow 15 rfl rfl rfl ?_
      clear hev hdep hb
      go_simp
      exact ⟨_, rfl, rfl, Below.refl _ _⟩
    · have d10 : a.tmps[15]?.getD undef = .bool (!r) := hdep 10 rfl
      refine Drawn.wpOp_flow 4 rfl rfl rfl ?_
      clear hev hdep hb
      go_simp
      exact ⟨_, rfl, rfl, Below.refl _ _⟩
  · intro xq w1 hb hxq
    have vq0 : xq 0 = .pointer (some ⟨x, 0, none⟩) := hxq 0 (by omega)
    have vq1 : xq 1 = .pointer (some ⟨x, 0, none⟩) := hxq 1 (by omega)
    have vq2 : xq 2 = .pointer (some ⟨x, 0, none⟩) := hxq 2 (by omega)
    have vq3 : xq 3 = .slice (some ⟨b, o, none⟩) n c := hxq 3 (by omega)
    have vq4 : xq 4 = .int .i64 (i : Nat) := hxq 4 (by omega)
    have vq5 : xq 5 = .pointer (some ⟨b, o + i * 4, none⟩) := hxq 5 (by omega)
    have vq6 : xq 6 = .pointer (some ⟨b, o + i * 4, none⟩) := hxq 6 (by omega)
    have vq7 : xq 7 = .agg #[.string en, .int .i64 er] := hxq 7 (by omega)
    have vq8 : xq 8 = .agg #[.string kn, .int .i64 kr] := hxq 8 (by omega)
    have vq9 : xq 9 = .bool r := hxq 9 (by omega)
    have vq10 : xq 10 = .bool (!r) := hxq 10 (by omega)
    have vq11 : xq 11 = .bool (!r) := hxq 11 (by omega)
    show Exit.then _ _ Exit.normal (Drawn.acts _ [(4, some (xq 11)), (15, some (xq 10)), (14, some (xq 9)), (13, some (xq 8)), (12, some (xq 7)), (11, some (xq 6)), (10, some (xq 5)), (9, some (xq 4)), (8, some (xq 3)), (7, some (xq 2)), (6, some (xq 1)), (5, some (xq 0))]) _
    rw [vq0, vq1, vq2, vq3, vq4, vq5, vq6, vq7, vq8, vq9, vq10, vq11]
    clear hxq vq0 vq1 vq2 vq3 vq4 vq5 vq6 vq7 vq8 vq9 vq10 vq11
    clear xq
    simp only [Drawn.acts]
    go_simp
    have HW := Lib.hid hb
    clear hb
    go_at_K
    go_wp2
    go_ret
    exact ⟨rfl, HW.out⟩

theorem search_any (x bx bk : Nat) (v : Value) (l : List En) (kn : ByteArray) (kr : Int) (B : Nat) (w : World) (h : IxAt w B x v l)
    (hx : w.cell? ⟨bx, 0, none⟩ = some (.pointer (some ⟨x, 0, none⟩))) (k0 : w.cell? ⟨bk, 0, none⟩ = some (.string kn)) (k1 : w.cell? ⟨bk, 1, none⟩ = some (.int .i64 kr)) :
    Calls Try.prog 29 #[.int .i64 (l.length : Nat), .func (.func 30) #[] #[.pointer (some ⟨bx, 0, none⟩), .pointer (some ⟨bk, 0, none⟩)]] w fun e w' => e = .returned (.int .i64 (plc l (kn, kr) : Nat)) ∧ Below w.heap.size w w' := by
  have hp := plc_le l (kn, kr)
  have hf := h.few
  have HC := Lib.hid fun (i : Nat) (V : World) (hb : Below w.heap.size w V) (hi : i < l.length) => closure_any x bx bk i v l kn kr B V (h.below hb) hi ((hb.cell (p := ⟨bx, 0, none⟩) (cell_lt hx)).trans hx) ((hb.cell (p := ⟨bk, 0, none⟩) (cell_lt k0)).trans k0) ((hb.cell (p := ⟨bk, 1, none⟩) (cell_lt k1)).trans k1)
  clear h hx k0 k1
  generalize plc l (kn, kr) = p at *
  generalize l.length = n at *
  clear l
  go_enter Try.func29, Try.ntmps29
  go_wp2
  go_loopw [5, 6] (fun s5 s6 wr => ∃ lo hi : Nat, s5 = .int .i64 lo ∧ s6 = .int .i64 hi ∧ lo ≤ p ∧ p ≤ hi ∧ hi ≤ n ∧ Hid (Below w.heap.size w wr)) (fun s5 s6 _ => (intOf s6).toNat - (intOf s5).toNat)
  case atStart => exact ⟨0, n, rfl, rfl, Nat.zero_le _, hp, Nat.le_refl _, Lib.hid (Below.refl _ _)⟩
  case round =>
    obtain ⟨lo, hi, rfl, rfl, h1, h2, h3, HB⟩ := hrel
    rename World => w0
    by_cases hlt : lo < hi
    · have hC := HC.out ((lo + hi) / 2) w0 HB.out (by omega)
      rw [show (((lo + hi) / 2 : Nat) : Int) = ((lo : Int) + (hi : Int)) / 2 by omega] at hC
      by_cases hm : (lo + hi) / 2 < p
      · rw [decide_eq_true hm] at hC
        have HC2 := Lib.hid hC
        clear hC
        go_wp2_with fail
        refine HC2.out.mono ?_
        rintro e w1 ⟨rfl, hb1⟩
        have HB1 := Lib.hid hb1
        clear hb1
        go_wp2
        go_roundw
        case rel => exact ⟨(lo + hi) / 2 + 1, hi, (by rw [show ((lo : Int) + (hi : Int)) / 2 + 1 = (((lo + hi) / 2 + 1 : Nat) : Int) by omega]), rfl, by omega, h2, h3, Lib.hid (bstep HB.out HB1.out)⟩
        case measure => simp [intOf] <;> omega
      · rw [decide_eq_false hm] at hC
        have HC2 := Lib.hid hC
        clear hC
        go_wp2_with fail
        refine HC2.out.mono ?_
        rintro e w1 ⟨rfl, hb1⟩
        have HB1 := Lib.hid hb1
        clear hb1
        go_wp2
        go_roundw
        case rel => exact ⟨lo, (lo + hi) / 2, rfl, (by rw [show ((lo : Int) + (hi : Int)) / 2 = (((lo + hi) / 2 : Nat) : Int) by omega]), h1, by omega, by omega, Lib.hid (bstep HB.out HB1.out)⟩
        case measure => simp [intOf] <;> omega
    · obtain rfl : lo = hi := by omega
      obtain rfl : lo = p := by omega
      go_wp2
      go_ret
      exact ⟨rfl, HB.out⟩

theorem place_any (x : Nat) (v : Value) (l : List En) (kn : ByteArray) (kr : Int) (B : Nat) (w : World) (h : IxAt w B x v l) :
    Calls Try.prog 21 #[.pointer (some ⟨x, 0, none⟩), .agg #[.string kn, .int .i64 kr]] w fun e w' => e = .returned (.int .i64 (plc l (kn, kr) : Nat)) ∧ Below w.heap.size w w' := by
  have hb2 := (balloc w (.cells #[.pointer (some ⟨x, 0, none⟩)] 24)).alloc (by simp) (.cells #[.string kn, .int .i64 kr] 33)
  have hC := search_any x w.heap.size (w.heap.size + 1) v l kn kr B _ (h.below hb2) (by simp) (by simp) (by simp)
  obtain ⟨A, c, rfl, -⟩ := h.own.ents
  have c0 := (h.below hb2).cell
  have hx := h.lt
  have HB2 := Lib.hid hb2; have HC := Lib.hid hC
  generalize plc l (kn, kr) = p at *
  clear hb2 hC h
  generalize l.length = n at *
  clear l
  go_enter Try.func21, Try.ntmps21
  go_wp2_with fail
  refine HC.out.mono ?_
  rintro e w1 ⟨rfl, hb1⟩
  have HB1 := Lib.hid hb1
  clear hb1
  go_wp2
  go_ret
  exact ⟨rfl, bstep HB2.out HB1.out⟩
end Go.Proofs.Ytnjdioghjjaegaa.Index

/- package index: Find -/
set_option maxRecDepth 100000
namespace Go.Proofs.Ytnjdioghjjaegaa.Index
open Go.RowKit IdxM Ents

/-- an entry told, and whether there was one -/
def Told (g : En) (ok : Bool) (w : World) (e : Ending) (w' : World) : Prop := e = .returned (.tuple #[.agg #[.string g.name, .int .i64 g.role, .int .i64 g.at_, .int .i64 g.n], .bool ok]) ∧ Below w.heap.size w w'
theorem below_keeps1 {w W0 w1 w2 : World} {g : Nat} (h0 : Below w.heap.size w W0) (h1 : Below W0.heap.size W0 w1) (hk : Keeps (fun k => k = g) w1 w2) (hg : w.heap.size ≤ g) : Below w.heap.size w w2 := by
  have h : Below w.heap.size w w1 := bstep h0 h1
  exact below_keeps h hk (fun k e => by subst e; exact hg) h.size
theorem find_nil (kn : ByteArray) (kr : Int) (w : World) : Calls Try.prog 13 #[.pointer none, .agg #[.string kn, .int .i64 kr]] w (Told En.zero false w) := by
  have hb := (balloc w (.cells #[.string kn, .int .i64 kr] 33)).alloc (by simp) (.cells #[.string ByteArray.empty, .int .i64 0, .int .i64 0, .int .i64 0] 35)
  have he := EnB.new (w.alloc (.cells #[.string kn, .int .i64 kr] 33)) ByteArray.empty 0 0 0
  have hz : (w.alloc (.cells #[.string kn, .int .i64 kr] 33)).heap.size = w.heap.size + 1 := by simp
  rw [hz] at he
  go_enter Try.func13, Try.ntmps13
  go_wp2_with (first | (refine wpList_store_en rfl _ _ rfl (w.heap.size + 1) ByteArray.empty 0 0 0 rfl rfl ByteArray.empty 0 0 0 he ?_; intro w1 he1 hk1))
  exact Go.bodyPost_ret (results_en2 rfl _ _ (w.heap.size + 1) ByteArray.empty 0 0 0 rfl he1 _ rfl) rfl ⟨rfl, below_keeps1 hb (Below.refl _ _) hk1 (by omega)⟩

/-- the same, the place known: three ways -/
theorem find_at_ (x : Nat) (A : Option Addr) (n c : Nat) (l : List En) (kn : ByteArray) (kr : Int) (B p : Nat) (w : World) (h : IxAt w B x (.slice A n c) l) (hn : l.length = n) (hp : p = plc l (kn, kr)) (g : En) (ok : Bool) (hg : g = got l (kn, kr)) (hok : ok = has l (kn, kr)) :
    Calls Try.prog 13 #[.pointer (some ⟨x, 0, none⟩), .agg #[.string kn, .int .i64 kr]] w (Told g ok w) := by
  have hb0 := (balloc w (.cells #[.string kn, .int .i64 kr] 33)).alloc (by simp) (.cells #[.string ⟨#[]⟩, .int .i64 0, .int .i64 0, .int .i64 0] 35)
  have he0 := EnB.new (w.alloc (.cells #[.string kn, .int .i64 kr] 33)) ⟨#[]⟩ 0 0 0
  have hz0 : (w.alloc (.cells #[.string kn, .int .i64 kr] 33)).heap.size = w.heap.size + 1 := by simp
  rw [hz0] at he0
  have k0 : ((w.alloc (.cells #[.string kn, .int .i64 kr] 33)).alloc (.cells #[.string ⟨#[]⟩, .int .i64 0, .int .i64 0, .int .i64 0] 35)).cell? ⟨w.heap.size, 0, none⟩ = some (.string kn) := by simp
  have k1 : ((w.alloc (.cells #[.string kn, .int .i64 kr] 33)).alloc (.cells #[.string ⟨#[]⟩, .int .i64 0, .int .i64 0, .int .i64 0] 35)).cell? ⟨w.heap.size, 1, none⟩ = some (.int .i64 kr) := by simp
  have hx0 := h.below hb0
  have HC := Lib.hid fun V hV => place_any x (.slice A n c) l kn kr B V hV
  have hle := plc_le l (kn, kr)
  rw [← hp] at hle HC
  have hfew := h.few
  rw [hn] at hle hfew
  have hr := h.rise
  have HIF := Lib.hid (has_iff (k := (kn, kr)) hr)
  have HGH := Lib.hid (fun q => got_has (k := (kn, kr)) hr q)
  have HN := Lib.hid hn; have HP := Lib.hid hp; have HG := Lib.hid hg; have HOK := Lib.hid hok
  have HB0 := Lib.hid hb0; have HE0 := Lib.hid he0; have HK0 := Lib.hid k0; have HK1 := Lib.hid k1; have HX0 := Lib.hid hx0
  clear hb0 he0 k0 k1 hx0 hn hp hg hok h hz0
  have hbt : w.heap.size ≤ w.heap.size + 1 := by omega
  go_enter Try.func13, Try.ntmps13
  go_wp2_with fail
  generalize (w.alloc (.cells #[.string kn, .int .i64 kr] 33)).alloc (.cells #[.string ⟨#[]⟩, .int .i64 0, .int .i64 0, .int .i64 0] 35) = W0 at *
  obtain ⟨bt, hbt1⟩ : ∃ bt, bt = w.heap.size + 1 := ⟨_, rfl⟩
  obtain ⟨bk, hbk1⟩ : ∃ bk, bk = w.heap.size := ⟨_, rfl⟩
  rw [← hbt1] at HE0 hbt ⊢
  rw [← hbk1] at HK0 HK1 ⊢
  clear hbt1 hbk1
  refine (HC.out W0 HX0.out).mono ?_
  rintro e w1 ⟨rfl, hb1⟩
  have HB1 := Lib.hid hb1
  have HX := Lib.hid (HX0.out.below hb1); have HT := Lib.hid (HE0.out.below hb1)
  have HK2 := Lib.hid ((hb1.cell (p := ⟨bk, 0, none⟩) (cell_lt HK0.out)).trans HK0.out); have HK3 := Lib.hid ((hb1.cell (p := ⟨bk, 1, none⟩) (cell_lt HK1.out)).trans HK1.out)
  clear hb1 HX0 HE0 HK0 HK1 HC
  have HCELL := Lib.hid HX.out.cell
  by_cases hpl : p < n
  · obtain ⟨A', c', e, hc1, hc2, hA, _⟩ := HX.out.own.ents
    injection e with e1 e2 e3
    subst e1
    subst e3
    obtain ⟨b, o, rfl, hel⟩ := hA p (by rw [HN.out]; exact hpl)
    have HEL := Lib.hid hel
    clear hel hA e2
    obtain ⟨y, hy⟩ : ∃ y, y = l[p]'(by rw [HN.out]; exact hpl) := ⟨_, rfl⟩
    rw [← hy] at HEL
    have HY := Lib.hid hy
    have hpnn : ((p : Int) == (n : Int)) = false := by rw [beq_eq_false_iff_ne]; omega
    rw [HN.out] at hc1
    have hpi : (p : Int) < (n : Int) := by omega
    by_cases hk : (y.name, y.role) = (kn, kr)
    · have hh : has l (kn, kr) = true := HIF.out.2 (by
        have hP := HP.out
        subst hP
        exact ⟨by rw [HN.out]; exact hpl, by rw [← HY.out]; exact hk⟩)
      have hgy : g = y := by
        rw [HG.out, HGH.out hh]
        have hP := HP.out
        subst hP
        exact HY.out.symm
      have hok1 : ok = true := HOK.out.trans hh
      subst hok1
      subst hgy
      have hk1 : g.name = kn := congrArg Prod.fst hk
      have hk2 : g.role = kr := congrArg Prod.snd hk
      subst hk1
      subst hk2
      clear hh hk HOK HG HGH HIF HY hy HN HP HX
      obtain ⟨yn, yr, ya, yc⟩ := g
      obtain ⟨d0, d1, d2, d3⟩ := HEL.out
      simp only at d0 d1 d2 d3 HK2 HK3 ⊢
      have D0 := Lib.hid d0; have D1 := Lib.hid d1; have D2 := Lib.hid d2; have D3 := Lib.hid d3
      clear HEL d0 d1 d2 d3
      go_wp2_with fail
      refine Drawn.wp_region_flowL 19 [Drawn.SP.is (.int .i64 (p : Nat)), Drawn.SP.is (.pointer (some ⟨x, 0, none⟩)), Drawn.SP.is (.pointer (some ⟨x, 0, none⟩)), Drawn.SP.is (.pointer (some ⟨x, 0, none⟩)), Drawn.SP.is (.slice (some ⟨b, o, none⟩) n c), Drawn.SP.is (.int .i64 (n : Nat)), Drawn.SP.is (.bool false), Drawn.SP.is (.bool false), Drawn.SP.is (.pointer (some ⟨x, 0, none⟩)), Drawn.SP.is (.pointer (some ⟨x, 0, none⟩)), Drawn.SP.is (.pointer (some ⟨x, 0, none⟩)), Drawn.SP.is (.slice (some ⟨b, o, none⟩) n c), Drawn.SP.is (.int .i64 (p : Nat)), Drawn.SP.is (.pointer (some ⟨b, o + p * 4, none⟩)), Drawn.SP.is (.pointer (some ⟨b, o + p * 4, none⟩)), Drawn.SP.is (.agg #[.string yn, .int .i64 yr]), Drawn.SP.is (.agg #[.string yn, .int .i64 yr]), Drawn.SP.is (.bool false), Drawn.SP.is (.bool false)] (by kernel_rfl) (by kernel_rfl) ?_ ?_
      · intro i hi a w2 hb hev hdep
        rcases (show i = 0 ∨ i = 1 ∨ i = 2 ∨ i = 3 ∨ i = 4 ∨ i = 5 ∨ i = 6 ∨ i = 7 ∨ i = 8 ∨ i = 9 ∨ i = 10 ∨ i = 11 ∨ i = 12 ∨ i = 13 ∨ i = 14 ∨ i = 15 ∨ i = 16 ∨ i = 17 ∨ i = 18 by omega) with rfl | rfl | rfl | rfl | rfl | rfl | rfl | rfl | rfl | rfl | rfl | rfl | rfl | rfl | rfl | rfl | rfl | rfl | rfl
        · have e6 : a.tmps[6]?.getD undef = .int .i64 (p : Nat) := hev 6 rfl
          refine Drawn.wpOp_flow 13 rfl rfl rfl ?_
          clear hev hdep hb
          go_simp
          exact ⟨_, rfl, rfl, Below.refl _ _⟩
        · have e0 : a.tmps[0]?.getD undef = .pointer (some ⟨x, 0, none⟩) := hev 0 rfl
          refine Drawn.wpOp_flow 14 rfl rfl rfl ?_
          clear hev hdep hb
          go_simp
          exact ⟨_, rfl, rfl, Below.refl _ _⟩
        · have d1 : a.tmps[14]?.getD undef = .pointer (some ⟨x, 0, none⟩) := hdep 1 rfl
          refine Drawn.wpOp_flow 15 rfl rfl rfl ?_
          clear hev hdep hb
          go_simp
          exact ⟨_, rfl, rfl, Below.refl _ _⟩
        · have d2 : a.tmps[15]?.getD undef = .pointer (some ⟨x, 0, none⟩) := hdep 2 rfl
          refine Drawn.wpOp_flow 16 rfl rfl rfl ?_
          clear hev hdep hb
          go_simp
          exact ⟨_, rfl, rfl, Below.refl _ _⟩
        · have d3 : a.tmps[16]?.getD undef = .pointer (some ⟨x, 0, none⟩) := hdep 3 rfl
          refine Drawn.wpOp_flow 17 rfl rfl rfl ?_
          have c1 := (hb.cell (p := ⟨x, 0, none⟩) (cell_lt HCELL.out)).trans HCELL.out
          have c2 := (hb.cell (p := ⟨bk, 0, none⟩) (cell_lt HK2.out)).trans HK2.out
          have c3 := (hb.cell (p := ⟨bk, 1, none⟩) (cell_lt HK3.out)).trans HK3.out
          have c4 := (hb.cell (p := ⟨b, o + p * 4, none⟩) (cell_lt D0.out)).trans D0.out
          have c5 := (hb.cell (p := ⟨b, o + p * 4 + 1, none⟩) (cell_lt D1.out)).trans D1.out
          clear hev hdep hb
          go_simp
          exact ⟨_, rfl, rfl, Below.refl _ _⟩
        · have d4 : a.tmps[17]?.getD undef = .slice (some ⟨b, o, none⟩) n c := hdep 4 rfl
          refine Drawn.wpOp_flow 18 rfl rfl rfl ?_
          clear hev hdep hb
          go_simp
          exact ⟨_, rfl, rfl, Below.refl _ _⟩
        · have d0 : a.tmps[13]?.getD undef = .int .i64 (p : Nat) := hdep 0 rfl
          have d5 : a.tmps[18]?.getD undef = .int .i64 (n : Nat) := hdep 5 rfl
          refine Drawn.wpOp_flow 19 rfl rfl rfl ?_
          clear hev hdep hb
          go_simp
          exact ⟨_, rfl, rfl, Below.refl _ _⟩
        · have d6 : a.tmps[19]?.getD undef = .bool false := hdep 6 rfl
          refine Drawn.wpOp_flow 20 rfl rfl rfl ?_
          clear hev hdep hb
          go_simp
          exact ⟨_, rfl, rfl, Below.refl _ _⟩
        · have e0 : a.tmps[0]?.getD undef = .pointer (some ⟨x, 0, none⟩) := hev 0 rfl
          have dg : a.tmps[20]?.getD undef = .bool false := hdep 7 rfl
          refine Drawn.wpOp_flow 21 rfl (Drawn.wanted_of rfl rfl rfl dg) rfl ?_
          clear dg
          clear hev hdep hb
          go_simp
          exact ⟨_, rfl, rfl, Below.refl _ _⟩
        · have d8 : a.tmps[21]?.getD undef = .pointer (some ⟨x, 0, none⟩) := hdep 8 rfl
          have dg : a.tmps[20]?.getD undef = .bool false := hdep 7 rfl
          refine Drawn.wpOp_flow 22 rfl (Drawn.wanted_of rfl rfl rfl dg) rfl ?_
          clear dg
          clear hev hdep hb
          go_simp
          exact ⟨_, rfl, rfl, Below.refl _ _⟩
        · have d9 : a.tmps[22]?.getD undef = .pointer (some ⟨x, 0, none⟩) := hdep 9 rfl
          have dg : a.tmps[20]?.getD undef = .bool false := hdep 7 rfl
          refine Drawn.wpOp_flow 23 rfl (Drawn.wanted_of rfl rfl rfl dg) rfl ?_
          clear dg
          clear hev hdep hb
          go_simp
          exact ⟨_, rfl, rfl, Below.refl _ _⟩
        · have d10 : a.tmps[23]?.getD undef = .pointer (some ⟨x, 0, none⟩) := hdep 10 rfl
          have dg : a.tmps[20]?.getD undef = .bool false := hdep 7 rfl
          refine Drawn.wpOp_flow 24 rfl (Drawn.wanted_of rfl rfl rfl dg) rfl ?_
          have c1 := (hb.cell (p := ⟨x, 0, none⟩) (cell_lt HCELL.out)).trans HCELL.out
          have c2 := (hb.cell (p := ⟨bk, 0, none⟩) (cell_lt HK2.out)).trans HK2.out
          have c3 := (hb.cell (p := ⟨bk, 1, none⟩) (cell_lt HK3.out)).trans HK3.out
          have c4 := (hb.cell (p := ⟨b, o + p * 4, none⟩) (cell_lt D0.out)).trans D0.out
          have c5 := (hb.cell (p := ⟨b, o + p * 4 + 1, none⟩) (cell_lt D1.out)).trans D1.out
          clear dg
          clear hev hdep hb
          go_simp
          exact ⟨_, rfl, rfl, Below.refl _ _⟩
        · have e6 : a.tmps[6]?.getD undef = .int .i64 (p : Nat) := hev 6 rfl
          have dg : a.tmps[20]?.getD undef = .bool false := hdep 7 rfl
          refine Drawn.wpOp_flow 25 rfl (Drawn.wanted_of rfl rfl rfl dg) rfl ?_
          clear dg
          clear hev hdep hb
          go_simp
          exact ⟨_, rfl, rfl, Below.refl _ _⟩
        · have d11 : a.tmps[24]?.getD undef = .slice (some ⟨b, o, none⟩) n c := hdep 11 rfl
          have d12 : a.tmps[25]?.getD undef = .int .i64 (p : Nat) := hdep 12 rfl
          have dg : a.tmps[20]?.getD undef = .bool false := hdep 7 rfl
          refine Drawn.wpOp_flow 26 rfl (Drawn.wanted_of rfl rfl rfl dg) rfl ?_
          clear dg
          clear hev hdep hb
          go_simp
          exact ⟨_, rfl, rfl, Below.refl _ _⟩
        · have d13 : a.tmps[26]?.getD undef = .pointer (some ⟨b, o + p * 4, none⟩) := hdep 13 rfl
          have dg : a.tmps[20]?.getD undef = .bool false := hdep 7 rfl
          refine Drawn.wpOp_flow 27 rfl (Drawn.wanted_of rfl rfl rfl dg) rfl ?_
          clear dg
          clear hev hdep hb
          go_simp
          exact ⟨_, rfl, rfl, Below.refl _ _⟩
        · have d14 : a.tmps[27]?.getD undef = .pointer (some ⟨b, o + p * 4, none⟩) := hdep 14 rfl
          have dg : a.tmps[20]?.getD undef = .bool false := hdep 7 rfl
          refine Drawn.wpOp_flow 28 rfl (Drawn.wanted_of rfl rfl rfl dg) rfl ?_
          have c1 := (hb.cell (p := ⟨x, 0, none⟩) (cell_lt HCELL.out)).trans HCELL.out
          have c2 := (hb.cell (p := ⟨bk, 0, none⟩) (cell_lt HK2.out)).trans HK2.out
          have c3 := (hb.cell (p := ⟨bk, 1, none⟩) (cell_lt HK3.out)).trans HK3.out
          have c4 := (hb.cell (p := ⟨b, o + p * 4, none⟩) (cell_lt D0.out)).trans D0.out
          have c5 := (hb.cell (p := ⟨b, o + p * 4 + 1, none⟩) (cell_lt D1.out)).trans D1.out
          clear dg
          clear hev hdep hb
          go_simp
          exact ⟨_, rfl, rfl, Below.refl _ _⟩
        · have e3 : a.tmps[3]?.getD undef = .pointer (some ⟨bk, 0, none⟩) := hev 3 rfl
          have dg : a.tmps[20]?.getD undef = .bool false := hdep 7 rfl
          refine Drawn.wpOp_flow 29 rfl (Drawn.wanted_of rfl rfl rfl dg) rfl ?_
          have c1 := (hb.cell (p := ⟨x, 0, none⟩) (cell_lt HCELL.out)).trans HCELL.out
          have c2 := (hb.cell (p := ⟨bk, 0, none⟩) (cell_lt HK2.out)).trans HK2.out
          have c3 := (hb.cell (p := ⟨bk, 1, none⟩) (cell_lt HK3.out)).trans HK3.out
          have c4 := (hb.cell (p := ⟨b, o + p * 4, none⟩) (cell_lt D0.out)).trans D0.out
          have c5 := (hb.cell (p := ⟨b, o + p * 4 + 1, none⟩) (cell_lt D1.out)).trans D1.out
          clear dg
          clear hev hdep hb
          go_simp
          exact ⟨_, rfl, rfl, Below.refl _ _⟩
        · have d15 : a.tmps[28]?.getD undef = .agg #[.string yn, .int .i64 yr] := hdep 15 rfl
          have d16 : a.tmps[29]?.getD undef = .agg #[.string yn, .int .i64 yr] := hdep 16 rfl
          have dg : a.tmps[20]?.getD undef = .bool false := hdep 7 rfl
          refine Drawn.wpOp_flow 30 rfl (Drawn.wanted_of rfl rfl rfl dg) rfl ?_
          clear hev hdep
          have hg := key_guard
          clear hb
          go_simp
          exact ⟨_, rfl, rfl, Below.refl _ _⟩
        · have d7 : a.tmps[20]?.getD undef = .bool false := hdep 7 rfl
          have d17 : a.tmps[30]?.getD undef = .bool false := hdep 17 rfl
          refine Drawn.wpOp_flow 31 rfl rfl rfl ?_
          clear hev hdep hb
          go_simp
          exact ⟨_, rfl, rfl, Below.refl _ _⟩
      · intro xq w2 hb hxq
        have vq0 : xq 0 = .int .i64 (p : Nat) := hxq 0 (by omega)
        have vq1 : xq 1 = .pointer (some ⟨x, 0, none⟩) := hxq 1 (by omega)
        have vq2 : xq 2 = .pointer (some ⟨x, 0, none⟩) := hxq 2 (by omega)
        have vq3 : xq 3 = .pointer (some ⟨x, 0, none⟩) := hxq 3 (by omega)
        have vq4 : xq 4 = .slice (some ⟨b, o, none⟩) n c := hxq 4 (by omega)
        have vq5 : xq 5 = .int .i64 (n : Nat) := hxq 5 (by omega)
        have vq6 : xq 6 = .bool false := hxq 6 (by omega)
        have vq7 : xq 7 = .bool false := hxq 7 (by omega)
        have vq8 : xq 8 = .pointer (some ⟨x, 0, none⟩) := hxq 8 (by omega)
        have vq9 : xq 9 = .pointer (some ⟨x, 0, none⟩) := hxq 9 (by omega)
        have vq10 : xq 10 = .pointer (some ⟨x, 0, none⟩) := hxq 10 (by omega)
        have vq11 : xq 11 = .slice (some ⟨b, o, none⟩) n c := hxq 11 (by omega)
        have vq12 : xq 12 = .int .i64 (p : Nat) := hxq 12 (by omega)
        have vq13 : xq 13 = .pointer (some ⟨b, o + p * 4, none⟩) := hxq 13 (by omega)
        have vq14 : xq 14 = .pointer (some ⟨b, o + p * 4, none⟩) := hxq 14 (by omega)
        have vq15 : xq 15 = .agg #[.string yn, .int .i64 yr] := hxq 15 (by omega)
        have vq16 : xq 16 = .agg #[.string yn, .int .i64 yr] := hxq 16 (by omega)
        have vq17 : xq 17 = .bool false := hxq 17 (by omega)
        have vq18 : xq 18 = .bool false := hxq 18 (by omega)
        show Exit.then _ _ Exit.normal (Drawn.acts _ [(31, some (xq 18)), (30, some (xq 17)), (29, some (xq 16)), (28, some (xq 15)), (27, some (xq 14)), (26, some (xq 13)), (25, some (xq 12)), (24, some (xq 11)), (23, some (xq 10)), (22, some (xq 9)), (21, some (xq 8)), (20, some (xq 7)), (19, some (xq 6)), (18, some (xq 5)), (17, some (xq 4)), (16, some (xq 3)), (15, some (xq 2)), (14, some (xq 1)), (13, some (xq 0))]) _
        rw [vq0, vq1, vq2, vq3, vq4, vq5, vq6, vq7, vq8, vq9, vq10, vq11, vq12, vq13, vq14, vq15, vq16, vq17, vq18]
        clear hxq vq0 vq1 vq2 vq3 vq4 vq5 vq6 vq7 vq8 vq9 vq10 vq11 vq12 vq13 vq14 vq15 vq16 vq17 vq18
        clear xq
        simp only [Drawn.acts]
        go_simp
        have HB2 := Lib.hid hb
        have c1 := (hb.cell (p := ⟨x, 0, none⟩) (cell_lt HCELL.out)).trans HCELL.out
        have c4 := (hb.cell (p := ⟨b, o + p * 4, none⟩) (cell_lt D0.out)).trans D0.out
        have c5 := (hb.cell (p := ⟨b, o + p * 4 + 1, none⟩) (cell_lt D1.out)).trans D1.out
        have c6 := (hb.cell (p := ⟨b, o + p * 4 + 2, none⟩) (cell_lt D2.out)).trans D2.out
        have c7 := (hb.cell (p := ⟨b, o + p * 4 + 3, none⟩) (cell_lt D3.out)).trans D3.out
        have HT2 := Lib.hid (HT.out.below hb)
        clear hb
        go_at_K
        go_wp2_with (first | (refine wpList_store_en rfl _ _ rfl bt yn yr ya yc rfl rfl ⟨#[]⟩ 0 0 0 HT2.out ?_; intro w3 he3 hk3))
        exact Go.bodyPost_ret (results_en2 rfl _ _ bt yn yr ya yc rfl he3 _ rfl) rfl ⟨rfl, below_keeps1 HB0.out (bstep HB1.out HB2.out) hk3 hbt⟩
    · have hh : has l (kn, kr) = false := by
        rcases hq : has l (kn, kr) with _ | _
        · rfl
        · exfalso
          obtain ⟨_, h2⟩ := HIF.out.1 hq
          have hP := HP.out
          subst hP
          rw [← HY.out] at h2
          exact hk h2
      have hgy : g = En.zero := by rw [HG.out, got_not hh]
      have hok1 : ok = false := HOK.out.trans hh
      subst hok1
      subst hgy
      have HKK := Lib.hid hk
      clear hh hk HOK HG HGH HIF HY hy HN HP HX
      obtain ⟨yn, yr, ya, yc⟩ := y
      obtain ⟨d0, d1, d2, d3⟩ := HEL.out
      simp only at d0 d1 d2 d3 HKK
      have D0 := Lib.hid d0; have D1 := Lib.hid d1
      clear HEL d0 d1 d2 d3
      go_wp2_with fail
      refine Drawn.wp_region_flowL 19 [Drawn.SP.is (.int .i64 (p : Nat)), Drawn.SP.is (.pointer (some ⟨x, 0, none⟩)), Drawn.SP.is (.pointer (some ⟨x, 0, none⟩)), Drawn.SP.is (.pointer (some ⟨x, 0, none⟩)), Drawn.SP.is (.slice (some ⟨b, o, none⟩) n c), Drawn.SP.is (.int .i64 (n : Nat)), Drawn.SP.is (.bool false), Drawn.SP.is (.bool false), Drawn.SP.is (.pointer (some ⟨x, 0, none⟩)), Drawn.SP.is (.pointer (some ⟨x, 0, none⟩)), Drawn.SP.is (.pointer (some ⟨x, 0, none⟩)), Drawn.SP.is (.slice (some ⟨b, o, none⟩) n c), Drawn.SP.is (.int .i64 (p : Nat)), Drawn.SP.is (.pointer (some ⟨b, o + p * 4, none⟩)), Drawn.SP.is (.pointer (some ⟨b, o + p * 4, none⟩)), Drawn.SP.is (.agg #[.string yn, .int .i64 yr]), Drawn.SP.is (.agg #[.string kn, .int .i64 kr]), Drawn.SP.is (.bool true), Drawn.SP.is (.bool true)] (by kernel_rfl) (by kernel_rfl) ?_ ?_
      · intro i hi a w2 hb hev hdep
        rcases (show i = 0 ∨ i = 1 ∨ i = 2 ∨ i = 3 ∨ i = 4 ∨ i = 5 ∨ i = 6 ∨ i = 7 ∨ i = 8 ∨ i = 9 ∨ i = 10 ∨ i = 11 ∨ i = 12 ∨ i = 13 ∨ i = 14 ∨ i = 15 ∨ i = 16 ∨ i = 17 ∨ i = 18 by omega) with rfl | rfl | rfl | rfl | rfl | rfl | rfl | rfl | rfl | rfl | rfl | rfl | rfl | rfl | rfl | rfl | rfl | rfl | rfl
        · have e6 : a.tmps[6]?.getD undef = .int .i64 (p : Nat) := hev 6 rfl
          refine Drawn.wpOp_flow 13 rfl rfl rfl ?_
          clear hev hdep hb
          go_simp
          exact ⟨_, rfl, rfl, Below.refl _ _⟩
        · have e0 : a.tmps[0]?.getD undef = .pointer (some ⟨x, 0, none⟩) := hev 0 rfl
          refine Drawn.wpOp_flow 14 rfl rfl rfl ?_
          clear hev hdep hb
          go_simp
          exact ⟨_, rfl, rfl, Below.refl _ _⟩
        · have d1 : a.tmps[14]?.getD undef = .pointer (some ⟨x, 0, none⟩) := hdep 1 rfl
          refine Drawn.wpOp_flow 15 rfl rfl rfl ?_
          clear hev hdep hb
          go_simp
          exact ⟨_, rfl, rfl, Below.refl _ _⟩
        · have d2 : a.tmps[15]?.getD undef = .pointer (some ⟨x, 0, none⟩) := hdep 2 rfl
          refine Drawn.wpOp_flow 16 rfl rfl rfl ?_
          clear hev hdep hb
          go_simp
          exact ⟨_, rfl, rfl, Below.refl _ _⟩
        · have d3 : a.tmps[16]?.getD undef = .pointer (some ⟨x, 0, none⟩) := hdep 3 rfl
          refine Drawn.wpOp_flow 17 rfl rfl rfl ?_
          have c1 := (hb.cell (p := ⟨x, 0, none⟩) (cell_lt HCELL.out)).trans HCELL.out
          have c2 := (hb.cell (p := ⟨bk, 0, none⟩) (cell_lt HK2.out)).trans HK2.out
          have c3 := (hb.cell (p := ⟨bk, 1, none⟩) (cell_lt HK3.out)).trans HK3.out
          have c4 := (hb.cell (p := ⟨b, o + p * 4, none⟩) (cell_lt D0.out)).trans D0.out
          have c5 := (hb.cell (p := ⟨b, o + p * 4 + 1, none⟩) (cell_lt D1.out)).trans D1.out
          clear hev hdep hb
          go_simp
          exact ⟨_, rfl, rfl, Below.refl _ _⟩
        · have d4 : a.tmps[17]?.getD undef = .slice (some ⟨b, o, none⟩) n c := hdep 4 rfl
          refine Drawn.wpOp_flow 18 rfl rfl rfl ?_
          clear hev hdep hb
          go_simp
          exact ⟨_, rfl, rfl, Below.refl _ _⟩
        · have d0 : a.tmps[13]?.getD undef = .int .i64 (p : Nat) := hdep 0 rfl
          have d5 : a.tmps[18]?.getD undef = .int .i64 (n : Nat) := hdep 5 rfl
          refine Drawn.wpOp_flow 19 rfl rfl rfl ?_
          clear hev hdep hb
          go_simp
          exact ⟨_, rfl, rfl, Below.refl _ _⟩
        · have d6 : a.tmps[19]?.getD undef = .bool false := hdep 6 rfl
          refine Drawn.wpOp_flow 20 rfl rfl rfl ?_
          clear hev hdep hb
          go_simp
          exact ⟨_, rfl, rfl, Below.refl _ _⟩
        · have e0 : a.tmps[0]?.getD undef = .pointer (some ⟨x, 0, none⟩) := hev 0 rfl
          have dg : a.tmps[20]?.getD undef = .bool false := hdep 7 rfl
          refine Drawn.wpOp_flow 21 rfl (Drawn.wanted_of rfl rfl rfl dg) rfl ?_
          clear dg
          clear hev hdep hb
          go_simp
          exact ⟨_, rfl, rfl, Below.refl _ _⟩
        · have d8 : a.tmps[21]?.getD undef = .pointer (some ⟨x, 0, none⟩) := hdep 8 rfl
          have dg : a.tmps[20]?.getD undef = .bool false := hdep 7 rfl
          refine Drawn.wpOp_flow 22 rfl (Drawn.wanted_of rfl rfl rfl dg) rfl ?_
          clear dg
          clear hev hdep hb
          go_simp
          exact ⟨_, rfl, rfl, Below.refl _ _⟩
        · have d9 : a.tmps[22]?.getD undef = .pointer (some ⟨x, 0, none⟩) := hdep 9 rfl
          have dg : a.tmps[20]?.getD undef = .bool false := hdep 7 rfl
          refine Drawn.wpOp_flow 23 rfl (Drawn.wanted_of rfl rfl rfl dg) rfl ?_
          clear dg
          clear hev hdep hb
          go_simp
          exact ⟨_, rfl, rfl, Below.refl _ _⟩
        · have d10 : a.tmps[23]?.getD undef = .pointer (some ⟨x, 0, none⟩) := hdep 10 rfl
          have dg : a.tmps[20]?.getD undef = .bool false := hdep 7 rfl
          refine Drawn.wpOp_flow 24 rfl (Drawn.wanted_of rfl rfl rfl dg) rfl ?_
          have c1 := (hb.cell (p := ⟨x, 0, none⟩) (cell_lt HCELL.out)).trans HCELL.out
          have c2 := (hb.cell (p := ⟨bk, 0, none⟩) (cell_lt HK2.out)).trans HK2.out
          have c3 := (hb.cell (p := ⟨bk, 1, none⟩) (cell_lt HK3.out)).trans HK3.out
          have c4 := (hb.cell (p := ⟨b, o + p * 4, none⟩) (cell_lt D0.out)).trans D0.out
          have c5 := (hb.cell (p := ⟨b, o + p * 4 + 1, none⟩) (cell_lt D1.out)).trans D1.out
          clear dg
          clear hev hdep hb
          go_simp
          exact ⟨_, rfl, rfl, Below.refl _ _⟩
        · have e6 : a.tmps[6]?.getD undef = .int .i64 (p : Nat) := hev 6 rfl
          have dg : a.tmps[20]?.getD undef = .bool false := hdep 7 rfl
          refine Drawn.wpOp_flow 25 rfl (Drawn.wanted_of rfl rfl rfl dg) rfl ?_
          clear dg
          clear hev hdep hb
          go_simp
          exact ⟨_, rfl, rfl, Below.refl _ _⟩
        · have d11 : a.tmps[24]?.getD undef = .slice (some ⟨b, o, none⟩) n c := hdep 11 rfl
          have d12 : a.tmps[25]?.getD undef = .int .i64 (p : Nat) := hdep 12 rfl
          have dg : a.tmps[20]?.getD undef = .bool false := hdep 7 rfl
          refine Drawn.wpOp_flow 26 rfl (Drawn.wanted_of rfl rfl rfl dg) rfl ?_
          clear dg
          clear hev hdep hb
          go_simp
          exact ⟨_, rfl, rfl, Below.refl _ _⟩
        · have d13 : a.tmps[26]?.getD undef = .pointer (some ⟨b, o + p * 4, none⟩) := hdep 13 rfl
          have dg : a.tmps[20]?.getD undef = .bool false := hdep 7 rfl
          refine Drawn.wpOp_flow 27 rfl (Drawn.wanted_of rfl rfl rfl dg) rfl ?_
          clear dg
          clear hev hdep hb
          go_simp
          exact ⟨_, rfl, rfl, Below.refl _ _⟩
        · have d14 : a.tmps[27]?.getD undef = .pointer (some ⟨b, o + p * 4, none⟩) := hdep 14 rfl
          have dg : a.tmps[20]?.getD undef = .bool false := hdep 7 rfl
          refine Drawn.wpOp_flow 28 rfl (Drawn.wanted_of rfl rfl rfl dg) rfl ?_
          have c1 := (hb.cell (p := ⟨x, 0, none⟩) (cell_lt HCELL.out)).trans HCELL.out
          have c2 := (hb.cell (p := ⟨bk, 0, none⟩) (cell_lt HK2.out)).trans HK2.out
          have c3 := (hb.cell (p := ⟨bk, 1, none⟩) (cell_lt HK3.out)).trans HK3.out
          have c4 := (hb.cell (p := ⟨b, o + p * 4, none⟩) (cell_lt D0.out)).trans D0.out
          have c5 := (hb.cell (p := ⟨b, o + p * 4 + 1, none⟩) (cell_lt D1.out)).trans D1.out
          clear dg
          clear hev hdep hb
          go_simp
          exact ⟨_, rfl, rfl, Below.refl _ _⟩
        · have e3 : a.tmps[3]?.getD undef = .pointer (some ⟨bk, 0, none⟩) := hev 3 rfl
          have dg : a.tmps[20]?.getD undef = .bool false := hdep 7 rfl
          refine Drawn.wpOp_flow 29 rfl (Drawn.wanted_of rfl rfl rfl dg) rfl ?_
          have c1 := (hb.cell (p := ⟨x, 0, none⟩) (cell_lt HCELL.out)).trans HCELL.out
          have c2 := (hb.cell (p := ⟨bk, 0, none⟩) (cell_lt HK2.out)).trans HK2.out
          have c3 := (hb.cell (p := ⟨bk, 1, none⟩) (cell_lt HK3.out)).trans HK3.out
          have c4 := (hb.cell (p := ⟨b, o + p * 4, none⟩) (cell_lt D0.out)).trans D0.out
          have c5 := (hb.cell (p := ⟨b, o + p * 4 + 1, none⟩) (cell_lt D1.out)).trans D1.out
          clear dg
          clear hev hdep hb
          go_simp
          exact ⟨_, rfl, rfl, Below.refl _ _⟩
        · have d15 : a.tmps[28]?.getD undef = .agg #[.string yn, .int .i64 yr] := hdep 15 rfl
          have d16 : a.tmps[29]?.getD undef = .agg #[.string kn, .int .i64 kr] := hdep 16 rfl
          have dg : a.tmps[20]?.getD undef = .bool false := hdep 7 rfl
          refine Drawn.wpOp_flow 30 rfl (Drawn.wanted_of rfl rfl rfl dg) rfl ?_
          clear hev hdep
          have hg := key_guard
          clear hb
          by_cases hn : yn = kn
          · subst hn
            have hr : ¬ yr = kr := fun e => HKK.out (by rw [e])
            go_simp
            exact ⟨_, rfl, rfl, Below.refl _ _⟩
          · have hs : ¬ yn.toList = kn.toList := by simpa using R07.str_ne hn
            go_simp
            exact ⟨_, rfl, rfl, Below.refl _ _⟩
        · have d7 : a.tmps[20]?.getD undef = .bool false := hdep 7 rfl
          have d17 : a.tmps[30]?.getD undef = .bool true := hdep 17 rfl
          refine Drawn.wpOp_flow 31 rfl rfl rfl ?_
          clear hev hdep hb
          go_simp
          exact ⟨_, rfl, rfl, Below.refl _ _⟩
      · intro xq w2 hb hxq
        have vq0 : xq 0 = .int .i64 (p : Nat) := hxq 0 (by omega)
        have vq1 : xq 1 = .pointer (some ⟨x, 0, none⟩) := hxq 1 (by omega)
        have vq2 : xq 2 = .pointer (some ⟨x, 0, none⟩) := hxq 2 (by omega)
        have vq3 : xq 3 = .pointer (some ⟨x, 0, none⟩) := hxq 3 (by omega)
        have vq4 : xq 4 = .slice (some ⟨b, o, none⟩) n c := hxq 4 (by omega)
        have vq5 : xq 5 = .int .i64 (n : Nat) := hxq 5 (by omega)
        have vq6 : xq 6 = .bool false := hxq 6 (by omega)
        have vq7 : xq 7 = .bool false := hxq 7 (by omega)
        have vq8 : xq 8 = .pointer (some ⟨x, 0, none⟩) := hxq 8 (by omega)
        have vq9 : xq 9 = .pointer (some ⟨x, 0, none⟩) := hxq 9 (by omega)
        have vq10 : xq 10 = .pointer (some ⟨x, 0, none⟩) := hxq 10 (by omega)
        have vq11 : xq 11 = .slice (some ⟨b, o, none⟩) n c := hxq 11 (by omega)
        have vq12 : xq 12 = .int .i64 (p : Nat) := hxq 12 (by omega)
        have vq13 : xq 13 = .pointer (some ⟨b, o + p * 4, none⟩) := hxq 13 (by omega)
        have vq14 : xq 14 = .pointer (some ⟨b, o + p * 4, none⟩) := hxq 14 (by omega)
        have vq15 : xq 15 = .agg #[.string yn, .int .i64 yr] := hxq 15 (by omega)
        have vq16 : xq 16 = .agg #[.string kn, .int .i64 kr] := hxq 16 (by omega)
        have vq17 : xq 17 = .bool true := hxq 17 (by omega)
        have vq18 : xq 18 = .bool true := hxq 18 (by omega)
        show Exit.then _ _ Exit.normal (Drawn.acts _ [(31, some (xq 18)), (30, some (xq 17)), (29, some (xq 16)), (28, some (xq 15)), (27, some (xq 14)), (26, some (xq 13)), (25, some (xq 12)), (24, some (xq 11)), (23, some (xq 10)), (22, some (xq 9)), (21, some (xq 8)), (20, some (xq 7)), (19, some (xq 6)), (18, some (xq 5)), (17, some (xq 4)), (16, some (xq 3)), (15, some (xq 2)), (14, some (xq 1)), (13, some (xq 0))]) _
        rw [vq0, vq1, vq2, vq3, vq4, vq5, vq6, vq7, vq8, vq9, vq10, vq11, vq12, vq13, vq14, vq15, vq16, vq17, vq18]
        clear hxq vq0 vq1 vq2 vq3 vq4 vq5 vq6 vq7 vq8 vq9 vq10 vq11 vq12 vq13 vq14 vq15 vq16 vq17 vq18
        clear xq
        simp only [Drawn.acts]
        go_simp
        have HB2 := Lib.hid hb
        have HT2 := Lib.hid (HT.out.below hb)
        clear hb
        go_at_K
        go_wp2_with (first | (refine wpList_store_en rfl _ _ rfl bt ⟨#[]⟩ 0 0 0 rfl rfl ⟨#[]⟩ 0 0 0 HT2.out ?_; intro w3 he3 hk3))
        exact Go.bodyPost_ret (results_en2 rfl _ _ bt ⟨#[]⟩ 0 0 0 rfl he3 _ rfl) rfl ⟨rfl, below_keeps1 HB0.out (bstep HB1.out HB2.out) hk3 hbt⟩
  · obtain rfl : p = n := by omega
    have hh : has l (kn, kr) = false := by
      rcases hq : has l (kn, kr) with _ | _
      · rfl
      · exfalso
        obtain ⟨h1, _⟩ := HIF.out.1 hq
        have hP := HP.out
        have hN := HN.out
        omega
    have hgy : g = En.zero := by rw [HG.out, got_not hh]
    have hok1 : ok = false := HOK.out.trans hh
    subst hok1
    subst hgy
    clear hh HOK HG HGH HIF HX hpl
    go_wp2_with fail
    refine Drawn.wp_region_flowL 19 [Drawn.SP.is (.int .i64 (p : Nat)), Drawn.SP.is (.pointer (some ⟨x, 0, none⟩)), Drawn.SP.is (.pointer (some ⟨x, 0, none⟩)), Drawn.SP.is (.pointer (some ⟨x, 0, none⟩)), Drawn.SP.is (.slice A p c), Drawn.SP.is (.int .i64 (p : Nat)), Drawn.SP.is (.bool true), Drawn.SP.is (.bool true), Drawn.SP.is (undef), Drawn.SP.is (undef), Drawn.SP.is (undef), Drawn.SP.is (undef), Drawn.SP.is (undef), Drawn.SP.is (undef), Drawn.SP.is (undef), Drawn.SP.is (undef), Drawn.SP.is (undef), Drawn.SP.is (undef), Drawn.SP.is (.bool true)] (by kernel_rfl) (by kernel_rfl) ?_ ?_
    · intro i hi a w2 hb hev hdep
      rcases (show i = 0 ∨ i = 1 ∨ i = 2 ∨ i = 3 ∨ i = 4 ∨ i = 5 ∨ i = 6 ∨ i = 7 ∨ i = 8 ∨ i = 9 ∨ i = 10 ∨ i = 11 ∨ i = 12 ∨ i = 13 ∨ i = 14 ∨ i = 15 ∨ i = 16 ∨ i = 17 ∨ i = 18 by omega) with rfl | rfl | rfl | rfl | rfl | rfl | rfl | rfl | rfl | rfl | rfl | rfl | rfl | rfl | rfl | rfl | rfl | rfl | rfl
      · have e6 : a.tmps[6]?.getD undef = .int .i64 (p : Nat) := hev 6 rfl
        refine Drawn.wpOp_flow 13 rfl rfl rfl ?_
        clear hev hdep hb
        go_simp
        exact ⟨_, rfl, rfl, Below.refl _ _⟩
      · have e0 : a.tmps[0]?.getD undef = .pointer (some ⟨x, 0, none⟩) := hev 0 rfl
        refine Drawn.wpOp_flow 14 rfl rfl rfl ?_
        clear hev hdep hb
        go_simp
        exact ⟨_, rfl, rfl, Below.refl _ _⟩
      · have d1 : a.tmps[14]?.getD undef = .pointer (some ⟨x, 0, none⟩) := hdep 1 rfl
        refine Drawn.wpOp_flow 15 rfl rfl rfl ?_
        clear hev hdep hb
        go_simp
        exact ⟨_, rfl, rfl, Below.refl _ _⟩
      · have d2 : a.tmps[15]?.getD undef = .pointer (some ⟨x, 0, none⟩) := hdep 2 rfl
        refine Drawn.wpOp_flow 16 rfl rfl rfl ?_
        clear hev hdep hb
        go_simp
        exact ⟨_, rfl, rfl, Below.refl _ _⟩
      · have d3 : a.tmps[16]?.getD undef = .pointer (some ⟨x, 0, none⟩) := hdep 3 rfl
        refine Drawn.wpOp_flow 17 rfl rfl rfl ?_
        have c1 := (hb.cell (p := ⟨x, 0, none⟩) (cell_lt HCELL.out)).trans HCELL.out
        have c2 := (hb.cell (p := ⟨bk, 0, none⟩) (cell_lt HK2.out)).trans HK2.out
        have c3 := (hb.cell (p := ⟨bk, 1, none⟩) (cell_lt HK3.out)).trans HK3.out
        clear hev hdep hb
        go_simp
        exact ⟨_, rfl, rfl, Below.refl _ _⟩
      · have d4 : a.tmps[17]?.getD undef = .slice A p c := hdep 4 rfl
        refine Drawn.wpOp_flow 18 rfl rfl rfl ?_
        clear hev hdep hb
        go_simp
        exact ⟨_, rfl, rfl, Below.refl _ _⟩
      · have d0 : a.tmps[13]?.getD undef = .int .i64 (p : Nat) := hdep 0 rfl
        have d5 : a.tmps[18]?.getD undef = .int .i64 (p : Nat) := hdep 5 rfl
        refine Drawn.wpOp_flow 19 rfl rfl rfl ?_
        clear hev hdep hb
        go_simp
        exact ⟨_, rfl, rfl, Below.refl _ _⟩
      · have d6 : a.tmps[19]?.getD undef = .bool true := hdep 6 rfl
        refine Drawn.wpOp_flow 20 rfl rfl rfl ?_
        clear hev hdep hb
        go_simp
        exact ⟨_, rfl, rfl, Below.refl _ _⟩
      · have dg : a.tmps[20]?.getD undef = .bool true := hdep 7 rfl
        exact Drawn.wpOp_flow_skip 21 rfl (Drawn.unwanted_of rfl rfl rfl dg rfl) rfl rfl
      · have dg : a.tmps[20]?.getD undef = .bool true := hdep 7 rfl
        exact Drawn.wpOp_flow_skip 22 rfl (Drawn.unwanted_of rfl rfl rfl dg rfl) rfl rfl
      · have dg : a.tmps[20]?.getD undef = .bool true := hdep 7 rfl
        exact Drawn.wpOp_flow_skip 23 rfl (Drawn.unwanted_of rfl rfl rfl dg rfl) rfl rfl
      · have dg : a.tmps[20]?.getD undef = .bool true := hdep 7 rfl
        exact Drawn.wpOp_flow_skip 24 rfl (Drawn.unwanted_of rfl rfl rfl dg rfl) rfl rfl
      · have dg : a.tmps[20]?.getD undef = .bool true := hdep 7 rfl
        exact Drawn.wpOp_flow_skip 25 rfl (Drawn.unwanted_of rfl rfl rfl dg rfl) rfl rfl
      · have dg : a.tmps[20]?.getD undef = .bool true := hdep 7 rfl
        exact Drawn.wpOp_flow_skip 26 rfl (Drawn.unwanted_of rfl rfl rfl dg rfl) rfl rfl
      · have dg : a.tmps[20]?.getD undef = .bool true := hdep 7 rfl
        exact Drawn.wpOp_flow_skip 27 rfl (Drawn.unwanted_of rfl rfl rfl dg rfl) rfl rfl
      · have dg : a.tmps[20]?.getD undef = .bool true := hdep 7 rfl
        exact Drawn.wpOp_flow_skip 28 rfl (Drawn.unwanted_of rfl rfl rfl dg rfl) rfl rfl
      · have dg : a.tmps[20]?.getD undef = .bool true := hdep 7 rfl
        exact Drawn.wpOp_flow_skip 29 rfl (Drawn.unwanted_of rfl rfl rfl dg rfl) rfl rfl
      · have dg : a.tmps[20]?.getD undef = .bool true := hdep 7 rfl
        exact Drawn.wpOp_flow_skip 30 rfl (Drawn.unwanted_of rfl rfl rfl dg rfl) rfl rfl
      · have d7 : a.tmps[20]?.getD undef = .bool true := hdep 7 rfl
        have d17 : a.tmps[30]?.getD undef = undef := hdep 17 rfl
        refine Drawn.wpOp_flow 31 rfl rfl rfl ?_
        clear hev hdep hb
        go_simp
        exact ⟨_, rfl, rfl, Below.refl _ _⟩
    · intro xq w2 hb hxq
      have vq0 : xq 0 = .int .i64 (p : Nat) := hxq 0 (by omega)
      have vq1 : xq 1 = .pointer (some ⟨x, 0, none⟩) := hxq 1 (by omega)
      have vq2 : xq 2 = .pointer (some ⟨x, 0, none⟩) := hxq 2 (by omega)
      have vq3 : xq 3 = .pointer (some ⟨x, 0, none⟩) := hxq 3 (by omega)
      have vq4 : xq 4 = .slice A p c := hxq 4 (by omega)
      have vq5 : xq 5 = .int .i64 (p : Nat) := hxq 5 (by omega)
      have vq6 : xq 6 = .bool true := hxq 6 (by omega)
      have vq7 : xq 7 = .bool true := hxq 7 (by omega)
      have vq8 : xq 8 = undef := hxq 8 (by omega)
      have vq9 : xq 9 = undef := hxq 9 (by omega)
      have vq10 : xq 10 = undef := hxq 10 (by omega)
      have vq11 : xq 11 = undef := hxq 11 (by omega)
      have vq12 : xq 12 = undef := hxq 12 (by omega)
      have vq13 : xq 13 = undef := hxq 13 (by omega)
      have vq14 : xq 14 = undef := hxq 14 (by omega)
      have vq15 : xq 15 = undef := hxq 15 (by omega)
      have vq16 : xq 16 = undef := hxq 16 (by omega)
      have vq17 : xq 17 = undef := hxq 17 (by omega)
      have vq18 : xq 18 = .bool true := hxq 18 (by omega)
      show Exit.then _ _ Exit.normal (Drawn.acts _ [(31, some (xq 18)), (30, some (xq 17)), (29, some (xq 16)), (28, some (xq 15)), (27, some (xq 14)), (26, some (xq 13)), (25, some (xq 12)), (24, some (xq 11)), (23, some (xq 10)), (22, some (xq 9)), (21, some (xq 8)), (20, some (xq 7)), (19, some (xq 6)), (18, some (xq 5)), (17, some (xq 4)), (16, some (xq 3)), (15, some (xq 2)), (14, some (xq 1)), (13, some (xq 0))]) _
      rw [vq0, vq1, vq2, vq3, vq4, vq5, vq6, vq7, vq8, vq9, vq10, vq11, vq12, vq13, vq14, vq15, vq16, vq17, vq18]
      clear hxq vq0 vq1 vq2 vq3 vq4 vq5 vq6 vq7 vq8 vq9 vq10 vq11 vq12 vq13 vq14 vq15 vq16 vq17 vq18
      clear xq
      simp only [Drawn.acts]
      go_simp
      have HB2 := Lib.hid hb
      have HT2 := Lib.hid (HT.out.below hb)
      clear hb
      go_at_K
      go_wp2_with (first | (refine wpList_store_en rfl _ _ rfl bt ⟨#[]⟩ 0 0 0 rfl rfl ⟨#[]⟩ 0 0 0 HT2.out ?_; intro w3 he3 hk3))
      exact Go.bodyPost_ret (results_en2 rfl _ _ bt ⟨#[]⟩ 0 0 0 rfl he3 _ rfl) rfl ⟨rfl, below_keeps1 HB0.out (bstep HB1.out HB2.out) hk3 hbt⟩
theorem find_any (x : Nat) (v : Value) (l : List En) (kn : ByteArray) (kr : Int) (B : Nat) (w : World) (h : IxAt w B x v l) :
    Calls Try.prog 13 #[.pointer (some ⟨x, 0, none⟩), .agg #[.string kn, .int .i64 kr]] w (Told (got l (kn, kr)) (has l (kn, kr)) w) := by
  obtain ⟨A, c, rfl, -⟩ := h.own.ents
  exact find_at_ x A _ c l kn kr B _ w h rfl rfl _ _ rfl rfl
end Go.Proofs.Ytnjdioghjjaegaa.Index

/- package index: entries copied, appended in place, cleared; slices.Clone, All -/
set_option maxRecDepth 100000
namespace Go.Proofs.Ytnjdioghjjaegaa.Index
open Go.RowKit IdxM Ents

theorem en_info : (Try.prog.info? 35).map (fun i => (i.zero, i.size, i.bytes)) = some (some (.agg #[.string ByteArray.empty, .int .i64 0, .int .i64 0, .int .i64 0]), 4, 40) := by kernel_rfl
theorem en_info' : ∃ i, Try.prog.info? 35 = some i ∧ i.zero = some (.agg #[.string ByteArray.empty, .int .i64 0, .int .i64 0, .int .i64 0]) ∧ i.size = 4 ∧ i.bytes = 40 := by
  obtain ⟨i0, h, a, b, c⟩ := info_parts en_info
  exact ⟨i0, h, a, b, c⟩
theorem zero_cells : (Value.agg #[.string ByteArray.empty, .int .i64 0, .int .i64 0, .int .i64 0]).cells.size = 4 := rfl

/-- a list in a block of its own: room for cap entries, of which the first are l -/
structure RowE (w : World) (g cap : Nat) (l : List En) : Prop where
  row : ∃ cur, w.heap[g]? = some (.cells cur 35 (0, 0)) ∧ cur.size = cap * 4 ∧ cur.toList.take (l.length * 4) = flat l
  le : l.length ≤ cap
  most : cap ≤ maxLen
section
variable {w w' : World} {g cap B : Nat} {l ys : List En}
theorem OwnEn.rowE {v : Value} (h : OwnEn w B 35 v l) : v = .slice none 0 0 ∧ l = [] ∨ ∃ g cap, v = .slice (some ⟨g, 0, none⟩) l.length cap ∧ B ≤ g ∧ RowE w g cap l := by
  rcases h.2 with ⟨rfl, hn⟩ | ⟨g, cap, cur, rfl, hg, h3, h4, h5, h6, h7⟩
  · exact .inl ⟨rfl, List.eq_nil_of_length_eq_zero hn⟩
  · exact .inr ⟨g, cap, rfl, hg, ⟨cur, h3, h6, h7⟩, h4, h5⟩
theorem RowE.own (h : RowE w g cap l) (hB : B ≤ g) : OwnEn w B 35 (.slice (some ⟨g, 0, none⟩) l.length cap) l := by
  obtain ⟨cur, h1, h2, h3⟩ := h.row
  exact ⟨by rw [flat_len], .inr ⟨g, cap, cur, rfl, hB, h1, h.le, h.most, h2, h3⟩⟩
theorem RowE.lt (h : RowE w g cap l) : g < w.heap.size := by
  obtain ⟨cur, h1, _⟩ := h.row
  exact (Array.getElem?_eq_some_iff.1 h1).1
theorem RowE.keep {F : Nat → Prop} (h : RowE w g cap l) (q : Keeps F w w') (hF : ¬ F g) : RowE w' g cap l := by
  obtain ⟨cur, h1, h2, h3⟩ := h.row
  exact ⟨⟨cur, (q.block g h.lt hF).trans h1, h2, h3⟩, h.le, h.most⟩
theorem RowE.below (h : RowE w g cap l) (hb : Below w.heap.size w w') : RowE w' g cap l := h.keep (F := fun _ => False) (.of_below _ hb) id
theorem RowE.ents (h : RowE w g cap l) : EntsAt w (some ⟨g, 0, none⟩) l := by
  obtain ⟨cur, h1, h2, h3⟩ := h.row
  refine EntsAt.of_cells fun j u hj => ?_
  have hjl : j < (flat l).length := by
    rcases Nat.lt_or_ge j (flat l).length with q | q
    · exact q
    · rw [List.getElem?_eq_none q] at hj; cases hj
  rw [flat_len] at hjl
  rw [← h3, List.getElem?_take, if_pos hjl] at hj
  rw [Nat.zero_add, cell_of_row w g j cur _ (0, 0) h1, ← hj]; simp
theorem RowE.shorter (h : RowE w g cap l) (k : Nat) : RowE w g cap (l.take k) := by
  obtain ⟨cur, h1, h2, h3⟩ := h.row
  have hl : (l.take k).length ≤ l.length := by rw [List.length_take]; omega
  refine ⟨⟨cur, h1, h2, ?_⟩, Nat.le_trans hl h.le, h.most⟩
  have e : cur.toList.take ((l.take k).length * 4) = (cur.toList.take (l.length * 4)).take ((l.take k).length * 4) := by rw [List.take_take]; congr 1; omega
  rw [e, h3, flat_take, List.length_take]
  congr 1
  by_cases hk : k ≤ l.length
  · rw [Nat.min_eq_left hk]
  · rw [Nat.min_eq_right (by omega), List.take_length, List.take_of_length_le (by omega)]
/-- a store of cells behind the first k entries -/
theorem row_store {cur : Array Value} {k o : Nat} {vs : List Value} (hk : k * 4 ≤ o) (ho : o + vs.length ≤ cur.size) : (cur.toList.take o ++ vs ++ cur.toList.drop (o + vs.length)).length = cur.size ∧ (cur.toList.take o ++ vs ++ cur.toList.drop (o + vs.length)).take (k * 4) = cur.toList.take (k * 4) := by
  have hs : cur.toList.length = cur.size := Array.length_toList
  refine ⟨by simp; omega, ?_⟩
  rw [List.append_assoc, List.take_append_of_le_length (by rw [List.length_take]; omega), List.take_take, Nat.min_eq_left hk]
theorem run_append_in (h : RowE w g cap l) {a : Addr} {c : Nat} (hy : EntsAt w (some a) ys) (hroom : l.length + ys.length ≤ cap) (ty : TypeId) :
    ∃ w', (Builtin.append_ #[43, 43] ty #[.slice (some ⟨g, 0, none⟩) l.length cap, .slice (some a) ys.length c]).run Try.prog w = .ok (.slice (some ⟨g, 0, none⟩) (l.length + ys.length) cap) w' ∧ RowE w' g cap (l ++ ys) ∧ Keeps (fun k => k = g) w w' := by
  obtain ⟨cur, h1, h2, h3⟩ := h.row
  obtain ⟨i, hi, hz, hs, hb⟩ := en_info'
  have hnews : ∀ j u, (flat ys)[j]? = some u → w.cell? (a.add j) = some u := by
    by_cases h0 : 0 < ys.length
    · obtain ⟨b, o, e, hc⟩ := hy.cell h0
      injection e with e; subst e
      exact fun j u hj => by rw [add_lit_]; exact hc j u hj
    · have : ys = [] := List.eq_nil_of_length_eq_zero (by omega)
      subst this
      exact fun j u hj => by simp [flat] at hj
  have hfl : (flat ys).length = ys.length * i.size := by rw [flat_len, hs]
  have hfit : l.length * i.size + (flat ys).length ≤ cur.size := by rw [flat_len, hs, h2]; omega
  have hr := run_append_room (P := Try.prog) w 43 ty 35 i Try.underlying43 hi g l.length cap cur h1 a ys.length c (flat ys) hfl hnews (flat_one ys) hroom hfit
  refine ⟨_, hr, ⟨⟨_, setRow_heap w g _ _ _ (0, 0) h1, ?_, ?_⟩, by rw [List.length_append]; exact hroom, h.most⟩, keeps_setRow w g _⟩
  · rw [hs] at hfit ⊢
    have := (row_store (cur := cur) (k := l.length) (Nat.le_refl _) hfit).1
    rw [← h2, ← this]; simp
  · rw [hs]
    simp only
    rw [List.length_append, flat_app, h3, List.take_append_of_le_length (by simp [flat_len]; omega), List.take_of_length_le (by simp [flat_len]; omega)]
theorem run_clear_in (h : RowE w g cap l) {o n c : Nat} (h0 : 0 < n) (ho : l.length * 4 ≤ o) (hfit : o + n * 4 ≤ cap * 4) (ty : TypeId) :
    ∃ w', (Builtin.clear_ #[43] ty #[.slice (some ⟨g, o, none⟩) n c]).run Try.prog w = .ok (.tuple #[]) w' ∧ RowE w' g cap l ∧ Keeps (fun k => k = g) w w' := by
  obtain ⟨cur, h1, h2, h3⟩ := h.row
  have hv : ∀ w, (zeroValue 35).run Try.prog w = .ok (.agg #[.string ByteArray.empty, .int .i64 0, .int .i64 0, .int .i64 0]) w := fun w => by kernel_rfl
  obtain ⟨zs, hzs⟩ : ∃ zs, zs = (Builtin.zeroCells (Value.agg #[.string ByteArray.empty, .int .i64 0, .int .i64 0, .int .i64 0]).cells n).toList := ⟨_, rfl⟩
  have hzl : zs.length = n * 4 := by rw [hzs]; simp [Builtin.zeroCells, Value.cells]
  have hz1 : ∀ v ∈ zs, v.oneCell' = true := by
    intro v hv
    rw [hzs] at hv
    simp [Builtin.zeroCells, Value.cells] at hv
    obtain ⟨k, _, hk⟩ := hv
    rcases (show k % 4 = 0 ∨ k % 4 = 1 ∨ k % 4 = 2 ∨ k % 4 = 3 by omega) with q | q | q | q <;> (simp [q] at hk; subst hk; rfl)
  have hst := run_storeCells_at Try.prog g o 35 zs 0 cur w h1 (by rw [hzl, h2]; simpa using hfit) hz1
  simp only [Nat.add_zero] at hst
  obtain ⟨m, rfl⟩ : ∃ m, n = m + 1 := ⟨n - 1, by omega⟩
  have hrs := row_store (cur := cur) (k := l.length) (vs := zs) ho (by rw [hzl, h2]; exact hfit)
  refine ⟨w.setRow g (cur.toList.take o ++ zs ++ cur.toList.drop (o + zs.length)).toArray, ?_, ⟨⟨_, setRow_heap w g _ _ _ (0, 0) h1, ?_, ?_⟩, h.le, h.most⟩, keeps_setRow w g _⟩
  · simp [Builtin.clear_, run_underlying Try.underlying43, hv]
    rw [← hzs, hst, List.append_assoc]
    rfl
  · have := hrs.1
    rw [← h2, ← this]; simp
  · simp only
    rw [hrs.2, h3]
end
section
variable {ops : Array Oper} {rest : List Oper} {o : Oper} {a : Act} {w : World} {Q : Exit → Act → World → Prop}
theorem wpList_append_run (hgd : o.guard = none) (s x : Operand) (T : TypeId) (ho : o.op = .call { callee := .builtin .append, args := #[s, x], argTypes := #[T, T] }) (v u : Value) (hs : a.eval s = v) (hx : a.eval x = u) {v' : Value} {w' : World}
    (hr : (Builtin.append_ #[T, T] o.type #[v, u]).run Try.prog w = .ok v' w') (h : wpList Try.prog ops Q rest (a.put o.dst v') w') : wpList Try.prog ops Q (o :: rest) a w :=
  wpList_plain hgd fun _ hK => by
    unfold Oper.wp execOp
    simp only [ho, resolve, invoke, builtin, Sem.run_bind, Sem.run_pure, Result.andThen_ok, List.map_toArray, List.map_cons, List.map_nil, hs, hx, hr]
    exact hK _ _ h
theorem wpList_clear_run (hgd : o.guard = none) (s : Operand) (T : TypeId) (ho : o.op = .call { callee := .builtin .clear, args := #[s], argTypes := #[T] }) (v : Value) (hs : a.eval s = v) {v' : Value} {w' : World}
    (hr : (Builtin.clear_ #[T] o.type #[v]).run Try.prog w = .ok v' w') (h : wpList Try.prog ops Q rest (a.put o.dst v') w') : wpList Try.prog ops Q (o :: rest) a w :=
  wpList_plain hgd fun _ hK => by
    unfold Oper.wp execOp
    simp only [ho, resolve, invoke, builtin, Sem.run_bind, Sem.run_pure, Result.andThen_ok, List.map_toArray, List.map_cons, List.map_nil, hs, hr]
    exact hK _ _ h
theorem wpList_copy_run (hgd : o.guard = none) (s x : Operand) (T : TypeId) (ho : o.op = .call { callee := .builtin .copy, args := #[s, x], argTypes := #[T, T] }) (v u : Value) (hs : a.eval s = v) (hx : a.eval x = u) {v' : Value} {w' : World}
    (hr : (Builtin.copy_ #[T, T] o.type #[v, u]).run Try.prog w = .ok v' w') (h : wpList Try.prog ops Q rest (a.put o.dst v') w') : wpList Try.prog ops Q (o :: rest) a w :=
  wpList_plain hgd fun _ hK => by
    unfold Oper.wp execOp
    simp only [ho, resolve, invoke, builtin, Sem.run_bind, Sem.run_pure, Result.andThen_ok, List.map_toArray, List.map_cons, List.map_nil, hs, hx, hr]
    exact hK _ _ h
end
/-- entries of a new list, of the call's own -/
def RetEn (w : World) (l : List En) (e : Ending) (w' : World) : Prop := ∃ v, e = .returned v ∧ OwnEn w' w.heap.size 35 v l ∧ Below w.heap.size w w'
theorem clone_any (A : Option Addr) (l : List En) (n c : Nat) (w : World) (hA : EntsAt w A l) (hn : l.length = n) (hl : n ≤ 1048576) :
    Calls Try.prog 24 #[.slice A n c] w (RetEn w l) := by
  rcases A with _ | a
  · have : l = [] := by
      rcases l with _ | ⟨x, l⟩
      · rfl
      · obtain ⟨b, o, e, _⟩ := hA 0 (by simp); cases e
    subst this
    have q : (binOp .eql 43 (.slice none n c) (.slice none 0 0)).run Try.prog w = .ok (.bool true) w := Lib.run_eql_slice_nil w _ _ none n c 0 0 Try.underlying43
    go_enter Try.func24, Try.ntmps24
    go_wp2
    go_ret
    exact ⟨_, rfl, OwnEn.nil _ _ _, Below.refl _ _⟩
  · obtain ⟨i, hi, hz, hs, hb⟩ := en_info'
    have hA1 := Lib.hid (hA.below (balloc w (.cells #[] 35)))
    have HE := Lib.hid (OwnEn.empty w w.heap.size 35 (Nat.le_refl _))
    have HN := Lib.hid hn
    have HI := Lib.hid hi; have HZ := Lib.hid hz; have HS := Lib.hid hs; have HBY := Lib.hid hb
    have hsz : (w.alloc (.cells #[] 35)).heap.size = w.heap.size + 1 := by simp
    have q : (binOp .eql 43 (.slice (some a) n c) (.slice none 0 0)).run Try.prog w = .ok (.bool false) w := Lib.run_eql_slice_nil w _ _ (some a) n c 0 0 Try.underlying43
    clear hA hn hi hz hs hb
    go_enter Try.func24, Try.ntmps24
    go_wp2_with (first | (refine wpList_append_ents Try.underlying43 HI.out HZ.out HS.out HBY.out zero_cells rfl _ _ rfl w.heap.size _ [] rfl HE.out (some a) n c l rfl HN.out hA1.out (by simp; omega) (by omega) (by rw [hsz]; omega) ?_; intro v' w1 ha))
    have hb1 := ha.below HE.out (balloc w (.cells #[] 35)) (Nat.le_refl _) (by rw [hsz]; omega)
    have ho := ha.own
    rw [List.nil_append] at ho
    have HO := Lib.hid ho; have HB1 := Lib.hid hb1
    clear ha ho hb1
    go_wp2
    go_ret
    exact ⟨_, rfl, HO.out, HB1.out⟩
theorem all_nil (w : World) : Calls Try.prog 15 #[.pointer none] w fun e w' => e = .returned (.slice none 0 0) ∧ w' = w := by
  go_enter Try.func15, Try.ntmps15
  go_wp2
  go_ret
  exact ⟨rfl, rfl⟩
theorem all_any (x : Nat) (v : Value) (l : List En) (B : Nat) (w : World) (h : IxAt w B x v l) : Calls Try.prog 15 #[.pointer (some ⟨x, 0, none⟩)] w (RetEn w l) := by
  obtain ⟨A, c, rfl, _, _, hA, _⟩ := h.own.ents
  have HC := Lib.hid (clone_any A l _ c w hA rfl h.few)
  have c0 := h.cell
  clear h hA
  generalize l.length = n at *
  go_enter Try.func15, Try.ntmps15
  go_wp2_with fail
  refine HC.out.mono ?_
  rintro e w1 ⟨v, rfl, ho, hb⟩
  have HO := Lib.hid ho; have HB := Lib.hid hb
  clear ho hb
  go_wp2
  go_ret
  exact ⟨_, rfl, HO.out, HB.out⟩
end Go.Proofs.Ytnjdioghjjaegaa.Index
