/- package super: what is Blank, what is a state, what is written, what is said -/
import Derived.Test.YtmpkcnbphlfdcaaMSE
import Derived.Test.YtmpkcnbphlfdcaaPack
import Derived.Test.YtmpkcnbphlfdcaaEqual
import Derived.Test.YtmpkcnbphlfdcaaSupMathB
import Derived.Test.YtmpkcnbphlfdcaaFlow
import Derived.ChangeKeysEq
set_option maxRecDepth 100000
namespace Go.Proofs.Ytmpkcnbphlfdcaa.Super
open Go.RowKit SupM

/-- numbers of an int -/
def I64 (z : Int) : Prop := -9223372036854775808 ≤ z ∧ z ≤ 9223372036854775807
def Fits (s : Sp) : Prop := I64 s.F ∧ I64 s.D ∧ I64 s.S
/-- what a node knows of itself, as a value -/
def _root_.Go.Proofs.Ytmpkcnbphlfdcaa.SupM.Sp.val (s : Sp) : Value := .agg #[.int .i64 s.F, .int .i64 s.D, .int .i64 s.S]
/-- where it lies -/
structure SpAt (w : World) (g : Nat) (F D S : Int) : Prop where
  c0 : w.cell? ⟨g, 0, none⟩ = some (.int .i64 F)
  c1 : w.cell? ⟨g, 1, none⟩ = some (.int .i64 D)
  c2 : w.cell? ⟨g, 2, none⟩ = some (.int .i64 S)
theorem SpAt.below {w w' : World} {g : Nat} {F D S : Int} (h : SpAt w g F D S) (hb : Below w.heap.size w w') : SpAt w' g F D S :=
  ⟨(hb.cell (p := ⟨g, 0, none⟩) (cell_lt h.c0)).trans h.c0, (hb.cell (p := ⟨g, 1, none⟩) (cell_lt h.c1)).trans h.c1, (hb.cell (p := ⟨g, 2, none⟩) (cell_lt h.c2)).trans h.c2⟩
theorem SpAt.keep {K : Nat → Prop} {w w' : World} {g : Nat} {F D S : Int} (h : SpAt w g F D S) (q : Keeps K w w') (hg : ¬ K g) : SpAt w' g F D S :=
  ⟨q.cell h.c0 hg, q.cell h.c1 hg, q.cell h.c2 hg⟩
theorem SpAt.keepB {w w' : World} {g B : Nat} {F D S : Int} (h : SpAt w g F D S) (hb : Below B w w') (hg : g < B) : SpAt w' g F D S :=
  ⟨(hb.cell (p := ⟨g, 0, none⟩) hg).trans h.c0, (hb.cell (p := ⟨g, 1, none⟩) hg).trans h.c1, (hb.cell (p := ⟨g, 2, none⟩) hg).trans h.c2⟩
theorem SpAt.new (w : World) (F D S : Int) (t : TypeId) : SpAt (w.alloc (.cells #[.int .i64 F, .int .i64 D, .int .i64 S] t)) w.heap.size F D S :=
  ⟨by simp, by simp, by simp⟩
theorem load_sup (w : World) (g : Nat) (F D S : Int) (h : SpAt w g F D S) : (loadVar 23 ⟨g, 0, none⟩).run Try.prog w = .ok (.agg #[.int .i64 F, .int .i64 D, .int .i64 S]) w := by
  have c0 := h.c0; have c1 := h.c1; have c2 := h.c2
  clear h
  go_simp
/-- a result that lies in such a block -/
theorem results_sup1 {fn : Func} {p : Tmp} (h : fn.results = #[.cell p 23]) (tmps : Array Value) (w : World) (g : Nat) (F D S : Int) (hp : tmps.getD p undef = .pointer (some ⟨g, 0, none⟩)) (hs : SpAt w g F D S) :
    (results fn tmps).run Try.prog w = .ok (.agg #[.int .i64 F, .int .i64 D, .int .i64 S]) w := by
  have hp' : tmps[p]?.getD undef = .pointer (some ⟨g, 0, none⟩) := by simpa using hp
  simp [results, h, hp', asAddr, load_sup w g F D S hs]
/-- and another one beside it -/
theorem results_sup2 {fn : Func} {p u : Tmp} (h : fn.results = #[.cell p 23, .tmp u]) (tmps : Array Value) (w : World) (g : Nat) (F D S : Int) (hp : tmps.getD p undef = .pointer (some ⟨g, 0, none⟩)) (hs : SpAt w g F D S) (v : Value) (hv : tmps.getD u undef = v) :
    (results fn tmps).run Try.prog w = .ok (.tuple #[.agg #[.int .i64 F, .int .i64 D, .int .i64 S], v]) w := by
  rw [results_cell_tmp h, hp, hv]
  simp only [asAddr, Sem.run_pure, Result.andThen_ok, load_sup w g F D S hs]
theorem eql_sup (a b c d e f : Int) (w : World) : (Op.equalIn 10000 23 (.agg #[.int .i64 a, .int .i64 b, .int .i64 c]) (.agg #[.int .i64 d, .int .i64 e, .int .i64 f])).run Try.prog w = .ok (decide ((⟨a, b, c⟩ : Sp) = ⟨d, e, f⟩)) w := by
  have hu : Try.prog.underlying 23 = some (.struct (Try.prog.fieldsOf 23)) := by kernel_rfl
  have hg : Try.prog.stoodInHeld 23 = false := by kernel_rfl
  have hi : ∀ x y : Int, ∀ W : World, (Op.equalIn 9999 3 (.int .i64 x) (.int .i64 y)).run Try.prog W = .ok (x == y) W := fun x y W => run_equalIn_int W 9998 _ _ _ x y Try.underlying3
  have hd : decide ((⟨a, b, c⟩ : Sp) = ⟨d, e, f⟩) = ((a == d) && ((b == e) && (c == f))) := by
    rw [Bool.eq_iff_iff]; simp
  rw [hd, show (10000 : Nat) = 9999 + 1 from rfl, run_equalIn_struct w 9999 _ _ _ hu hg]
  obtain ⟨f0, f1, f2, hf, n0, n1, n2, t0, t1, t2, o0, o1, o2⟩ : ∃ f0 f1 f2, (Try.prog.fieldsOf 23).toList = [f0, f1, f2] ∧ f0.name ≠ "_" ∧ f1.name ≠ "_" ∧ f2.name ≠ "_" ∧ f0.type = 3 ∧ f1.type = 3 ∧ f2.type = 3 ∧ f0.offset = 0 ∧ f1.offset = 1 ∧ f2.offset = 2 :=
    ⟨⟨"Fence", 3, 0, false, "", "", 0⟩, ⟨"Dealt", 3, 1, false, "", "", 8⟩, ⟨"State", 3, 2, false, "", "", 16⟩, by kernel_rfl, by decide, by decide, by decide, rfl, rfl, rfl, rfl, rfl, rfl⟩
  rw [hf]
  have p : ∀ (xs : Array Value) (k : Nat) (z : Int) (W : World), xs[k]? = some (.int .i64 z) → (part 3 xs k).run Try.prog W = .ok (.int .i64 z) W := fun xs k z W h => by
    exact run_part_plain (P := Try.prog) W (by kernel_rfl) h
  simp only [Op.eqFields, n0, n1, n2, t0, t1, t2, o0, o1, o2, ne_eq, not_false_eq_true, if_true, Sem.run_bind, Sem.run_ite, Sem.run_pure]
  rw [p _ 0 a w rfl]
  simp only [Result.andThen_ok]
  rw [p _ 0 d w rfl]
  simp only [Result.andThen_ok]
  rw [hi a d w]
  simp only [Result.andThen_ok]
  cases h1 : (a == d)
  · rfl
  simp only [Bool.not_true, Bool.false_eq_true, if_false]
  rw [p _ 1 b w rfl]
  simp only [Result.andThen_ok]
  rw [p _ 1 e w rfl]
  simp only [Result.andThen_ok]
  rw [hi b e w]
  simp only [Result.andThen_ok]
  cases h2 : (b == e)
  · rfl
  simp only [Bool.not_true, Bool.false_eq_true, if_false]
  rw [p _ 2 c w rfl]
  simp only [Result.andThen_ok]
  rw [p _ 2 f w rfl]
  simp only [Result.andThen_ok]
  rw [hi c f w]
  simp only [Result.andThen_ok]
  cases h3 : (c == f) <;> rfl
theorem sup_guard : Try.prog.eqGuardType Try.prog.depth 23 = false := by kernel_rfl
theorem blank_any (F D S : Int) (w : World) : Calls Try.prog 16 #[.agg #[.int .i64 F, .int .i64 D, .int .i64 S]] w fun e w' => e = .returned (.bool (decide ((⟨F, D, S⟩ : Sp) = ⟨0, 0, 0⟩))) ∧ Below w.heap.size w w' := by
  have hq := eql_sup F D S 0 0 0
  have hg := sup_guard
  generalize decide ((⟨F, D, S⟩ : Sp) = ⟨0, 0, 0⟩) = z at *
  go_enter Try.func16, Try.ntmps16
  go_wp2
  go_ret
  exact ⟨rfl, balloc _ _⟩
theorem state_any (n : Int) (w : World) : Calls Try.prog 21 #[.int .i64 n] w fun e w' => e = .returned (.bool (decide (n = 1) || decide (n = 2))) ∧ Below w.heap.size w w' := by
  by_cases h1 : n = 1
  · subst h1
    go_enter Try.func21, Try.ntmps21
    go_wp2
    go_ret
    exact ⟨rfl, Below.refl _ _⟩
  · have q1 : (n == 1) = false := by simpa using h1
    have q2 : (n == 2) = decide (n = 2) := rfl
    rw [decide_eq_false h1, Bool.false_or]
    generalize decide (n = 2) = z at *
    clear h1
    go_enter Try.func21, Try.ntmps21
    go_wp2
    go_ret
    exact ⟨rfl, Below.refl _ _⟩

/-- ahead of a Writer's next call: what it holds, and that nothing else was written -/
structure Wrt (w0 w : World) (g p : Nat) (F D S : Int) (v : Value) (l : List UInt8) : Prop where
  at_ : Pack.WAt w g g v l
  below : Below w0.heap.size w0 w
  first : w0.heap.size ≤ p
  ne : p < g
  sp : SpAt w p F D S
theorem Wrt.lt {w0 w : World} {g p : Nat} {F D S : Int} {v : Value} {l : List UInt8} (h : Wrt w0 w g p F D S v l) : g ≤ w.heap.size := by have := h.at_.lt; omega
theorem Wrt.next {w0 w w' : World} {g p : Nat} {F D S : Int} {v : Value} {l m : List UInt8} {e : Ending} (h : Wrt w0 w g p F D S v l) (k : Pack.WPost w g g v m e w') : e = .returned (.tuple #[]) ∧ ∃ v', Wrt w0 w' g p F D S v' m := by
  obtain ⟨he, v', h1, q1, _⟩ := k
  have hf := h.first; have hn := h.ne
  exact ⟨he, v', h1, Pack.below_w h.at_ h.below q1 (by omega) (by omega) h.below.size, hf, hn, h.sp.keep q1 (fun hk => by
    rcases hk with rfl | hk
    · omega
    · have := (h.at_.own.lt _ hk).1; omega)⟩
theorem Wrt.start (w : World) (F D S : Int) (t u : TypeId) : Wrt w ((w.alloc (.cells #[.int .i64 F, .int .i64 D, .int .i64 S] t)).alloc (.cells #[.slice none 0 0] u)) (w.heap.size + 1) w.heap.size F D S (.slice none 0 0) [] := by
  have h := Pack.WAt.start (w.alloc (.cells #[.int .i64 F, .int .i64 D, .int .i64 S] t)) u
  have e : (w.alloc (.cells #[.int .i64 F, .int .i64 D, .int .i64 S] t)).heap.size = w.heap.size + 1 := by simp
  rw [e] at h
  exact ⟨h, bstep (balloc w _) (balloc _ _), Nat.le_refl _, by omega, (SpAt.new w F D S t).below (balloc _ _)⟩
theorem written_any (F D S : Int) (hi : Fits ⟨F, D, S⟩) (w : World) : Calls Try.prog 19 #[.agg #[.int .i64 F, .int .i64 D, .int .i64 S]] w (RetNew w (wr ⟨F, D, S⟩)) := by
  obtain ⟨iF, iD, iS⟩ := hi
  unfold I64 at iF iD iS
  simp only at iF iD iS
  have l1 : (PackM.numB 1 83).length = 1 := PackM.numB_len _ _
  have l2 : (PackM.numB 1 83 ++ PackM.numB 1 S).length = 2 := by rw [List.length_append, PackM.numB_len, PackM.numB_len]; rfl
  have l3 : (PackM.numB 1 83 ++ PackM.numB 1 S ++ PackM.numB 4 F).length = 6 := by rw [List.length_append, l2, PackM.numB_len]; rfl
  have l4 : (wr ⟨F, D, S⟩).length = 10 := wr_len _
  have e4 : wr ⟨F, D, S⟩ = PackM.numB 1 83 ++ PackM.numB 1 S ++ PackM.numB 4 F ++ PackM.numB 4 D := rfl
  have C1 := Lib.hid (fun W g v h hb => Pack.wnum_any g g v [] 1 83 W h (by simp) hb (by omega))
  have C2 := Lib.hid (fun W g v h hb => Pack.wnum_any g g v (PackM.numB 1 83) 1 S W h (by omega) hb iS)
  have C3 := Lib.hid (fun W g v h hb => Pack.wnum_any g g v (PackM.numB 1 83 ++ PackM.numB 1 S) 4 F W h (by omega) hb iF)
  have C4 := Lib.hid (fun W g v h hb => Pack.wnum_any g g v (PackM.numB 1 83 ++ PackM.numB 1 S ++ PackM.numB 4 F) 4 D W h (by omega) hb iD)
  have C5 := Lib.hid (fun W g v h => Pack.wbytes_any g g v (wr ⟨F, D, S⟩) W h (by omega))
  rw [List.nil_append] at C1
  rw [← e4] at C4
  generalize wr ⟨F, D, S⟩ = L4 at *
  generalize PackM.numB 1 83 ++ PackM.numB 1 S ++ PackM.numB 4 F = L3 at *
  generalize PackM.numB 1 83 ++ PackM.numB 1 S = L2 at *
  generalize PackM.numB 1 83 = L1 at *
  clear l1 l2 l3 l4 e4 iF iD iS
  go_enter Try.func19, Try.ntmps19
  go_wp2_with fail
  have h0 := Wrt.start w F D S 23 59
  obtain ⟨g, hg⟩ : ∃ g, g = w.heap.size + 1 := ⟨_, rfl⟩
  obtain ⟨p, hp⟩ : ∃ p, p = w.heap.size := ⟨_, rfl⟩
  rw [← hg] at h0 ⊢
  generalize (w.alloc (.cells #[.int .i64 F, .int .i64 D, .int .i64 S] 23)).alloc (.cells #[.slice none 0 0] 59) = w1 at *
  have H0 : Hid (Wrt w w1 g p F D S (.slice none 0 0) []) := Lib.hid (by rw [hp]; exact h0)
  rw [← hp]
  clear h0 hg hp
  refine (C1.out w1 g _ H0.out.at_ H0.out.lt).mono ?_
  rintro e w2 k
  obtain ⟨rfl, v2, h2⟩ := H0.out.next k
  have H2 := Lib.hid h2
  have c2 := h2.sp.c2
  clear h2 k H0 C1
  go_wp2_with fail
  refine (C2.out w2 g _ H2.out.at_ H2.out.lt).mono ?_
  rintro e w3 k
  obtain ⟨rfl, v3, h3⟩ := H2.out.next k
  have H3 := Lib.hid h3
  have c0 := h3.sp.c0
  clear h3 k H2 C2 c2
  go_wp2_with fail
  refine (C3.out w3 g _ H3.out.at_ H3.out.lt).mono ?_
  rintro e w4 k
  obtain ⟨rfl, v4, h4⟩ := H3.out.next k
  have H4 := Lib.hid h4
  have c1 := h4.sp.c1
  clear h4 k H3 C3 c0
  go_wp2_with fail
  refine (C4.out w4 g _ H4.out.at_ H4.out.lt).mono ?_
  rintro e w5 k
  obtain ⟨rfl, v5, h5⟩ := H4.out.next k
  have H5 := Lib.hid h5
  clear h5 k H4 C4 c1
  go_wp2_with fail
  refine (C5.out w5 g _ H5.out.at_).mono ?_
  rintro e w6 ⟨X, d, rfl, g1, g2, g3, hb, hn⟩
  have G3 := Lib.hid g3; have HN := Lib.hid hn
  clear g3 hn
  go_wp2
  go_ret
  exact ⟨X, d, rfl, g1, g2, G3.out, bstep H5.out.below hb, HN.out.mono H5.out.below.size⟩
end Go.Proofs.Ytmpkcnbphlfdcaa.Super
