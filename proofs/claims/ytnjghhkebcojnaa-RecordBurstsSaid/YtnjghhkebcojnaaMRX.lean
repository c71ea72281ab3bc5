/- merged: RecA, RecB, RecC, RecD, RecE, RecF, RecG, RecH, RecI, RecJ -/
import Derived.Test.YtnjghhkebcojnaaMRM
import Derived.Test.YtnjghhkebcojnaaEqual
import Derived.Test.YtnjghhkebcojnaaLabelC
import Derived.Test.YtnjghhkebcojnaaFlow
import Derived.Test.YtnjghhkebcojnaaArr
import Derived.Test.YtnjghhkebcojnaaR01
import Derived.Test.YtnjghhkebcojnaaMEG

/- package record: how a record lies in memory; Role, isBallot, isLength, isAsItsKind, Right, Count, Same -/
set_option maxRecDepth 100000
namespace Go.Proofs.Ytnjghhkebcojnaa.Record
open Go.RowKit RecM

/-- numbers of an int, a text of any size -/
structure Fits (h : Hd) : Prop where
  k : -9223372036854775808 ≤ h.K ∧ h.K ≤ 9223372036854775807
  s : h.s.size ≤ 9223372036854775807
  a : -9223372036854775808 ≤ h.A ∧ h.A ≤ 9223372036854775807
  e : -9223372036854775808 ≤ h.E ∧ h.E ≤ 9223372036854775807
  m : -9223372036854775808 ≤ h.M ∧ h.M ≤ 9223372036854775807
  z : -9223372036854775808 ≤ h.S ∧ h.S ≤ 9223372036854775807
/-- a record in block g -/
def RecB (w : World) (g : Nat) (h : Hd) (B : Option Addr) (n c : Nat) : Prop := w.heap[g]? = some (.cells #[.int .i64 h.K, .string h.s, .int .i64 h.A, .int .i64 h.E, .int .i64 h.M, .int .i64 h.S, .slice B n c] 24 (0, 0))
section
variable {w w' : World} {g : Nat} {h : Hd} {B : Option Addr} {n c : Nat}
theorem RecB.lt (k : RecB w g h B n c) : g < w.heap.size := (Array.getElem?_eq_some_iff.1 k).1
theorem RecB.c0 (k : RecB w g h B n c) : w.cell? ⟨g, 0, none⟩ = some (.int .i64 h.K) := by rw [cell_of_row w g 0 _ 24 (0, 0) k]; rfl
theorem RecB.c1 (k : RecB w g h B n c) : w.cell? ⟨g, 1, none⟩ = some (.string h.s) := by rw [cell_of_row w g 1 _ 24 (0, 0) k]; rfl
theorem RecB.c2 (k : RecB w g h B n c) : w.cell? ⟨g, 2, none⟩ = some (.int .i64 h.A) := by rw [cell_of_row w g 2 _ 24 (0, 0) k]; rfl
theorem RecB.c3 (k : RecB w g h B n c) : w.cell? ⟨g, 3, none⟩ = some (.int .i64 h.E) := by rw [cell_of_row w g 3 _ 24 (0, 0) k]; rfl
theorem RecB.c4 (k : RecB w g h B n c) : w.cell? ⟨g, 4, none⟩ = some (.int .i64 h.M) := by rw [cell_of_row w g 4 _ 24 (0, 0) k]; rfl
theorem RecB.c5 (k : RecB w g h B n c) : w.cell? ⟨g, 5, none⟩ = some (.int .i64 h.S) := by rw [cell_of_row w g 5 _ 24 (0, 0) k]; rfl
theorem RecB.c6 (k : RecB w g h B n c) : w.cell? ⟨g, 6, none⟩ = some (.slice B n c) := by rw [cell_of_row w g 6 _ 24 (0, 0) k]; rfl
theorem RecB.all (k : RecB w g h B n c) : w.cell? ⟨g, 0, none⟩ = some (.int .i64 h.K) ∧ w.cell? ⟨g, 1, none⟩ = some (.string h.s) ∧ w.cell? ⟨g, 2, none⟩ = some (.int .i64 h.A) ∧ w.cell? ⟨g, 3, none⟩ = some (.int .i64 h.E) ∧ w.cell? ⟨g, 4, none⟩ = some (.int .i64 h.M) ∧ w.cell? ⟨g, 5, none⟩ = some (.int .i64 h.S) ∧ w.cell? ⟨g, 6, none⟩ = some (.slice B n c) :=
  ⟨k.c0, k.c1, k.c2, k.c3, k.c4, k.c5, k.c6⟩
theorem RecB.fr (k : RecB w g h B n c) (i : Nat) : w.frozen? ⟨g, i, none⟩ = false := by
  unfold RecB at k
  simp [World.frozen?, k]
theorem RecB.new (w : World) (h : Hd) (B : Option Addr) (n c : Nat) : RecB (w.alloc (.cells #[.int .i64 h.K, .string h.s, .int .i64 h.A, .int .i64 h.E, .int .i64 h.M, .int .i64 h.S, .slice B n c] 24)) w.heap.size h B n c := heap_alloc_new w _
theorem RecB.below (k : RecB w g h B n c) (hb : Below w.heap.size w w') : RecB w' g h B n c := (hb.block g k.lt).trans k
theorem RecB.belowK {D : Nat} (k : RecB w g h B n c) (hb : Below D w w') (hg : g < D) : RecB w' g h B n c := (hb.block g hg).trans k
theorem RecB.keep {F : Nat → Prop} (k : RecB w g h B n c) (q : Keeps F w w') (hg : ¬ F g) : RecB w' g h B n c := (q.block g k.lt hg).trans k
theorem RecB.set {cs : Array Value} (k : w.heap[g]? = some (.cells cs 24 (0, 0))) (i : Nat) (u : Value) : (w.setCell ⟨g, i, none⟩ u).heap[g]? = some (.cells (cs.setIfInBounds i u) 24 (0, 0)) :=
  heap_setCell_same w g i cs _ u k
end
/-- the whole of it stored -/
def put7 (w : World) (g : Nat) (h : Hd) (B : Option Addr) (n c : Nat) : World :=
  ((((((w.setCell ⟨g, 0, none⟩ (.int .i64 h.K)).setCell ⟨g, 1, none⟩ (.string h.s)).setCell ⟨g, 2, none⟩ (.int .i64 h.A)).setCell ⟨g, 3, none⟩ (.int .i64 h.E)).setCell ⟨g, 4, none⟩ (.int .i64 h.M)).setCell ⟨g, 5, none⟩ (.int .i64 h.S)).setCell ⟨g, 6, none⟩ (.slice B n c)
theorem put7_is {w : World} {g : Nat} {h0 : Hd} {B0 : Option Addr} {n0 c0 : Nat} (k : RecB w g h0 B0 n0 c0) (h : Hd) (B : Option Addr) (n c : Nat) : RecB (put7 w g h B n c) g h B n c := by
  have k0 := RecB.set k 0 (.int .i64 h.K)
  have k1 := RecB.set k0 1 (.string h.s)
  have k2 := RecB.set k1 2 (.int .i64 h.A)
  have k3 := RecB.set k2 3 (.int .i64 h.E)
  have k4 := RecB.set k3 4 (.int .i64 h.M)
  have k5 := RecB.set k4 5 (.int .i64 h.S)
  have k6 := RecB.set k5 6 (.slice B n c)
  unfold RecB put7
  rw [k6]
  rfl
theorem put7_keeps (w : World) (g : Nat) (h : Hd) (B : Option Addr) (n c : Nat) : Keeps (fun k => k = g) w (put7 w g h B n c) :=
  .trans (.trans (.trans (.trans (.trans (.trans (.set _ _ ⟨g, 0, none⟩ _ rfl) (.set _ _ ⟨g, 1, none⟩ _ rfl)) (.set _ _ ⟨g, 2, none⟩ _ rfl)) (.set _ _ ⟨g, 3, none⟩ _ rfl)) (.set _ _ ⟨g, 4, none⟩ _ rfl)) (.set _ _ ⟨g, 5, none⟩ _ rfl)) (.set _ _ ⟨g, 6, none⟩ _ rfl)
theorem load_rec (w : World) (g : Nat) (h : Hd) (B : Option Addr) (n c : Nat) (k : RecB w g h B n c) : (loadVar 24 ⟨g, 0, none⟩).run Try.prog w = .ok (.agg #[.int .i64 h.K, .string h.s, .int .i64 h.A, .int .i64 h.E, .int .i64 h.M, .int .i64 h.S, .slice B n c]) w := by
  obtain ⟨c0, c1, c2, c3, c4, c5, c6⟩ := k.all
  clear k
  go_simp
/-- a result that lies in such a block -/
theorem results_rec1 {fn : Func} {p : Tmp} (e : fn.results = #[.cell p 24]) (tmps : Array Value) (w : World) (g : Nat) (h : Hd) (B : Option Addr) (n c : Nat) (hp : tmps.getD p undef = .pointer (some ⟨g, 0, none⟩)) (k : RecB w g h B n c) :
    (results fn tmps).run Try.prog w = .ok (.agg #[.int .i64 h.K, .string h.s, .int .i64 h.A, .int .i64 h.E, .int .i64 h.M, .int .i64 h.S, .slice B n c]) w := by
  have hp' : tmps[p]?.getD undef = .pointer (some ⟨g, 0, none⟩) := by simpa using hp
  simp [results, e, hp', asAddr, load_rec w g h B n c k]
theorem results_rec2 {fn : Func} {p u : Tmp} (e : fn.results = #[.cell p 24, .tmp u]) (tmps : Array Value) (w : World) (g : Nat) (h : Hd) (B : Option Addr) (n c : Nat) (hp : tmps.getD p undef = .pointer (some ⟨g, 0, none⟩)) (k : RecB w g h B n c) (v : Value) (hv : tmps.getD u undef = v) :
    (results fn tmps).run Try.prog w = .ok (.tuple #[.agg #[.int .i64 h.K, .string h.s, .int .i64 h.A, .int .i64 h.E, .int .i64 h.M, .int .i64 h.S, .slice B n c], v]) w := by
  rw [results_cell_tmp e, hp, hv]
  simp only [asAddr, Sem.run_pure, Result.andThen_ok, load_rec w g h B n c k]
theorem results_rec3 {fn : Func} {p u z : Tmp} (e : fn.results = #[.cell p 24, .tmp u, .tmp z]) (tmps : Array Value) (w : World) (g : Nat) (h : Hd) (B : Option Addr) (n c : Nat) (hp : tmps.getD p undef = .pointer (some ⟨g, 0, none⟩)) (k : RecB w g h B n c) (v y : Value) (hv : tmps.getD u undef = v) (hy : tmps.getD z undef = y) :
    (results fn tmps).run Try.prog w = .ok (.tuple #[.agg #[.int .i64 h.K, .string h.s, .int .i64 h.A, .int .i64 h.E, .int .i64 h.M, .int .i64 h.S, .slice B n c], v, y]) w := by
  have hp' : tmps[p]?.getD undef = .pointer (some ⟨g, 0, none⟩) := by simpa using hp
  have hv' : tmps[u]?.getD undef = v := by simpa using hv
  have hy' : tmps[z]?.getD undef = y := by simpa using hy
  simp [results, e, hp', hv', hy', asAddr, load_rec w g h B n c k]
theorem zero_rec (w : World) : (zeroValue 24).run Try.prog w = .ok (.agg #[.int .i64 0, .string ByteArray.empty, .int .i64 0, .int .i64 0, .int .i64 0, .int .i64 0, .slice none 0 0]) w := by kernel_rfl

theorem rec_under : Try.prog.underlying 24 = some (.struct (Try.prog.fieldsOf 24)) := by kernel_rfl
theorem rec_size : (Try.prog.info? 24).map (·.size) = some 7 := by kernel_rfl
theorem keeps_setRow (w : World) (g : Nat) (cs : Array Value) : Keeps (fun k => k = g) w (w.setRow g cs) := by
  refine ⟨?_, ?_, ?_, ?_, fun k _ hn => ?_⟩
  all_goals unfold World.setRow
  all_goals try rfl
  · simp
  · show (w.heap.modify g _)[k]? = w.heap[k]?
    rw [Array.getElem?_modify, if_neg (fun e => hn e.symm)]
theorem rec_one (h : Hd) (B : Option Addr) (n c : Nat) : (#[.int .i64 h.K, .string h.s, .int .i64 h.A, .int .i64 h.E, .int .i64 h.M, .int .i64 h.S, .slice B n c] : Array Value).all (·.oneCell') = true := by simp [Value.oneCell']
/-- a load, a store of the whole -/
theorem wpList_load_rec {ops : Array Oper} {rest : List Oper} {o : Oper} {a : Act} {w : World} {Q : Exit → Act → World → Prop} (hgd : o.guard = none) (x : Operand) (ho : o.op = .load 24 x)
    (g : Nat) (hx : a.eval x = .pointer (some ⟨g, 0, none⟩)) (h : Hd) (B : Option Addr) (n c : Nat) (hg : RecB w g h B n c)
    (k : wpList Try.prog ops Q rest (a.put o.dst (.agg #[.int .i64 h.K, .string h.s, .int .i64 h.A, .int .i64 h.E, .int .i64 h.M, .int .i64 h.S, .slice B n c])) w) : wpList Try.prog ops Q (o :: rest) a w :=
  wpList_load_row hgd 24 x ho g hx 24 _ (0, 0) _ hg rec_under rfl rec_size k
theorem wpList_store_rec {ops : Array Oper} {rest : List Oper} {o : Oper} {a : Act} {w : World} {Q : Exit → Act → World → Prop} (hgd : o.guard = none) (x y : Operand) (ho : o.op = .store 24 x y)
    (g : Nat) (h : Hd) (B : Option Addr) (n c : Nat) (hx : a.eval x = .pointer (some ⟨g, 0, none⟩)) (hy : a.eval y = .agg #[.int .i64 h.K, .string h.s, .int .i64 h.A, .int .i64 h.E, .int .i64 h.M, .int .i64 h.S, .slice B n c]) (h0 : Hd) (B0 : Option Addr) (n0 c0 : Nat) (hg : RecB w g h0 B0 n0 c0)
    (k : ∀ w', RecB w' g h B n c → Keeps (fun k => k = g) w w' → wpList Try.prog ops Q rest (a.put o.dst undef) w') : wpList Try.prog ops Q (o :: rest) a w :=
  wpList_store_row hgd 24 x y ho g _ hx hy 24 _ hg rec_size rfl (rec_one h B n c) (k _ (setRow_heap w g _ _ _ (0, 0) hg) (keeps_setRow w g _))

theorem ballot_any (n : Int) (hn : -9223372036854775808 ≤ n ∧ n ≤ 9223372036854775807) (w : World) : Calls Try.prog 33 #[.int .i64 n] w fun e w' => e = .returned (.bool (decide (num n))) ∧ w = w' := by
  by_cases h0 : 0 ≤ n
  · have e : IntKind.u64.wrap n = n := IntWalk.u64_in _ (by omega)
    have hq : decide (num n) = decide (n ≤ 4294967295) := by unfold num; simp [h0]
    rw [hq]
    go_enter Try.func33, Try.ntmps33
    go_wp2
    go_ret
    exact ⟨rfl, rfl⟩
  · have hq : decide (num n) = false := decide_eq_false fun h => h0 h.1
    rw [hq]
    go_enter Try.func33, Try.ntmps33
    go_wp2
    go_ret
    exact ⟨rfl, rfl⟩
theorem length_any (n : Int) (w : World) : Calls Try.prog 34 #[.int .i64 n] w fun e w' => e = .returned (.bool (decide (0 ≤ n ∧ n ≤ 240))) ∧ w = w' := by
  by_cases h0 : 0 ≤ n
  · have hq : decide (0 ≤ n ∧ n ≤ 240) = decide (n ≤ 240) := by simp [h0]
    rw [hq]
    go_enter Try.func34, Try.ntmps34
    go_wp2
    go_ret
    exact ⟨rfl, rfl⟩
  · have hq : decide (0 ≤ n ∧ n ≤ 240) = false := decide_eq_false fun h => h0 h.1
    rw [hq]
    go_enter Try.func34, Try.ntmps34
    go_wp2
    go_ret
    exact ⟨rfl, rfl⟩
theorem bodiesOf_any (n : Nat) (hn : n ≤ 1048576) (w : World) : Calls Try.prog 38 #[.int .i64 n] w fun e w' => e = .returned (.int .i64 (pieces n : Nat)) ∧ w = w' := by
  have e1 : IntKind.i64.wrap ((n : Int) + 48) = (n : Int) + 48 := IntWalk.i64_in _ (by omega)
  have e2 : IntKind.i64.wrap ((n : Int) + 48 - 1) = (n : Int) + 47 := by rw [show (n : Int) + 48 - 1 = (n : Int) + 47 from by omega]; exact IntWalk.i64_in _ (by omega)
  have e3 : ((n : Int) + 47).tdiv 48 = (pieces n : Nat) := by unfold pieces; rw [Int.tdiv_eq_ediv_of_nonneg (by omega)]; omega
  have e4 : IntKind.i64.wrap ((pieces n : Nat) : Int) = (pieces n : Nat) := IntWalk.i64_in _ (by unfold pieces; omega)
  generalize pieces n = p at *
  go_enter Try.func38, Try.ntmps38
  go_wp2
  go_ret
  exact ⟨rfl, rfl⟩
theorem role_any (n : Int) (w : World) : Calls Try.prog 13 #[.int .i64 n] w fun e w' => e = .returned (.int .i64 (role n)) ∧ w = w' := by
  by_cases h1 : n = 2
  · subst h1
    go_enter Try.func13, Try.ntmps13
    go_wp2
    go_ret
    exact ⟨rfl, rfl⟩
  by_cases h2 : n = 3
  · subst h2
    go_enter Try.func13, Try.ntmps13
    go_wp2
    go_ret
    exact ⟨rfl, rfl⟩
  by_cases h3 : n = 4
  · subst h3
    go_enter Try.func13, Try.ntmps13
    go_wp2
    go_ret
    exact ⟨rfl, rfl⟩
  by_cases h4 : n = 1
  · subst h4
    go_enter Try.func13, Try.ntmps13
    go_wp2
    go_ret
    exact ⟨rfl, rfl⟩
  by_cases h5 : n = 5
  · subst h5
    go_enter Try.func13, Try.ntmps13
    go_wp2
    go_ret
    exact ⟨rfl, rfl⟩
  have hr : role n = -1 := by unfold role; rw [if_pos (by omega)]
  rw [hr]
  go_enter Try.func13, Try.ntmps13
  go_wp2
  go_ret
  exact ⟨rfl, rfl⟩
end Go.Proofs.Ytnjghhkebcojnaa.Record

/- package record: isAsItsKind, Right, Count, Same -/
set_option maxRecDepth 100000
namespace Go.Proofs.Ytnjghhkebcojnaa.Record
open Go.RowKit RecM

set_option maxHeartbeats 1000000 in
theorem kind_any (h : Hd) (B : Option Addr) (n c : Nat) (w : World) :
    Calls Try.prog 35 #[.agg #[.int .i64 h.K, .string h.s, .int .i64 h.A, .int .i64 h.E, .int .i64 h.M, .int .i64 h.S, .slice B n c]] w fun e w' => e = .returned (.bool (decide (kindP h.K h.A h.E h.M h.S n))) ∧ Below w.heap.size w w' := by
  obtain ⟨K, s, A, E, M, S⟩ := h
  simp only
  obtain ⟨Q, hQ⟩ : ∃ Q, Q = decide (kindP K A E M S n) := ⟨_, rfl⟩
  rw [← hQ]
  by_cases k1 : K = 1
  · subst k1
    have hq : Q = (decide (A > 0) && (decide (E = A) && decide (M = 0))) := by
      rw [hQ, Bool.eq_iff_iff]; simp only [Bool.and_eq_true, decide_eq_true_eq]; unfold kindP; omega
    clear hQ
    by_cases a : A > 0
    · by_cases b : E = A
      · subst b
        have hq2 : Q = decide (M = 0) := by rw [hq, decide_eq_true a]; simp
        clear hq
        subst hq2
        go_enter Try.func35, Try.ntmps35
        go_wp2
        go_ret
        exact ⟨rfl, balloc _ _⟩
      · have hq2 : Q = false := by rw [hq, decide_eq_false b]; simp
        clear hq
        subst hq2
        go_enter Try.func35, Try.ntmps35
        go_wp2
        go_ret
        exact ⟨rfl, balloc _ _⟩
    · have hq2 : Q = false := by rw [hq, decide_eq_false a]; simp
      clear hq
      subst hq2
      go_enter Try.func35, Try.ntmps35
      go_wp2
      go_ret
      exact ⟨rfl, balloc _ _⟩
  by_cases k4 : K = 4
  · subst k4
    clear k1
    have hq : Q = (decide (A = 0) && (decide (E = 0) && (decide (M > 0) && (decide (S = 0) && decide (n = 0))))) := by
      rw [hQ, Bool.eq_iff_iff]; simp only [Bool.and_eq_true, decide_eq_true_eq]; unfold kindP; omega
    clear hQ
    by_cases a : A = 0
    · by_cases b : E = 0
      · by_cases d : M > 0
        · by_cases z : S = 0
          · have hq2 : Q = decide ((n : Int) = 0) := by rw [hq, decide_eq_true a, decide_eq_true b, decide_eq_true d, decide_eq_true z, Bool.eq_iff_iff]; simp
            clear hq
            subst hq2 a b z
            go_enter Try.func35, Try.ntmps35
            go_wp2
            go_ret
            exact ⟨rfl, balloc _ _⟩
          · have hq2 : Q = false := by rw [hq, decide_eq_false z]; simp
            clear hq
            subst hq2 a b
            go_enter Try.func35, Try.ntmps35
            go_wp2
            go_ret
            exact ⟨rfl, balloc _ _⟩
        · have hq2 : Q = false := by rw [hq, decide_eq_false d]; simp
          clear hq
          subst hq2 a b
          go_enter Try.func35, Try.ntmps35
          go_wp2
          go_ret
          exact ⟨rfl, balloc _ _⟩
      · have hq2 : Q = false := by rw [hq, decide_eq_false b]; simp
        clear hq
        subst hq2 a
        go_enter Try.func35, Try.ntmps35
        go_wp2
        go_ret
        exact ⟨rfl, balloc _ _⟩
    · have hq2 : Q = false := by rw [hq, decide_eq_false a]; simp
      clear hq
      subst hq2
      go_enter Try.func35, Try.ntmps35
      go_wp2
      go_ret
      exact ⟨rfl, balloc _ _⟩
  by_cases k3 : K = 3
  · subst k3
    clear k1 k4
    have hq : Q = (decide (n = 0) && (decide (A > 0) && (decide (E > 0) && decide (M > 0)))) := by
      rw [hQ, Bool.eq_iff_iff]; simp only [Bool.and_eq_true, decide_eq_true_eq]; unfold kindP; omega
    clear hQ
    by_cases z : n = 0
    · subst z
      by_cases a : A > 0
      · by_cases b : E > 0
        · have hq2 : Q = decide (M > 0) := by rw [hq, decide_eq_true a, decide_eq_true b]; simp
          clear hq
          subst hq2
          go_enter Try.func35, Try.ntmps35
          go_wp2
          go_ret
          exact ⟨rfl, balloc _ _⟩
        · have hq2 : Q = false := by rw [hq, decide_eq_false b]; simp
          clear hq
          subst hq2
          go_enter Try.func35, Try.ntmps35
          go_wp2
          go_ret
          exact ⟨rfl, balloc _ _⟩
      · have hq2 : Q = false := by rw [hq, decide_eq_false a]; simp
        clear hq
        subst hq2
        go_enter Try.func35, Try.ntmps35
        go_wp2
        go_ret
        exact ⟨rfl, balloc _ _⟩
    · have hq2 : Q = false := by rw [hq, decide_eq_false z]; simp
      have hz : ((n : Int) != 0) = true := by rw [bne_iff_ne]; omega
      clear hq
      subst hq2
      go_enter Try.func35, Try.ntmps35
      go_wp2
      go_ret
      exact ⟨rfl, balloc _ _⟩
  by_cases k2 : K = 2 ∨ K = 5
  · have hq : Q = (decide (A > 0) && (decide (E > 0) && decide (M > 0))) := by
      rw [hQ, Bool.eq_iff_iff]; simp only [Bool.and_eq_true, decide_eq_true_eq]; unfold kindP; omega
    clear hQ k1 k4 k3
    by_cases a : A > 0
    · by_cases b : E > 0
      · have hq2 : Q = decide (M > 0) := by rw [hq, decide_eq_true a, decide_eq_true b]; simp
        clear hq
        subst hq2
        rcases k2 with rfl | rfl
        all_goals (
          go_enter Try.func35, Try.ntmps35
          go_wp2
          go_ret
          exact ⟨rfl, balloc _ _⟩)
      · have hq2 : Q = false := by rw [hq, decide_eq_false b]; simp
        clear hq
        subst hq2
        rcases k2 with rfl | rfl
        all_goals (
          go_enter Try.func35, Try.ntmps35
          go_wp2
          go_ret
          exact ⟨rfl, balloc _ _⟩)
    · have hq2 : Q = false := by rw [hq, decide_eq_false a]; simp
      clear hq
      subst hq2
      rcases k2 with rfl | rfl
      all_goals (
        go_enter Try.func35, Try.ntmps35
        go_wp2
        go_ret
        exact ⟨rfl, balloc _ _⟩)
  have hq2 : Q = false := by rw [hQ]; refine decide_eq_false fun h => ?_; unfold kindP at h; omega
  have k5 : ¬ K = 5 := fun e => k2 (.inr e)
  have k6 : ¬ K = 2 := fun e => k2 (.inl e)
  clear hQ k2
  subst hq2
  go_enter Try.func35, Try.ntmps35
  go_wp2
  go_ret
  exact ⟨rfl, balloc _ _⟩
set_option maxHeartbeats 1000000 in
theorem right_any (h : Hd) (hf : Fits h) (B : Option Addr) (sh : List UInt8) (c : Nat) (w : World) :
    Calls Try.prog 12 #[.agg #[.int .i64 h.K, .string h.s, .int .i64 h.A, .int .i64 h.E, .int .i64 h.M, .int .i64 h.S, .slice B sh.length c]] w fun e w' => e = .returned (.bool (h.rc sh).right) ∧ Below w.heap.size w w' := by
  have hr := may_all (h.rc sh)
  have e1 : (h.rc sh).nm = h.s.data.toList := rfl
  have e2 : (h.rc sh).A = h.A := rfl
  have e3 : (h.rc sh).E = h.E := rfl
  have e4 : (h.rc sh).M = h.M := rfl
  have e5 : (h.rc sh).S = h.S := rfl
  have e6 : (h.rc sh).K = h.K := rfl
  have e7 : (h.rc sh).sh = sh := rfl
  rw [e1, e2, e3, e4, e5, e6, e7] at hr
  clear e1 e2 e3 e4 e5 e6 e7
  generalize (h.rc sh).right = Q at *
  have HRR := Lib.hid hr
  clear hr
  have CN := Lib.hid (fun W => Label.right_any h.s W hf.s)
  have CA := Lib.hid (fun W => ballot_any h.A hf.a W)
  have CE := Lib.hid (fun W => ballot_any h.E hf.e W)
  have CM := Lib.hid (fun W => ballot_any h.M hf.m W)
  have CS := Lib.hid (fun W => length_any h.S W)
  have CL := Lib.hid (fun W => length_any (sh.length : Int) W)
  have CK := Lib.hid (fun W => kind_any h B sh.length c W)
  have HR := Lib.hid (RecB.new w h B sh.length c)
  have HB := Lib.hid (balloc w (.cells #[.int .i64 h.K, .string h.s, .int .i64 h.A, .int .i64 h.E, .int .i64 h.M, .int .i64 h.S, .slice B sh.length c] 24))
  clear hf
  generalize LabM.right h.s.data.toList = b0 at *
  generalize decide (num h.A) = b1 at *
  generalize decide (num h.E) = b2 at *
  generalize decide (num h.M) = b3 at *
  generalize decide (0 ≤ h.S ∧ h.S ≤ 240) = b4 at *
  generalize decide (0 ≤ (sh.length : Int) ∧ (sh.length : Int) ≤ 240) = b5 at *
  generalize decide (kindP h.K h.A h.E h.M h.S sh.length) = b6 at *
  generalize sh.length = n at *
  go_enter Try.func12, Try.ntmps12
  go_wp2_with fail
  obtain ⟨g, hg⟩ : ∃ g, g = w.heap.size := ⟨_, rfl⟩
  rw [← hg] at HR ⊢
  clear hg
  obtain ⟨c0, c1, c2, c3, c4, c5, c6⟩ := HR.out.all
  generalize w.alloc (.cells #[.int .i64 h.K, .string h.s, .int .i64 h.A, .int .i64 h.E, .int .i64 h.M, .int .i64 h.S, .slice B n c] 24) = w0 at *
  refine (CN.out w0).mono ?_
  rintro e w1 ⟨rfl, hq⟩
  have hb1 := bquiet hq
  have HR1 := Lib.hid (HR.out.below hb1)
  have HB1 := Lib.hid (bstep HB.out hb1)
  clear c0 c1 c2 c3 c4 c5 c6 hq hb1 HR HB CN
  obtain ⟨c0, c1, c2, c3, c4, c5, c6⟩ := HR1.out.all
  cases b0
  · have : Q = false := by rw [HRR.out]; rfl
    subst this
    clear HRR
    go_wp2
    go_ret
    exact ⟨rfl, HB1.out⟩
  go_wp2_with fail
  refine (CA.out w1).mono ?_
  rintro e w2 ⟨rfl, rfl⟩
  cases b1
  · have : Q = false := by rw [HRR.out]; rfl
    subst this
    clear HRR
    go_wp2
    go_ret
    exact ⟨rfl, HB1.out⟩
  go_wp2_with fail
  refine (CE.out w1).mono ?_
  rintro e w2 ⟨rfl, rfl⟩
  cases b2
  · have : Q = false := by rw [HRR.out]; rfl
    subst this
    clear HRR
    go_wp2
    go_ret
    exact ⟨rfl, HB1.out⟩
  go_wp2_with fail
  refine (CM.out w1).mono ?_
  rintro e w2 ⟨rfl, rfl⟩
  cases b3
  · have : Q = false := by rw [HRR.out]; rfl
    subst this
    clear HRR
    go_wp2
    go_ret
    exact ⟨rfl, HB1.out⟩
  go_wp2_with fail
  refine (CS.out w1).mono ?_
  rintro e w2 ⟨rfl, rfl⟩
  cases b4
  · have : Q = false := by rw [HRR.out]; rfl
    subst this
    clear HRR
    go_wp2
    go_ret
    exact ⟨rfl, HB1.out⟩
  go_wp2_with fail
  refine (CL.out w1).mono ?_
  rintro e w2 ⟨rfl, rfl⟩
  cases b5
  · have : Q = false := by rw [HRR.out]; rfl
    subst this
    clear HRR
    go_wp2
    go_ret
    exact ⟨rfl, HB1.out⟩
  go_wp2_with fail
  refine (CK.out w1).mono ?_
  rintro e w2 ⟨rfl, hb2⟩
  have HB2 := Lib.hid (bstep HB1.out hb2)
  have : Q = b6 := by rw [HRR.out]; rfl
  subst this
  clear hb2 HRR
  go_wp2
  go_ret
  exact ⟨rfl, HB2.out⟩
theorem count_any (h : Hd) (hf : Fits h) (B : Option Addr) (sh : List UInt8) (c : Nat) (hl : sh.length ≤ 1048576) (w : World) :
    Calls Try.prog 17 #[.agg #[.int .i64 h.K, .string h.s, .int .i64 h.A, .int .i64 h.E, .int .i64 h.M, .int .i64 h.S, .slice B sh.length c]] w fun e w' => e = .returned (.int .i64 (if (h.rc sh).right = true then ((h.rc sh).count : Nat) else 0)) ∧ Below w.heap.size w w' := by
  have CR := Lib.hid (fun W => right_any h hf B sh c W)
  have CB := Lib.hid (fun W => bodiesOf_any sh.length hl W)
  have hc : (h.rc sh).count = 1 + pieces sh.length := rfl
  have hi : IntKind.i64.wrap (1 + ((pieces sh.length : Nat) : Int)) = ((1 + pieces sh.length : Nat) : Int) := by
    rw [IntWalk.i64_in _ (by unfold pieces; omega)]; omega
  rw [hc]
  obtain ⟨R, hR⟩ : ∃ R : Int, R = (if (h.rc sh).right = true then ((1 + pieces sh.length : Nat) : Int) else 0) := ⟨_, rfl⟩
  rw [← hR]
  have HR := Lib.hid (RecB.new w h B sh.length c)
  have HB := Lib.hid (balloc w (.cells #[.int .i64 h.K, .string h.s, .int .i64 h.A, .int .i64 h.E, .int .i64 h.M, .int .i64 h.S, .slice B sh.length c] 24))
  have HH := Lib.hid hR
  clear hR hc
  generalize (h.rc sh).right = b at *
  generalize pieces sh.length = p at *
  generalize sh.length = n at *
  go_enter Try.func17, Try.ntmps17
  go_wp2_with fail
  obtain ⟨g, hg⟩ : ∃ g, g = w.heap.size := ⟨_, rfl⟩
  rw [← hg] at HR ⊢
  clear hg
  obtain ⟨c0, c1, c2, c3, c4, c5, c6⟩ := HR.out.all
  generalize w.alloc (.cells #[.int .i64 h.K, .string h.s, .int .i64 h.A, .int .i64 h.E, .int .i64 h.M, .int .i64 h.S, .slice B n c] 24) = w0 at *
  refine (CR.out w0).mono ?_
  rintro e w1 ⟨rfl, hb1⟩
  have HR1 := Lib.hid (HR.out.below hb1)
  have HB1 := Lib.hid (bstep HB.out hb1)
  clear c0 c1 c2 c3 c4 c5 c6 hb1 HR HB CR
  obtain ⟨c0, c1, c2, c3, c4, c5, c6⟩ := HR1.out.all
  cases b
  · have : R = 0 := by rw [HH.out]; rfl
    subst this
    clear HH
    go_wp2
    go_ret
    exact ⟨rfl, HB1.out⟩
  · have hz : IntKind.i64.wrap (1 + (p : Int)) = R := by rw [hi, HH.out]; rfl
    clear HH hi
    go_wp2_with fail
    refine (CB.out w1).mono ?_
    rintro e w2 ⟨rfl, rfl⟩
    go_wp2
    go_ret
    exact ⟨rfl, HB1.out⟩
end Go.Proofs.Ytnjghhkebcojnaa.Record

/- package record: Same; the document's Same -/
set_option maxRecDepth 100000
namespace Go.Proofs.Ytnjghhkebcojnaa.Record
open Go.RowKit RecM

theorem same_rc (h k : Hd) (sh th : List UInt8) : decide (h.rc sh = k.rc th) = ((h.K == k.K) && ((h.s.toList == k.s.toList) && ((h.A == k.A) && ((h.E == k.E) && ((h.M == k.M) && ((h.S == k.S) && decide (sh = th))))))) := by
  rw [Bool.eq_iff_iff]
  simp only [Bool.and_eq_true, decide_eq_true_eq, beq_iff_eq]
  constructor
  · intro e
    obtain ⟨rfl, rfl⟩ := Hd.rc_inj e
    exact ⟨rfl, rfl, rfl, rfl, rfl, rfl, rfl⟩
  · rintro ⟨e0, e1, e2, e3, e4, e5, rfl⟩
    obtain ⟨K, s, A, E, M, S⟩ := h
    obtain ⟨K', s', A', E', M', S'⟩ := k
    simp only at e0 e1 e2 e3 e4 e5
    subst e0 e2 e3 e4 e5
    rw [ByteArray.toList_eq, ByteArray.toList_eq] at e1
    obtain rfl := bytes_inj e1
    rfl
set_option maxHeartbeats 2000000 in
theorem same_any (h k : Hd) (A B : Option Addr) (sh th : List UInt8) (c d : Nat) (w : World) (hA : BytesAt w A sh) (hB : BytesAt w B th) :
    Calls Try.prog 15 #[.agg #[.int .i64 h.K, .string h.s, .int .i64 h.A, .int .i64 h.E, .int .i64 h.M, .int .i64 h.S, .slice A sh.length c], .agg #[.int .i64 k.K, .string k.s, .int .i64 k.A, .int .i64 k.E, .int .i64 k.M, .int .i64 k.S, .slice B th.length d]] w
      fun e w' => e = .returned (.bool (decide (h.rc sh = k.rc th))) ∧ Below w.heap.size w w' := by
  have HQ := Lib.hid (same_rc h k sh th)
  generalize decide (h.rc sh = k.rc th) = Q at *
  have hb0 := bstep (balloc w (.cells #[.int .i64 h.K, .string h.s, .int .i64 h.A, .int .i64 h.E, .int .i64 h.M, .int .i64 h.S, .slice A sh.length c] 24)) (balloc _ (.cells #[.int .i64 k.K, .string k.s, .int .i64 k.A, .int .i64 k.E, .int .i64 k.M, .int .i64 k.S, .slice B th.length d] 24))
  have HBY := Lib.hid (fun W hb => Equal.equal_any A B sh th c d W (hA.below hb) (hB.below hb))
  have HB := Lib.hid hb0
  clear hA hB hb0
  generalize decide (sh = th) = z6 at *
  generalize sh.length = n at *
  generalize th.length = m at *
  cases e0 : (h.K == k.K)
  · have : Q = false := by rw [HQ.out, e0]; rfl
    subst this
    clear HQ HBY
    go_enter Try.func15, Try.ntmps15
    go_wp2
    go_ret
    exact ⟨rfl, HB.out⟩
  cases e1 : (h.s.toList == k.s.toList)
  · have : Q = false := by rw [HQ.out, e0, e1]; rfl
    subst this
    clear HQ HBY
    go_enter Try.func15, Try.ntmps15
    go_wp2
    go_ret
    exact ⟨rfl, HB.out⟩
  cases e2 : (h.A == k.A)
  · have : Q = false := by rw [HQ.out, e0, e1, e2]; rfl
    subst this
    clear HQ HBY
    go_enter Try.func15, Try.ntmps15
    go_wp2
    go_ret
    exact ⟨rfl, HB.out⟩
  cases e3 : (h.E == k.E)
  · have : Q = false := by rw [HQ.out, e0, e1, e2, e3]; rfl
    subst this
    clear HQ HBY
    go_enter Try.func15, Try.ntmps15
    go_wp2
    go_ret
    exact ⟨rfl, HB.out⟩
  cases e4 : (h.M == k.M)
  · have : Q = false := by rw [HQ.out, e0, e1, e2, e3, e4]; rfl
    subst this
    clear HQ HBY
    go_enter Try.func15, Try.ntmps15
    go_wp2
    go_ret
    exact ⟨rfl, HB.out⟩
  cases e5 : (h.S == k.S)
  · have : Q = false := by rw [HQ.out, e0, e1, e2, e3, e4, e5]; rfl
    subst this
    clear HQ HBY
    go_enter Try.func15, Try.ntmps15
    go_wp2
    go_ret
    exact ⟨rfl, HB.out⟩
  have : Q = z6 := by rw [HQ.out, e0, e1, e2, e3, e4, e5]; rfl
  subst this
  clear HQ
  go_enter Try.func15, Try.ntmps15
  go_wp2_with fail
  refine (HBY.out _ HB.out).mono ?_
  rintro e w1 ⟨rfl, rfl⟩
  go_wp2
  go_ret
  exact ⟨rfl, HB.out⟩
end Go.Proofs.Ytnjghhkebcojnaa.Record
namespace Go.Proofs.Ytnjghhkebcojnaa.R20
open Go.RowKit RecM Record
set_option maxHeartbeats 2000000 in
theorem same_any (h k : Hd) (A B : Option Addr) (sh th : List UInt8) (c d : Nat) (w : World) (hA : BytesAt w A sh) (hB : BytesAt w B th) (m1 : sh.length ≤ maxLen) (m2 : th.length ≤ maxLen) :
    Calls Try.prog 16 #[.agg #[.int .i64 h.K, .string h.s, .int .i64 h.A, .int .i64 h.E, .int .i64 h.M, .int .i64 h.S, .slice A sh.length c], .agg #[.int .i64 k.K, .string k.s, .int .i64 k.A, .int .i64 k.E, .int .i64 k.M, .int .i64 k.S, .slice B th.length d]] w
      fun e w' => e = .returned (.bool (decide (h.rc sh = k.rc th))) ∧ Below w.heap.size w w' := by
  have HQ := Lib.hid (same_rc h k sh th)
  generalize decide (h.rc sh = k.rc th) = Q at *
  have hb0 := bstep (balloc w (.cells #[.int .i64 h.K, .string h.s, .int .i64 h.A, .int .i64 h.E, .int .i64 h.M, .int .i64 h.S, .slice A sh.length c] 24)) (balloc _ (.cells #[.int .i64 k.K, .string k.s, .int .i64 k.A, .int .i64 k.E, .int .i64 k.M, .int .i64 k.S, .slice B th.length d] 24))
  have HBY := Lib.hid (fun W hb => R01.same_any A B sh th c d W (hA.below hb) (hB.below hb) m1 m2)
  have HB := Lib.hid hb0
  clear hA hB hb0 m1 m2
  rw [show decide (sh = th) = same sh th from rfl] at HQ
  generalize same sh th = z6 at *
  generalize sh.length = n at *
  generalize th.length = m at *
  cases e0 : (h.K == k.K)
  · have : Q = false := by rw [HQ.out, e0]; rfl
    subst this
    clear HQ HBY
    go_enter Try.func16, Try.ntmps16
    go_wp2
    go_ret
    exact ⟨rfl, HB.out⟩
  cases e1 : (h.s.toList == k.s.toList)
  · have : Q = false := by rw [HQ.out, e0, e1]; rfl
    subst this
    clear HQ HBY
    go_enter Try.func16, Try.ntmps16
    go_wp2
    go_ret
    exact ⟨rfl, HB.out⟩
  cases e2 : (h.A == k.A)
  · have : Q = false := by rw [HQ.out, e0, e1, e2]; rfl
    subst this
    clear HQ HBY
    go_enter Try.func16, Try.ntmps16
    go_wp2
    go_ret
    exact ⟨rfl, HB.out⟩
  cases e3 : (h.E == k.E)
  · have : Q = false := by rw [HQ.out, e0, e1, e2, e3]; rfl
    subst this
    clear HQ HBY
    go_enter Try.func16, Try.ntmps16
    go_wp2
    go_ret
    exact ⟨rfl, HB.out⟩
  cases e4 : (h.M == k.M)
  · have : Q = false := by rw [HQ.out, e0, e1, e2, e3, e4]; rfl
    subst this
    clear HQ HBY
    go_enter Try.func16, Try.ntmps16
    go_wp2
    go_ret
    exact ⟨rfl, HB.out⟩
  cases e5 : (h.S == k.S)
  · have : Q = false := by rw [HQ.out, e0, e1, e2, e3, e4, e5]; rfl
    subst this
    clear HQ HBY
    go_enter Try.func16, Try.ntmps16
    go_wp2
    go_ret
    exact ⟨rfl, HB.out⟩
  have : Q = z6 := by rw [HQ.out, e0, e1, e2, e3, e4, e5]; rfl
  subst this
  clear HQ
  go_enter Try.func16, Try.ntmps16
  go_wp2_with fail
  refine (HBY.out _ HB.out).mono ?_
  rintro e w1 ⟨rfl, hq⟩
  have HB1 := Lib.hid (bstep HB.out (bquiet hq))
  clear hq
  go_wp2
  go_ret
  exact ⟨rfl, HB1.out⟩
end Go.Proofs.Ytnjghhkebcojnaa.R20

/- package record: a share's pieces, one behind the other: slices.Chunk, pieces -/
set_option maxRecDepth 100000
namespace Go.Proofs.Ytnjghhkebcojnaa.Record
open Go.RowKit Go.Shelf RecM Seqs
open Entry (nums nums_len nums_take KeptC boxed_below boxed_keep keepsFrom_below keepsFrom_mono)
attribute [local go_sem] Oper.semAt_some

/-- what Chunk hands on of chunk k -/
def chunkV (a o n k : Nat) : Value := .slice (some ⟨a, o + k * 48, none⟩) (min 48 (n - k * 48)) (min 48 (n - k * 48))
set_option maxHeartbeats 1000000 in
theorem chunk1_in (m l g1 g2 : Nat) (A : Option Addr) (n c a o N : Nat) (hm : 1 ≤ m) (hN : N = (n + 47) / 48) (hA : 0 < n → A = some ⟨a, o, none⟩) (hn : n ≤ 1048576) (hc : n ≤ c) (_hc2 : c ≤ maxLen)
    (J Jx : List (Fin N) → World → Prop) (W : World) (hJ : AbidesFrom W.heap.size J)
    (hY : ∀ pre x W, J pre W → pre.length < N → YieldAt Fence.wide (m - 1) Try.prog l #[chunkV a o n x.1] W fun e W' =>
      (e = .returned (.bool true) ∧ J (pre ++ [x]) W' ∧ KeptC g1 g2 W W') ∨ (e = .returned (.bool false) ∧ Jx (pre ++ [x]) W'))
    (hb1 : W.cell? ⟨g1, 0, none⟩ = some (.slice A n c)) (hb2 : W.cell? ⟨g2, 0, none⟩ = some (.int .i64 48)) (h0 : J [] W) :
    CallsIn Fence.wide m Try.prog 66 #[.func (.yield l) #[] #[], .pointer (some ⟨g1, 0, none⟩), .pointer (some ⟨g2, 0, none⟩)] W fun e W' => (∃ v, e = .returned v) ∧
      ((∃ ys, ys = nums N ∧ J ys W') ∨ (∃ pre, pre <+: nums N ∧ Jx pre W')) := by
  have HY := Lib.hid hY; have HA := Lib.hid hA; have HJ := Lib.hid hJ; have HB1 := Lib.hid hb1; have HB2 := Lib.hid hb2
  have HEND : Hid (∀ k, k < N ↔ k * 48 < n) := Lib.hid fun k => by omega
  have hN2 : N ≤ 30000 := by omega
  clear hY hA hJ hb1 hb2 hN
  unfold maxLen at _hc2
  refine callsIn_of_wp Try.func66 rfl trivial ?_ rfl
  simp only [Try.ntmps66, List.size_toArray, List.length_cons, List.length_nil, Nat.reduceAdd, Nat.reduceSub, Array.replicate_succ, Array.replicate_zero, List.push_toArray, List.append_toArray, List.nil_append, List.cons_append]
  gi_wp2
  gi_loopw [4] (fun i wr => ∃ k : Nat, k ≤ N ∧ i = .int .i64 ((k * 48 : Nat) : Int) ∧ J ((nums N).take k) wr ∧ KeptC g1 g2 W wr)
    (fun i _ => 2000000 - (intOf i).toNat)
  case atStart => exact ⟨0, Nat.zero_le _, rfl, h0, rfl, rfl⟩
  case round =>
    obtain ⟨k, hk, rfl, hJ2, hk1, hk2⟩ := hrel
    rename World => w2
    have HJ2 := Lib.hid hJ2
    clear hJ2 h0
    have d1 : w2.cell? ⟨g1, 0, none⟩ = some (.slice A n c) := by rw [← HB1.out]; exact World.cell?_of_block (w := W) hk1
    have d2 : w2.cell? ⟨g2, 0, none⟩ = some (.int .i64 48) := by rw [← HB2.out]; exact World.cell?_of_block (w := W) hk2
    have hke := HEND.out k
    by_cases hlt : k < N
    · have hkn := hke.1 hlt
      have hlen : ((nums N).take k).length = k := by rw [List.length_take, nums_len]; omega
      have hA2 := HA.out (by omega)
      subst hA2
      have HY2 := Lib.hid (fun W' h => HY.out _ ⟨k, hlt⟩ W' h (by rw [hlen]; exact hlt))
      rw [← nums_take] at HY2
      obtain ⟨x, hx⟩ : ∃ x, x = k * 48 := ⟨_, rfl⟩
      obtain ⟨z, hz⟩ : ∃ z, z = min 48 (n - x) := ⟨_, rfl⟩
      have hcv : chunkV a o n k = .slice (some ⟨a, o + x, none⟩) z z := by unfold chunkV; rw [← hx, hz]
      rw [hcv] at HY2
      have i4 : min (48 : Int) ((n : Int) - x) = (z : Int) := by omega
      have HX := Lib.hid hx
      rw [← hx] at hkn ⊢
      have hcx : ¬ c = x := by omega
      have hz1 : 1 ≤ z ∧ z ≤ 48 ∧ x + z ≤ n := by omega
      clear hx hz hcv hke hlen
      have i5 : min (48 : Int) ((n - x : Nat) : Int) = (z : Int) := by omega
      gi_wp2_with fail
      gi_region
      have hJ3 : J ((nums N).take k) w2.drew := HJ.out _ _ _ none HJ2.out ⟨rfl, rfl, rfl, Nat.le_refl _, fun _ _ _ => rfl⟩ (fun r e => by cases e)
      have e1 : w2.drew.heap[g1]? = W.heap[g1]? := hk1
      have e2 : w2.drew.heap[g2]? = W.heap[g2]? := hk2
      have d3 : w2.drew.cell? ⟨g1, 0, none⟩ = some (.slice (some ⟨a, o, none⟩) n c) := d1
      have d4 : w2.drew.cell? ⟨g2, 0, none⟩ = some (.int .i64 48) := d2
      generalize w2.drew = w3 at *
      obtain ⟨fn, tmps, assign, body, hy, hR⟩ := HY2.out w3 hJ3
      have HR := Lib.hid hR
      have i6 : IntKind.i64.wrap ((x : Int) + z) = (x : Int) + z := IntWalk.i64_in _ (by omega)
      clear hR hJ3 d1 d2 hk1 hk2 i4 i5 HJ2 HY2
      gi_wp2_with fail
      refine HR.out.mono ?_
      rintro e w4 (⟨rfl, hJ4, hk4⟩ | ⟨rfl, hJ4⟩)
      · have HJ4 := Lib.hid hJ4
        have f2 : w4.cell? ⟨g2, 0, none⟩ = some (.int .i64 48) := by rw [← d4]; exact World.cell?_of_block (w := w3) hk4.2
        clear hJ4 hy d3 d4
        gi_wp2
        go_roundw
        case rel => exact ⟨k + 1, by omega, by rw [HX.out]; go_num, HJ4.out, hk4.1.trans e1, hk4.2.trans e2⟩
        case measure => simp [intOf] <;> omega
      · have HJ4 := Lib.hid hJ4
        clear hJ4 hy
        gi_wp2
        refine bodyPost_ret (results_none rfl _ _ _) rfl ?_
        exact ⟨⟨_, rfl⟩, .inr ⟨_, List.take_prefix _ _, HJ4.out⟩⟩
    · obtain rfl : k = N := by omega
      have hJ3 := HJ2.out
      rw [List.take_of_length_le (by rw [nums_len]; omega)] at hJ3
      have HJ3 := Lib.hid hJ3
      have hge : ¬ ((k * 48 : Nat) : Int) < (n : Int) := by omega
      clear hJ3
      generalize k * 48 = x at *
      gi_wp2
      go_end0
      exact ⟨⟨_, rfl⟩, .inl (by first | exact HJ3.out | exact ⟨_, rfl, HJ3.out⟩)⟩
theorem chunk_in (m : Nat) (A : Option Addr) (n c : Nat) (w : World) :
    CallsIn Fence.wide m Try.prog 52 #[.slice A n c, .int .i64 48] w fun e w' => e = .returned (.func (.func 66) #[] #[.pointer (some ⟨w.heap.size, 0, none⟩), .pointer (some ⟨w.heap.size + 1, 0, none⟩)]) ∧
      w' = (w.alloc (.cells #[.slice A n c] 22)).alloc (.cells #[.int .i64 48] 3) := by
  refine callsIn_of_wp Try.func52 rfl trivial ?_ rfl
  simp only [Try.ntmps52, List.size_toArray, List.length_cons, List.length_nil, Nat.reduceAdd, Nat.reduceSub, Array.replicate_succ, Array.replicate_zero, List.push_toArray, List.append_toArray, List.nil_append, List.cons_append]
  gi_wp2
  go_ret
  exact ⟨rfl, rfl⟩
theorem chunk_stops (m g1 g2 : Nat) (A : Option Addr) (n c a o N : Nat) (hm : 1 ≤ m) (hN : N = (n + 47) / 48) (hA : 0 < n → A = some ⟨a, o, none⟩) (hn : n ≤ 1048576) (hc : n ≤ c) (hc2 : c ≤ maxLen)
    (w : World) (hb1 : w.cell? ⟨g1, 0, none⟩ = some (.slice A n c)) (hb2 : w.cell? ⟨g2, 0, none⟩ = some (.int .i64 48)) :
    SeqStopsK Fence.wide m Try.prog 66 #[.pointer (some ⟨g1, 0, none⟩), .pointer (some ⟨g2, 0, none⟩)] (fun x : Fin N => #[chunkV a o n x.1]) (KeptC g1 g2) (fun ys => ys = nums N) (fun pre => pre <+: nums N) N w :=
  fun l J Jx W hW hJ _ hY h0 => chunk1_in m l g1 g2 A n c a o N hm hN hA hn hc hc2 J Jx W hJ hY ((hW.cell (p := ⟨g1, 0, none⟩) (cell_lt hb1)).trans hb1) ((hW.cell (p := ⟨g2, 0, none⟩) (cell_lt hb2)).trans hb2) h0


theorem pieces_in (m : Nat) (A : Option Addr) (n c : Nat) (w : World) :
    CallsIn Fence.wide m Try.prog 29 #[.slice A n c] w fun e w' => e = .returned (.func (.func 51) #[] #[.pointer (some ⟨w.heap.size, 0, none⟩)]) ∧
      w' = w.alloc (.cells #[.slice A n c] 22) := by
  refine callsIn_of_wp Try.func29 rfl trivial ?_ rfl
  simp only [Try.ntmps29, List.size_toArray, List.length_cons, List.length_nil, Nat.reduceAdd, Nat.reduceSub, Array.replicate_succ, Array.replicate_zero, List.push_toArray, List.append_toArray, List.nil_append, List.cons_append]
  gi_wp2
  go_ret
  exact ⟨rfl, rfl⟩
/-- a piece that is handed on: its number, where it lies, and its bytes -/
structure Pc where
  i : Nat
  A : Option Addr
  c : Nat
  l : List UInt8
def Pc.at_ (x : Pc) (V : World) : Prop := x.l.length ≤ 48 ∧ x.i ≤ 1048576 ∧ x.l.length ≤ x.c ∧ x.c ≤ maxLen ∧ BytesAt V x.A x.l
def Pc.encs (x : Pc) : Array Value := #[.int .i64 (x.i : Nat), .slice x.A x.l.length x.c]
def Pc.key (x : Pc) : Nat × List UInt8 := (x.i, x.l)
/-- the blocks that a share's pieces are read from -/
def Blk (tb : Nat) (A : Option Addr) (b : List UInt8) (k : Nat) : Prop := k = tb ∨ (0 < b.length ∧ ∃ a, A = some a ∧ k = a.block)
def keys (b : List UInt8) (n : Nat) : List (Nat × List UInt8) := (List.range n).map fun i => (i, piece b i)
def keysP (b : List UInt8) {N : Nat} (pre : List (Fin N)) : List (Nat × List UInt8) := pre.mapIdx fun i x => (i, piece b x.1)
theorem keysP_snoc (b : List UInt8) {N : Nat} (pre : List (Fin N)) (x : Fin N) : keysP b (pre ++ [x]) = keysP b pre ++ [(pre.length, piece b x.1)] := by
  unfold keysP; rw [List.mapIdx_append]; simp
theorem keysP_all (b : List UInt8) (N : Nat) : keysP b (nums N) = keys b N := by
  unfold keysP keys nums
  apply List.ext_getElem
  · simp
  · intro i h1 h2
    simp
/-- between two rounds of the loop over chunks: what came, the iterator's blocks, what they hold -/
structure Pcs (W : World) (l : Nat) (J : List Pc → (Nat → Prop) → World → Prop) (tb yb nb c1 c2 s0 : Nat) (A : Option Addr) (b : List UInt8) (c : Nat) (ls : List (Nat × List UInt8)) (k : Nat) (V : World) : Prop where
  had : ∃ (xs : List Pc) (T : Nat → Prop), xs.map Pc.key = ls ∧ xs.length = k ∧ J xs T V ∧ T yb ∧ T nb ∧ T c1 ∧ T c2
  yb : Boxed V yb 84 (.func (.yield l) #[] #[])
  nb : Boxed V nb 3 (.int .i64 (k : Nat))
  tb : V.cell? ⟨tb, 0, none⟩ = some (.slice A b.length c)
  text : BytesAt V A b
  size : s0 ≤ V.heap.size
theorem Pcs.own {W : World} {l : Nat} {J : List Pc → (Nat → Prop) → World → Prop} {tb yb nb c1 c2 s0 B N : Nat} {A : Option Addr} {b : List UInt8} {c : Nat} (hJ : ∀ T, OwnFrom W.heap.size (fun s V => J s T V)) (hB : W.heap.size ≤ B) : OwnFrom B (fun (pre : List (Fin N)) V => Pcs W l J tb yb nb c1 c2 s0 A b c (keysP b pre) pre.length V) := fun s X Y row h hg hr => by
  obtain ⟨⟨xs, T, h1, h1', h2, h3⟩, h4, h5, h6, h7, h8⟩ := h
  have hr2 : ∀ r, row = some r → ∃ o : Obj, X.heap[r]? = some o ∧ o.isCells = false := fun r e => (hr r e).2
  refine ⟨⟨xs, T, h1, h1', hJ T xs X Y row h2 hg (fun r e => ⟨by have := (hr r e).1; omega, (hr r e).2⟩), h3⟩, ?_, ?_, cell_kept h6 hg hr2, fun i hi => ?_, Nat.le_trans h8 hg.size⟩
  · exact (grownBy_keeps_cells hg hr2 h4 rfl).trans h4
  · exact (grownBy_keeps_cells hg hr2 h5 rfl).trans h5
  · obtain ⟨x, y, e, hc⟩ := h7 i hi
    exact ⟨x, y, e, cell_kept hc hg hr2⟩
set_option maxHeartbeats 4000000 in
theorem pieces1_own (tb : Nat) (A : Option Addr) (b : List UInt8) (c : Nat) (hc : b.length ≤ c) (hc2 : c ≤ maxLen) (hb : b.length ≤ 1048576) (w0 : World) (h0 : w0.cell? ⟨tb, 0, none⟩ = some (.slice A b.length c)) (ht : BytesAt w0 A b) :
    SeqOwn Fence.wide 11 Try.prog 51 #[.pointer (some ⟨tb, 0, none⟩)] Pc.encs Pc.at_ (Blk tb A b) (fun xs => xs.map Pc.key = keys b (pieces b.length)) (pieces b.length) w0 := by
  intro l J W hW hJ1 hJ2 hY hJ0
  have HJ1 := Lib.hid hJ1; have HJ2 := Lib.hid hJ2; have HY := Lib.hid hY; have HJ0 := Lib.hid hJ0
  have e0 := (hW.cell (p := ⟨tb, 0, none⟩) (cell_lt h0)).trans h0
  have HT := Lib.hid (ht.below hW)
  have HW := Lib.hid hW
  clear hJ1 hJ2 hY hJ0 ht h0 hW
  obtain ⟨n, hn⟩ : ∃ n, n = b.length := ⟨_, rfl⟩
  have HN := Lib.hid hn
  rw [← hn] at e0 hc hb
  obtain ⟨N, hNN⟩ : ∃ N, N = pieces b.length := ⟨_, rfl⟩
  have hbn : N = (n + 47) / 48 := by rw [hNN, hn]; rfl
  rw [← hNN] at HY ⊢
  have hNl : N ≤ 30000 := by omega
  have HBN := Lib.hid hbn
  clear hn hbn hNN
  refine callsIn_of_wp_marks Try.func51 rfl trivial ?_ rfl
  simp only [Try.ntmps51, List.size_toArray, List.length_cons, List.length_nil, Nat.reduceAdd, Nat.reduceSub, Array.replicate_succ, Array.replicate_zero, List.push_toArray, List.append_toArray, List.nil_append, List.cons_append]
  have e1 := ((bstep (balloc W (.cells #[.func (.yield l) #[] #[]] 84)) (balloc _ (.cells #[.int .i64 0] 3))).cell (p := ⟨tb, 0, none⟩) (cell_lt e0)).trans e0
  gi_wp2_with fail
  refine ⟨trivial, ?_⟩
  refine (chunk_in _ A n c _).mono ?_
  rintro e w1 ⟨rfl, rfl⟩
  gi_wp2_with fail
  have HN0 : Hid (∃ a o, 0 < n → A = some ⟨a, o, none⟩) := Lib.hid (by
    by_cases h : 0 < b.length
    · obtain ⟨a, o, hA, _⟩ := HT.out 0 h
      exact ⟨a, o, fun _ => hA⟩
    · exact ⟨0, 0, fun h2 => absurd h2 (by rw [HN.out]; exact h)⟩)
  have b1 := (((Boxed.new W 84 (.func (.yield l) #[] #[])).alloc (.cells #[.int .i64 0] 3)).alloc (.cells #[.slice A n c] 22)).alloc (.cells #[.int .i64 48] 3)
  have b2 := ((Boxed.new (W.alloc (.cells #[.func (.yield l) #[] #[]] 84)) 3 (.int .i64 0)).alloc (.cells #[.slice A n c] 22)).alloc (.cells #[.int .i64 48] 3)
  have b3 := (Boxed.new ((W.alloc (.cells #[.func (.yield l) #[] #[]] 84)).alloc (.cells #[.int .i64 0] 3)) 22 (.slice A n c)).alloc (.cells #[.int .i64 48] 3)
  have b4 := Boxed.new (((W.alloc (.cells #[.func (.yield l) #[] #[]] 84)).alloc (.cells #[.int .i64 0] 3)).alloc (.cells #[.slice A n c] 22)) 3 (.int .i64 48)
  have hbw := bstep (bstep (bstep (balloc W (.cells #[.func (.yield l) #[] #[]] 84)) (balloc _ (.cells #[.int .i64 0] 3))) (balloc _ (.cells #[.slice A n c] 22))) (balloc _ (.cells #[.int .i64 48] 3))
  have hsz : ((((W.alloc (.cells #[.func (.yield l) #[] #[]] 84)).alloc (.cells #[.int .i64 0] 3)).alloc (.cells #[.slice A n c] 22)).alloc (.cells #[.int .i64 48] 3)).heap.size = W.heap.size + 4 := by simp
  simp only [World.size_alloc] at b1 b2 b3 b4
  obtain ⟨W0, hW0⟩ : ∃ W0, (((W.alloc (.cells #[.func (.yield l) #[] #[]] 84)).alloc (.cells #[.int .i64 0] 3)).alloc (.cells #[.slice A n c] 22)).alloc (.cells #[.int .i64 48] 3) = W0 := ⟨_, rfl⟩
  rw [hW0] at b1 b2 b3 b4 hbw hsz ⊢
  clear hW0 e1
  have HJS : Hid (J [] (plus (fun _ => False) W W0) W0) := Lib.hid (HJ2.out _ _ _ _ HJ0.out (.of_below _ hbw))
  have etb := (hbw.cell (p := ⟨tb, 0, none⟩) (cell_lt e0)).trans e0
  obtain ⟨a, o, hao⟩ := HN0.out
  have HAO := Lib.hid hao
  clear hao
  have hW0 : W0.heap.size = W.heap.size + 1 + 1 + 1 + 1 := by omega
  obtain ⟨yb, hyb⟩ : ∃ yb, yb = W.heap.size := ⟨_, rfl⟩
  obtain ⟨nb, hnb⟩ : ∃ nb, nb = W.heap.size + 1 := ⟨_, rfl⟩
  obtain ⟨c1, hc1⟩ : ∃ c1, c1 = W.heap.size + 1 + 1 := ⟨_, rfl⟩
  obtain ⟨c2, hc2'⟩ : ∃ c2, c2 = W.heap.size + 1 + 1 + 1 := ⟨_, rfl⟩
  rw [← hc2'] at b4 ⊢
  rw [← hc1] at b3 ⊢
  rw [← hnb] at b2 ⊢
  rw [← hyb] at b1 ⊢
  have HBX : Hid (nb ≠ c1 ∧ nb ≠ c2 ∧ nb ≠ yb ∧ c1 < W0.heap.size ∧ c2 < W0.heap.size ∧ nb < W0.heap.size ∧ yb < W0.heap.size ∧ W.heap.size ≤ nb ∧ W.heap.size ≤ yb ∧ W.heap.size ≤ c1 ∧ W.heap.size ≤ c2) := Lib.hid (by omega)
  have HS0 : Hid (Pcs W l J tb yb nb c1 c2 W0.heap.size A b c [] 0 W0) := Lib.hid ⟨⟨[], _, rfl, rfl, HJS.out, .inr (by omega), .inr (by omega), .inr (by omega), .inr (by omega)⟩, b1, b2, by rw [← HN.out]; exact etb, HT.out.below hbw, Nat.le_refl _⟩
  have HST := Lib.hid (chunk_stops 10 c1 c2 A n c a o N (by omega) HBN.out HAO.out (by omega) hc hc2 W0 b3.cell b4.cell)
  have hWle : W.heap.size ≤ W0.heap.size := by omega
  have hc1lt : c1 < W0.heap.size := by omega
  have hc2lt : c2 < W0.heap.size := by omega
  clear hyb hnb hc1 hc2' hW0 hsz hbw b1 b2 b3 b4 etb e0 HJS HJ0 HN0
  refine wpIn_rangeFunc_ownG rfl (by omega) (gf := 66) (lb := #[.pointer (some ⟨c1, 0, none⟩), .pointer (some ⟨c2, 0, none⟩)]) rfl trivial (enters_of Try.func66 (by kernel_rfl) rfl)
    HST.out (fun h k => ⟨k.1.trans h.1, k.2.trans h.2⟩) (fun V q x x' hq _ _ _ => ⟨World.putObj_heap_other (by omega), World.putObj_heap_other (by omega)⟩) (Below.refl _ _) (fun _ => rfl)
    (fun pre V => Pcs W l J tb yb nb c1 c2 W0.heap.size A b c (keysP b pre) pre.length V) (fun _ _ _ => False) (Pcs.own HJ1.out hWle) (fun _ _ _ _ _ hs _ _ => hs) HS0.out
    (fun x => { tmps := #[.func (.yield l) #[] #[], .pointer (some ⟨tb, 0, none⟩), .pointer (some ⟨yb, 0, none⟩), .pointer (some ⟨nb, 0, none⟩), chunkV a o n x.1, .slice A n c, .func (.func 66) #[] #[.pointer (some ⟨c1, 0, none⟩), .pointer (some ⟨c2, 0, none⟩)], chunkV a o n x.1, undef, undef, undef, undef, undef, undef, undef], defers := [] }) ?assign ?body ?done ?stop
  case assign =>
    intro q x V K hK
    gi_wp2
    exact hK
  case body =>
    rintro q pre x V hB hlt
    have HBD := Lib.hid hB
    clear hB
    have HSN := Lib.hid (keysP_snoc b pre x)
    obtain ⟨ls2, hls2⟩ : ∃ q, q = keysP b (pre ++ [x]) := ⟨_, rfl⟩
    rw [← hls2] at HSN
    obtain ⟨k, hkk⟩ : ∃ k, k = pre.length := ⟨_, rfl⟩
    rw [← hkk] at HBD hlt HSN
    have HGO : Hid (∀ V', Pcs W l J tb yb nb c1 c2 W0.heap.size A b c ls2 (k + 1) V' → Pcs W l J tb yb nb c1 c2 W0.heap.size A b c (keysP b (pre ++ [x])) (pre ++ [x]).length V') := Lib.hid fun V' h => by rw [List.length_append, List.length_singleton, ← hls2, ← hkk]; exact h
    have HLT := Lib.hid hlt
    have hxn : x.1 * 48 < n := by have h1 := x.2; have h2 := HBN.out; omega
    generalize keysP b pre = ls at *
    have hcl : (piece b x.1).length = min 48 (n - x.1 * 48) := by unfold piece; rw [List.length_take, List.length_drop, ← HN.out]; omega
    have HCH : Hid (∀ V', BytesAt V' A b → BytesAt V' (some ⟨a, o + x.1 * 48, none⟩) (piece b x.1)) := Lib.hid fun V' h => by
      rw [HAO.out (by omega)] at h
      have := (h.drop (48 * x.1)).take 48
      rw [Nat.mul_comm 48 x.1] at this
      unfold piece
      rw [Nat.mul_comm 48 x.1]
      exact this
    have hcv : chunkV a o n x.1 = .slice (some ⟨a, o + x.1 * 48, none⟩) (piece b x.1).length (piece b x.1).length := by unfold chunkV; rw [hcl]
    rw [hcv]
    have hcl48 : (piece b x.1).length ≤ 48 := by omega
    generalize piece b x.1 = ch at *
    generalize o + x.1 * 48 = ox at *
    clear hcv hcl hxn hkk hlt hls2
    have e1 := HBD.out.nb.cell
    have e2 := HBD.out.yb.cell
    obtain ⟨xs, T, h1, h2, h3, h5, h6, h7, h8⟩ := HBD.out.had
    have hy := HY.out xs ⟨k, some ⟨a, ox, none⟩, ch.length, ch⟩ T V h3 ⟨hcl48, by have := HLT.out; show k ≤ _; omega, Nat.le_refl _, by show ch.length ≤ _; unfold maxLen; omega, HCH.out V HBD.out.text⟩ (by have := HLT.out; omega)
    obtain ⟨fn, tmps, assign, body, hy1, hy2⟩ := yield_all rfl hy
    have hy1' : (Instr.yield l #[.int .i64 (k : Nat), .slice (some ⟨a, ox, none⟩) ch.length ch.length]).run Try.prog V = .ok (.round l fn tmps assign body) V := hy1
    have HR := Lib.hid hy2
    have HX1 := Lib.hid h1; have HX2 := Lib.hid h2; have HX5 := Lib.hid h5; have HX6 := Lib.hid h6; have HX7 := Lib.hid h7; have HX8 := Lib.hid h8
    clear hy hy1 hy2 h1 h2 h3 h5 h6 h7 h8
    gi_wp2_with fail
    refine (HR.out _ _).mono ?_
    rintro e V6 ⟨rfl, r1, r2, r3⟩
    have bn : Boxed V6 nb 3 (.int .i64 (k : Nat)) := boxed_keep HBD.out.nb r2 (fun h => h.1 HX6.out)
    have qs : Keeps T V6 (V6.setCell ⟨nb, 0, none⟩ (.int .i64 ((k : Int) + 1))) := .set _ _ _ _ HX6.out
    have hx := HBX.out
    have hVs := HBD.out.size
    have FIN : Hid (KeepsFrom W0.heap.size V (V6.setCell ⟨nb, 0, none⟩ (.int .i64 ((k : Int) + 1))) ∧ KeptC c1 c2 V (V6.setCell ⟨nb, 0, none⟩ (.int .i64 ((k : Int) + 1))) ∧ Pcs W l J tb yb nb c1 c2 W0.heap.size A b c ls2 (k + 1) (V6.setCell ⟨nb, 0, none⟩ (.int .i64 ((k : Int) + 1)))) := Lib.hid (by
      refine ⟨(keepsFrom_mono r3 hWle).trans ((KeepsOthers.setCell _ _ _).from _), ⟨?_, ?_⟩, ⟨_, _, by rw [List.map_append, HX1.out]; exact HSN.out.symm, by rw [List.length_append, HX2.out]; rfl, HJ2.out _ T V6 _ r1 qs, .inl HX5.out, .inl HX6.out, .inl HX7.out, .inl HX8.out⟩, ?_, ?_, ?_, ?_, ?_⟩
      · exact (Below.heap_setCell _ _ _ _ (by simp only; omega)).trans (r2.block c1 (by omega) (fun h => h.1 HX7.out))
      · exact (Below.heap_setCell _ _ _ _ (by simp only; omega)).trans (r2.block c2 (by omega) (fun h => h.1 HX8.out))
      · exact (boxed_keep HBD.out.yb r2 (fun h => h.1 HX5.out)).other (by omega) _
      · exact bn.set _
      · have ht := r2.cell HBD.out.tb (fun h => h.2 (.inl rfl))
        by_cases e : tb = nb
        · subst e
          have := bn.cell
          rw [ht] at this
          cases this
        · exact (World.cell?_setCell_other _ _ _ _ (by intro h'; cases h'; exact e rfl)).trans ht
      · exact (r2.bytes' HBD.out.text (fun h0 a e h => h.2 (.inr ⟨h0, a, e, rfl⟩))).far' _ _ (fun h0 a e => by have := HT.out.lt h0 a e; simp only; omega)
      · have h9s := r2.size
        have hz : (V6.setCell ⟨nb, 0, none⟩ (.int .i64 ((k : Int) + 1))).heap.size = V6.heap.size := by simp
        omega)
    have e5 := bn.cell
    have f5 := bn.frozen
    have hkl : k < N := HLT.out
    have e6 : IntKind.i64.wrap ((k : Int) + 1) = (k : Int) + 1 := IntWalk.i64_in _ (by omega)
    clear hkl r1 r2 r3 bn qs hx hVs e1 e2 hy1'
    gi_wp2
    exact ⟨FIN.out.1, FIN.out.2.1, HGO.out _ FIN.out.2.2⟩
  case done =>
    rintro D ys V hD rfl hB hK
    rw [nums_len, keysP_all] at hB
    obtain ⟨xs, T, h1, h2, h3, -⟩ := hB.had
    have HX := Lib.hid h1
    have HJX := Lib.hid h3
    clear h1 h2 h3 hB
    gi_wp2
    refine ⟨by simp, .inl ⟨_, _, rfl, run_takeDeferred hK, ?_⟩⟩
    exact ⟨_, results_none rfl _ _ _, ⟨_, rfl⟩, xs, T, by first | exact HX.out | (have := HX.out; have e := HBN.out; unfold pieces; rw [← HN.out, ← e]; exact this), (HJ1.out T).putObj (s := xs) _ HJX.out (by omega) hK rfl⟩
  case stop =>
    rintro D c pre V _ _ h _
    exact h.elim
end Go.Proofs.Ytnjghhkebcojnaa.Record

/- package record: head, body -/
set_option maxRecDepth 100000
namespace Go.Proofs.Ytnjghhkebcojnaa.RecM
open SecM PackM CrcM SupM
/-- the bytes that are written of whatever there is -/
def wrH (h : Hd) (n : Nat) : List UInt8 := numB 1 72 ++ numB 1 h.K ++ LabM.putB h.s.data.toList ++ numB 4 h.A ++ numB 4 h.E ++ numB 4 h.M ++ numB 2 h.S ++ numB 1 (n : Nat)
def wrB (h : Hd) (i : Nat) (l : List UInt8) : List UInt8 := numB 1 66 ++ numB 1 (i : Nat) ++ numB 1 h.K ++ numB 4 h.A ++ numB 4 h.E ++ textB l
theorem numB_one (n : Int) : numB 1 n = [UInt8.ofNat (n.toNat % 256)] := rfl
theorem numB_four (n : Int) : numB 4 n = be 4 n.toNat := rfl
theorem numB_two (n : Int) : numB 2 n = be 2 n.toNat := rfl
theorem wrH_head (h : Hd) (sh : List UInt8) (hm : (h.rc sh).May) : wrH h sh.length = (h.rc sh).head := by
  have hK : 1 ≤ (h.rc sh).K ∧ (h.rc sh).K ≤ 5 := by have := hm.kind; unfold Rc.kind at this; omega
  have hs : sh.length ≤ 240 := hm.sh
  have e1 : (h.rc sh).K = h.K := rfl
  rw [e1] at hK
  unfold wrH Rc.head
  rw [numB_one, numB_one, numB_one, numB_four, numB_four, numB_four, numB_two, Nat.mod_eq_of_lt (show h.K.toNat < 256 by omega), Nat.mod_eq_of_lt (show ((sh.length : Nat) : Int).toNat < 256 by omega)]
  simp only [List.append_assoc, List.cons_append, List.nil_append]
  rfl
theorem wrB_body (h : Hd) (sh : List UInt8) (hm : (h.rc sh).May) (i : Nat) (hi : i < 256) : wrB h i (piece sh i) = (h.rc sh).body i := by
  have hK : 1 ≤ (h.rc sh).K ∧ (h.rc sh).K ≤ 5 := by have := hm.kind; unfold Rc.kind at this; omega
  have hp := piece_len sh i
  have e1 : (h.rc sh).K = h.K := rfl
  rw [e1] at hK
  unfold wrB Rc.body textB
  rw [numB_one, numB_one, numB_one, numB_four, numB_four, Nat.mod_eq_of_lt (show h.K.toNat < 256 by omega), Nat.mod_eq_of_lt (show ((i : Nat) : Int).toNat < 256 by omega), Nat.min_eq_left (by omega), List.take_of_length_le (by omega)]
  simp only [List.append_assoc, List.cons_append, List.nil_append]
  rfl
end Go.Proofs.Ytnjghhkebcojnaa.RecM
namespace Go.Proofs.Ytnjghhkebcojnaa.Record
open Go.RowKit RecM

/-- ahead of a Writer's next call: what it holds, and that nothing else was written -/
structure Wrt (w0 w : World) (g p : Nat) (h : Hd) (B : Option Addr) (n c : Nat) (v : Value) (l : List UInt8) : Prop where
  at_ : Pack.WAt w g g v l
  below : Below w0.heap.size w0 w
  first : w0.heap.size ≤ p
  ne : p < g
  rc : RecB w p h B n c
theorem Wrt.lt {w0 w : World} {g p : Nat} {h : Hd} {B : Option Addr} {n c : Nat} {v : Value} {l : List UInt8} (k : Wrt w0 w g p h B n c v l) : g ≤ w.heap.size := by have := k.at_.lt; omega
theorem Wrt.next {w0 w w' : World} {g p : Nat} {h : Hd} {B : Option Addr} {n c : Nat} {v : Value} {l m : List UInt8} {e : Ending} (q : Wrt w0 w g p h B n c v l) (k : Pack.WPost w g g v m e w') : e = .returned (.tuple #[]) ∧ ∃ v', Wrt w0 w' g p h B n c v' m := by
  obtain ⟨he, v', h1, q1, _⟩ := k
  have hf := q.first; have hn := q.ne
  exact ⟨he, v', h1, Pack.below_w q.at_ q.below q1 (by omega) (by omega) q.below.size, hf, hn, q.rc.keep q1 (fun hk => by
    rcases hk with rfl | hk
    · omega
    · have := (q.at_.own.lt _ hk).1; omega)⟩
theorem Wrt.start (w : World) (h : Hd) (B : Option Addr) (n c : Nat) (u : TypeId) : Wrt w ((w.alloc (.cells #[.int .i64 h.K, .string h.s, .int .i64 h.A, .int .i64 h.E, .int .i64 h.M, .int .i64 h.S, .slice B n c] 24)).alloc (.cells #[.slice none 0 0] u)) (w.heap.size + 1) w.heap.size h B n c (.slice none 0 0) [] := by
  have h1 := Pack.WAt.start (w.alloc (.cells #[.int .i64 h.K, .string h.s, .int .i64 h.A, .int .i64 h.E, .int .i64 h.M, .int .i64 h.S, .slice B n c] 24)) u
  have e : (w.alloc (.cells #[.int .i64 h.K, .string h.s, .int .i64 h.A, .int .i64 h.E, .int .i64 h.M, .int .i64 h.S, .slice B n c] 24)).heap.size = w.heap.size + 1 := by simp
  rw [e] at h1
  exact ⟨h1, bstep (balloc w _) (balloc _ _), Nat.le_refl _, by omega, (RecB.new w h B n c).below (balloc _ _)⟩
/-- what lies in memory of before is not the Writer's -/
theorem Wrt.far {w0 w : World} {g p : Nat} {h : Hd} {B : Option Addr} {n c : Nat} {v : Value} {l : List UInt8} (q : Wrt w0 w g p h B n c v l) {A : Option Addr} {m : List UInt8} (hA : BytesAt w0 A m) : 0 < m.length → ∀ a, A = some a → a.block ≠ g ∧ v.ownBlock ≠ some a.block := fun h0 a e => by
  have h1 := hA.lt h0 a e
  have hf := q.first; have hn := q.ne
  exact ⟨by omega, fun e2 => by have := (q.at_.own.lt _ e2).1; omega⟩
set_option maxHeartbeats 1000000 in
theorem head_any (h : Hd) (hf : Fits h) (B : Option Addr) (n c : Nat) (hn : n ≤ 1048576) (w : World) :
    Calls Try.prog 28 #[.agg #[.int .i64 h.K, .string h.s, .int .i64 h.A, .int .i64 h.E, .int .i64 h.M, .int .i64 h.S, .slice B n c]] w (RetNew w (wrH h n)) := by
  obtain ⟨fK, fs, fA, fE, fM, fS⟩ := hf
  have W1 : PackM.wid 1 = 1 := rfl
  have W2 : PackM.wid 2 = 2 := rfl
  have W4 : PackM.wid 4 = 4 := rfl
  have e0 : wrH h n = PackM.numB 1 72 ++ PackM.numB 1 h.K ++ LabM.putB h.s.data.toList ++ PackM.numB 4 h.A ++ PackM.numB 4 h.E ++ PackM.numB 4 h.M ++ PackM.numB 2 h.S ++ PackM.numB 1 (n : Nat) := rfl
  have hfl : (PackM.numB 1 72 ++ PackM.numB 1 h.K ++ LabM.putB h.s.data.toList ++ PackM.numB 4 h.A ++ PackM.numB 4 h.E ++ PackM.numB 4 h.M ++ PackM.numB 2 h.S ++ PackM.numB 1 (n : Nat)).length ≤ 1000 := by simp only [List.length_append, PackM.numB_len, LabM.putB_len, W1, W2, W4]; omega
  have l1 : (PackM.numB 1 72).length ≤ 1000 := by simp only [List.length_append] at hfl ⊢; omega
  have l2 : (PackM.numB 1 72 ++ PackM.numB 1 h.K).length ≤ 1000 := by simp only [List.length_append] at hfl ⊢; omega
  have l3 : (PackM.numB 1 72 ++ PackM.numB 1 h.K ++ LabM.putB h.s.data.toList).length ≤ 1000 := by simp only [List.length_append] at hfl ⊢; omega
  have l4 : (PackM.numB 1 72 ++ PackM.numB 1 h.K ++ LabM.putB h.s.data.toList ++ PackM.numB 4 h.A).length ≤ 1000 := by simp only [List.length_append] at hfl ⊢; omega
  have l5 : (PackM.numB 1 72 ++ PackM.numB 1 h.K ++ LabM.putB h.s.data.toList ++ PackM.numB 4 h.A ++ PackM.numB 4 h.E).length ≤ 1000 := by simp only [List.length_append] at hfl ⊢; omega
  have l6 : (PackM.numB 1 72 ++ PackM.numB 1 h.K ++ LabM.putB h.s.data.toList ++ PackM.numB 4 h.A ++ PackM.numB 4 h.E ++ PackM.numB 4 h.M).length ≤ 1000 := by simp only [List.length_append] at hfl ⊢; omega
  have l7 : (PackM.numB 1 72 ++ PackM.numB 1 h.K ++ LabM.putB h.s.data.toList ++ PackM.numB 4 h.A ++ PackM.numB 4 h.E ++ PackM.numB 4 h.M ++ PackM.numB 2 h.S).length ≤ 1000 := by simp only [List.length_append] at hfl ⊢; omega
  have l8 : (PackM.numB 1 72 ++ PackM.numB 1 h.K ++ LabM.putB h.s.data.toList ++ PackM.numB 4 h.A ++ PackM.numB 4 h.E ++ PackM.numB 4 h.M ++ PackM.numB 2 h.S ++ PackM.numB 1 (n : Nat)).length ≤ 1000 := by simp only [List.length_append] at hfl ⊢; omega
  have C0 := Lib.hid (fun W g v q hb => Pack.wnum_any g g v [] 1 72 W q (by simp) hb (by omega))
  have C1 := Lib.hid (fun W g v q hb => Pack.wnum_any g g v (PackM.numB 1 72) 1 h.K W q (by omega) hb fK)
  have C2 := Lib.hid (fun W g v q hb => Label.put_any g g v (PackM.numB 1 72 ++ PackM.numB 1 h.K) h.s W q (by omega) hb fs)
  have C3 := Lib.hid (fun W g v q hb => Pack.wnum_any g g v (PackM.numB 1 72 ++ PackM.numB 1 h.K ++ LabM.putB h.s.data.toList) 4 h.A W q (by omega) hb fA)
  have C4 := Lib.hid (fun W g v q hb => Pack.wnum_any g g v (PackM.numB 1 72 ++ PackM.numB 1 h.K ++ LabM.putB h.s.data.toList ++ PackM.numB 4 h.A) 4 h.E W q (by omega) hb fE)
  have C5 := Lib.hid (fun W g v q hb => Pack.wnum_any g g v (PackM.numB 1 72 ++ PackM.numB 1 h.K ++ LabM.putB h.s.data.toList ++ PackM.numB 4 h.A ++ PackM.numB 4 h.E) 4 h.M W q (by omega) hb fM)
  have C6 := Lib.hid (fun W g v q hb => Pack.wnum_any g g v (PackM.numB 1 72 ++ PackM.numB 1 h.K ++ LabM.putB h.s.data.toList ++ PackM.numB 4 h.A ++ PackM.numB 4 h.E ++ PackM.numB 4 h.M) 2 h.S W q (by omega) hb fS)
  have C7 := Lib.hid (fun W g v q hb => Pack.wnum_any g g v (PackM.numB 1 72 ++ PackM.numB 1 h.K ++ LabM.putB h.s.data.toList ++ PackM.numB 4 h.A ++ PackM.numB 4 h.E ++ PackM.numB 4 h.M ++ PackM.numB 2 h.S) 1 (n : Nat) W q (by omega) hb (by omega))
  have C8 := Lib.hid (fun W g v q => Pack.wbytes_any g g v (wrH h n) W q (by rw [e0]; omega))
  rw [List.nil_append] at C0
  rw [← e0] at C7
  generalize wrH h n = R at *
  clear hfl e0
  clear l8
  generalize PackM.numB 1 72 ++ PackM.numB 1 h.K ++ LabM.putB h.s.data.toList ++ PackM.numB 4 h.A ++ PackM.numB 4 h.E ++ PackM.numB 4 h.M ++ PackM.numB 2 h.S = L7 at *
  generalize PackM.numB 1 72 ++ PackM.numB 1 h.K ++ LabM.putB h.s.data.toList ++ PackM.numB 4 h.A ++ PackM.numB 4 h.E ++ PackM.numB 4 h.M = L6 at *
  generalize PackM.numB 1 72 ++ PackM.numB 1 h.K ++ LabM.putB h.s.data.toList ++ PackM.numB 4 h.A ++ PackM.numB 4 h.E = L5 at *
  generalize PackM.numB 1 72 ++ PackM.numB 1 h.K ++ LabM.putB h.s.data.toList ++ PackM.numB 4 h.A = L4 at *
  generalize PackM.numB 1 72 ++ PackM.numB 1 h.K ++ LabM.putB h.s.data.toList = L3 at *
  generalize PackM.numB 1 72 ++ PackM.numB 1 h.K = L2 at *
  generalize PackM.numB 1 72 = L1 at *
  clear l1 l2 l3 l4 l5 l6 l7
  clear fK fs fA fE fM fS W1 W2 W4
  go_enter Try.func28, Try.ntmps28
  go_wp2_with fail
  have h0 := Wrt.start w h B n c 79
  obtain ⟨g, hg⟩ : ∃ g, g = w.heap.size + 1 := ⟨_, rfl⟩
  obtain ⟨p, hp⟩ : ∃ p, p = w.heap.size := ⟨_, rfl⟩
  rw [← hg] at h0 ⊢
  generalize (w.alloc (.cells #[.int .i64 h.K, .string h.s, .int .i64 h.A, .int .i64 h.E, .int .i64 h.M, .int .i64 h.S, .slice B n c] 24)).alloc (.cells #[.slice none 0 0] 79) = w1 at *
  have H0 : Hid (Wrt w w1 g p h B n c (.slice none 0 0) []) := Lib.hid (by rw [hp]; exact h0)
  rw [← hp]
  clear h0 hg hp
  refine (C0.out w1 g _ H0.out.at_ H0.out.lt).mono ?_
  rintro e w2 k
  obtain ⟨rfl, v1, h1⟩ := H0.out.next k
  have H1 := Lib.hid h1
  have cc := h1.rc.c0
  clear h1 k H0 C0
  go_wp2_with fail
  refine (C1.out w2 g _ H1.out.at_ H1.out.lt).mono ?_
  rintro e w3 k
  obtain ⟨rfl, v2, h2⟩ := H1.out.next k
  have H2 := Lib.hid h2
  clear cc
  have cc := h2.rc.c1
  clear h2 k H1 C1
  go_wp2_with fail
  refine (C2.out w3 g _ H2.out.at_ H2.out.lt).mono ?_
  rintro e w4 k
  obtain ⟨rfl, v3, h3⟩ := H2.out.next k
  have H3 := Lib.hid h3
  clear cc
  have cc := h3.rc.c2
  clear h3 k H2 C2
  go_wp2_with fail
  refine (C3.out w4 g _ H3.out.at_ H3.out.lt).mono ?_
  rintro e w5 k
  obtain ⟨rfl, v4, h4⟩ := H3.out.next k
  have H4 := Lib.hid h4
  clear cc
  have cc := h4.rc.c3
  clear h4 k H3 C3
  go_wp2_with fail
  refine (C4.out w5 g _ H4.out.at_ H4.out.lt).mono ?_
  rintro e w6 k
  obtain ⟨rfl, v5, h5⟩ := H4.out.next k
  have H5 := Lib.hid h5
  clear cc
  have cc := h5.rc.c4
  clear h5 k H4 C4
  go_wp2_with fail
  refine (C5.out w6 g _ H5.out.at_ H5.out.lt).mono ?_
  rintro e w7 k
  obtain ⟨rfl, v6, h6⟩ := H5.out.next k
  have H6 := Lib.hid h6
  clear cc
  have cc := h6.rc.c5
  clear h6 k H5 C5
  go_wp2_with fail
  refine (C6.out w7 g _ H6.out.at_ H6.out.lt).mono ?_
  rintro e w8 k
  obtain ⟨rfl, v7, h7⟩ := H6.out.next k
  have H7 := Lib.hid h7
  clear cc
  have cc := h7.rc.c6
  clear h7 k H6 C6
  go_wp2_with fail
  refine (C7.out w8 g _ H7.out.at_ H7.out.lt).mono ?_
  rintro e w9 k
  obtain ⟨rfl, v8, h8⟩ := H7.out.next k
  have H8 := Lib.hid h8
  clear cc
  clear h8 k H7 C7
  go_wp2_with fail
  refine (C8.out w9 g _ H8.out.at_).mono ?_
  rintro e w10 ⟨X, d, rfl, g1, g2, g3, hb, hn⟩
  have G3 := Lib.hid g3; have HN := Lib.hid hn
  clear g3 hn
  go_wp2
  go_ret
  exact ⟨X, d, rfl, g1, g2, G3.out, bstep H8.out.below hb, HN.out.mono H8.out.below.size⟩
set_option maxHeartbeats 1000000 in
theorem body_any (h : Hd) (hf : Fits h) (B : Option Addr) (n c : Nat) (i : Nat) (hi : i ≤ 1048576) (A : Option Addr) (l : List UInt8) (d : Nat) (w : World) (hA : BytesAt w A l) (hl : l.length ≤ 255) (hd : l.length ≤ d) (hd2 : d ≤ maxLen) :
    Calls Try.prog 30 #[.agg #[.int .i64 h.K, .string h.s, .int .i64 h.A, .int .i64 h.E, .int .i64 h.M, .int .i64 h.S, .slice B n c], .int .i64 (i : Nat), .slice A l.length d] w (RetNew w (wrB h i l)) := by
  obtain ⟨fK, fs, fA, fE, fM, fS⟩ := hf
  have W1 : PackM.wid 1 = 1 := rfl
  have W2 : PackM.wid 2 = 2 := rfl
  have W4 : PackM.wid 4 = 4 := rfl
  have HP := Lib.hid hA
  clear hA
  have e0 : wrB h i l = PackM.numB 1 66 ++ PackM.numB 1 (i : Nat) ++ PackM.numB 1 h.K ++ PackM.numB 4 h.A ++ PackM.numB 4 h.E ++ PackM.textB l := rfl
  have hfl : (PackM.numB 1 66 ++ PackM.numB 1 (i : Nat) ++ PackM.numB 1 h.K ++ PackM.numB 4 h.A ++ PackM.numB 4 h.E ++ PackM.textB l).length ≤ 1000 := by simp only [List.length_append, PackM.numB_len, PackM.textB_len, W1, W4]; omega
  have l1 : (PackM.numB 1 66).length ≤ 1000 := by simp only [List.length_append] at hfl ⊢; omega
  have l2 : (PackM.numB 1 66 ++ PackM.numB 1 (i : Nat)).length ≤ 1000 := by simp only [List.length_append] at hfl ⊢; omega
  have l3 : (PackM.numB 1 66 ++ PackM.numB 1 (i : Nat) ++ PackM.numB 1 h.K).length ≤ 1000 := by simp only [List.length_append] at hfl ⊢; omega
  have l4 : (PackM.numB 1 66 ++ PackM.numB 1 (i : Nat) ++ PackM.numB 1 h.K ++ PackM.numB 4 h.A).length ≤ 1000 := by simp only [List.length_append] at hfl ⊢; omega
  have l5 : (PackM.numB 1 66 ++ PackM.numB 1 (i : Nat) ++ PackM.numB 1 h.K ++ PackM.numB 4 h.A ++ PackM.numB 4 h.E).length ≤ 1000 := by simp only [List.length_append] at hfl ⊢; omega
  have l6 : (PackM.numB 1 66 ++ PackM.numB 1 (i : Nat) ++ PackM.numB 1 h.K ++ PackM.numB 4 h.A ++ PackM.numB 4 h.E ++ PackM.textB l).length ≤ 1000 := by simp only [List.length_append] at hfl ⊢; omega
  have C0 := Lib.hid (fun W g v q hb => Pack.wnum_any g g v [] 1 66 W q (by simp) hb (by omega))
  have C1 := Lib.hid (fun W g v q hb => Pack.wnum_any g g v (PackM.numB 1 66) 1 (i : Nat) W q (by omega) hb (by omega))
  have C2 := Lib.hid (fun W g v q hb => Pack.wnum_any g g v (PackM.numB 1 66 ++ PackM.numB 1 (i : Nat)) 1 h.K W q (by omega) hb fK)
  have C3 := Lib.hid (fun W g v q hb => Pack.wnum_any g g v (PackM.numB 1 66 ++ PackM.numB 1 (i : Nat) ++ PackM.numB 1 h.K) 4 h.A W q (by omega) hb fA)
  have C4 := Lib.hid (fun W g v q hb => Pack.wnum_any g g v (PackM.numB 1 66 ++ PackM.numB 1 (i : Nat) ++ PackM.numB 1 h.K ++ PackM.numB 4 h.A) 4 h.E W q (by omega) hb fE)
  have C5 := Lib.hid (fun W g v q hb hA hne => Pack.wtext_any g g v (PackM.numB 1 66 ++ PackM.numB 1 (i : Nat) ++ PackM.numB 1 h.K ++ PackM.numB 4 h.A ++ PackM.numB 4 h.E) A l d W q (by omega) hb hA (by omega) hd hd2 hne)
  have C6 := Lib.hid (fun W g v q => Pack.wbytes_any g g v (wrB h i l) W q (by rw [e0]; omega))
  rw [List.nil_append] at C0
  rw [← e0] at C5
  generalize wrB h i l = R at *
  clear hfl e0
  clear l6
  generalize PackM.numB 1 66 ++ PackM.numB 1 (i : Nat) ++ PackM.numB 1 h.K ++ PackM.numB 4 h.A ++ PackM.numB 4 h.E = L5 at *
  generalize PackM.numB 1 66 ++ PackM.numB 1 (i : Nat) ++ PackM.numB 1 h.K ++ PackM.numB 4 h.A = L4 at *
  generalize PackM.numB 1 66 ++ PackM.numB 1 (i : Nat) ++ PackM.numB 1 h.K = L3 at *
  generalize PackM.numB 1 66 ++ PackM.numB 1 (i : Nat) = L2 at *
  generalize PackM.numB 1 66 = L1 at *
  clear l1 l2 l3 l4 l5
  clear fK fs fA fE fM fS W1 W2 W4
  go_enter Try.func30, Try.ntmps30
  go_wp2_with fail
  have h0 := Wrt.start w h B n c 79
  obtain ⟨g, hg⟩ : ∃ g, g = w.heap.size + 1 := ⟨_, rfl⟩
  obtain ⟨p, hp⟩ : ∃ p, p = w.heap.size := ⟨_, rfl⟩
  rw [← hg] at h0 ⊢
  generalize (w.alloc (.cells #[.int .i64 h.K, .string h.s, .int .i64 h.A, .int .i64 h.E, .int .i64 h.M, .int .i64 h.S, .slice B n c] 24)).alloc (.cells #[.slice none 0 0] 79) = w1 at *
  have H0 : Hid (Wrt w w1 g p h B n c (.slice none 0 0) []) := Lib.hid (by rw [hp]; exact h0)
  rw [← hp]
  clear h0 hg hp
  refine (C0.out w1 g _ H0.out.at_ H0.out.lt).mono ?_
  rintro e w2 k
  obtain ⟨rfl, v1, h1⟩ := H0.out.next k
  have H1 := Lib.hid h1
  clear h1 k H0 C0
  go_wp2_with fail
  refine (C1.out w2 g _ H1.out.at_ H1.out.lt).mono ?_
  rintro e w3 k
  obtain ⟨rfl, v2, h2⟩ := H1.out.next k
  have H2 := Lib.hid h2
  have cc := h2.rc.c0
  clear h2 k H1 C1
  go_wp2_with fail
  refine (C2.out w3 g _ H2.out.at_ H2.out.lt).mono ?_
  rintro e w4 k
  obtain ⟨rfl, v3, h3⟩ := H2.out.next k
  have H3 := Lib.hid h3
  clear cc
  have cc := h3.rc.c2
  clear h3 k H2 C2
  go_wp2_with fail
  refine (C3.out w4 g _ H3.out.at_ H3.out.lt).mono ?_
  rintro e w5 k
  obtain ⟨rfl, v4, h4⟩ := H3.out.next k
  have H4 := Lib.hid h4
  clear cc
  have cc := h4.rc.c3
  clear h4 k H3 C3
  go_wp2_with fail
  refine (C4.out w5 g _ H4.out.at_ H4.out.lt).mono ?_
  rintro e w6 k
  obtain ⟨rfl, v5, h5⟩ := H4.out.next k
  have H5 := Lib.hid h5
  clear cc
  clear h5 k H4 C4
  go_wp2_with fail
  refine (C5.out w6 g _ H5.out.at_ H5.out.lt (HP.out.below H5.out.below) (H5.out.far HP.out)).mono ?_
  rintro e w7 k
  obtain ⟨rfl, v6, h6⟩ := H5.out.next k
  have H6 := Lib.hid h6
  clear h6 k H5 C5
  go_wp2_with fail
  refine (C6.out w7 g _ H6.out.at_).mono ?_
  rintro e w8 ⟨X, d, rfl, g1, g2, g3, hb, hn⟩
  have G3 := Lib.hid g3; have HN := Lib.hid hn
  clear g3 hn
  go_wp2
  go_ret
  exact ⟨X, d, rfl, g1, g2, G3.out, bstep H6.out.below hb, HN.out.mono H6.out.below.size⟩
end Go.Proofs.Ytnjghhkebcojnaa.Record

/- package record: what a head says, what bodies say -/
set_option maxRecDepth 100000
namespace Go.Proofs.Ytnjghhkebcojnaa.Record
open Go.RowKit RecM
open Entry (Wrs rows_tail)

/-- between a Reader's calls: where it is, what has been told, and the result's block -/
structure Rdr (w0 w : World) (g p q : Nat) (A : Option Addr) (b : List UInt8) (s : PackM.St) (h : Hd) : Prop where
  rd : Pack.RdAt w g A b s
  below : Below w0.heap.size w0 w
  first : w0.heap.size ≤ q
  ne : q < p
  ne2 : p < g
  nb : 0 < b.length → ∀ a, A = some a → p < a.block
  rc : RecB w p h none 0 0
  rs : RecB w q hd0 none 0 0
theorem Rdr.kept {w0 w w' : World} {g p q : Nat} {A : Option Addr} {b : List UInt8} {s s' : PackM.St} {h : Hd} (k : Rdr w0 w g p q A b s h) (r : Pack.RdAt w' g A b s') (q1 : Keeps (fun x => x = g) w w') : Rdr w0 w' g p q A b s' h := by
  have hn := k.ne; have hn2 := k.ne2; have hf := k.first
  exact ⟨r, below_keeps k.below q1 (fun x e => by omega) k.below.size, hf, hn, hn2, k.nb, k.rc.keep q1 (by omega), k.rs.keep q1 (by omega)⟩
theorem Rdr.grown {w0 w w' : World} {g p q : Nat} {A : Option Addr} {b : List UInt8} {s s' : PackM.St} {h : Hd} (k : Rdr w0 w g p q A b s h) (r : Pack.RdAt w' g A b s') (kg : w.grownBy w' (some g)) : Rdr w0 w' g p q A b s' h :=
  k.kept r (.grow kg rfl)
theorem Rdr.stored {w0 w w' : World} {g p q : Nat} {A : Option Addr} {b : List UInt8} {s : PackM.St} {h h' : Hd} (k : Rdr w0 w g p q A b s h) (q1 : Keeps (fun x => x = p) w w') (r : RecB w' p h' none 0 0) : Rdr w0 w' g p q A b s h' := by
  have hn := k.ne; have hn2 := k.ne2; have hf := k.first
  exact ⟨k.rd.keep q1 (by omega) (fun h0 a e => by have := k.nb h0 a e; omega), below_keeps k.below q1 (fun x e => by omega) k.below.size, hf, hn, hn2, k.nb, r, k.rs.keep q1 (by omega)⟩
set_option maxHeartbeats 2000000 in
theorem saidByHead_any (A : Option Addr) (b : List UInt8) (c : Nat) (w : World) (h : BytesAt w A b) (hbl : b.length ≤ 1048576) :
    Calls Try.prog 55 #[.slice A b.length c] w fun e w' => e = .returned (.tuple #[.agg #[.int .i64 (saidH b).K, .string (saidH b).s, .int .i64 (saidH b).A, .int .i64 (saidH b).E, .int .i64 (saidH b).M, .int .i64 (saidH b).S, .slice none 0 0], .int .i64 (lenIn b : Nat)]) ∧ Below w.heap.size w w' := by
  have C0 := Lib.hid (fun W h => Pack.read_any A b c W h hbl)
  have C1 := Lib.hid (fun W g X h => Pack.rraw_any g X b ⟨0, false⟩ 1 W h (by omega) hbl)
  have C2 := Lib.hid (fun W g X h => Pack.rnum_any g X b (q1 b) 1 W h hbl)
  have C3 := Lib.hid (fun W g X h => Label.get_any g X b (q2 b) W h hbl)
  have C4 := Lib.hid (fun W g X h => Pack.rnum_any g X b (q3 b) 4 W h hbl)
  have C5 := Lib.hid (fun W g X h => Pack.rnum_any g X b (q4 b) 4 W h hbl)
  have C6 := Lib.hid (fun W g X h => Pack.rnum_any g X b (q5 b) 4 W h hbl)
  have C7 := Lib.hid (fun W g X h => Pack.rnum_any g X b (q6 b) 2 W h hbl)
  have C8 := Lib.hid (fun W g X h => Pack.rnum_any g X b (q7 b) 1 W h hbl)
  rw [show PackM.rawS b ⟨0, false⟩ 1 = q1 b from rfl] at C1
  rw [show PackM.numS b (q1 b) 1 = q2 b from rfl] at C2
  unfold Label.GetPost at C3
  rw [show PackM.rawS b (q2 b) 17 = q3 b from rfl, show (if (PackM.rawL b (q2 b) 17).length = 17 then LabM.getS (PackM.rawL b (q2 b) 17) else ⟨#[]⟩) = nameIn b (q2 b) from rfl] at C3
  rw [show PackM.numS b (q3 b) 4 = q4 b from rfl] at C4
  rw [show PackM.numS b (q4 b) 4 = q5 b from rfl] at C5
  rw [show PackM.numS b (q5 b) 4 = q6 b from rfl] at C6
  rw [show PackM.numS b (q6 b) 2 = q7 b from rfl] at C7
  rw [show PackM.numS b (q7 b) 1 = q8 b from rfl, show PackM.numV b (q7 b) 1 = lenIn b from rfl] at C8
  have ve : saidH b = ⟨(PackM.numV b (q1 b) 1 : Nat), nameIn b (q2 b), (PackM.numV b (q3 b) 4 : Nat), (PackM.numV b (q4 b) 4 : Nat), (PackM.numV b (q5 b) 4 : Nat), (PackM.numV b (q6 b) 2 : Nat)⟩ := rfl
  rw [ve]
  simp only
  have H := Lib.hid h
  clear ve h
  generalize (decide ((PackM.rawL b (q2 b) 17).length = 17) && LabM.getOk (PackM.rawL b (q2 b) 17)) = okn at *
  generalize PackM.numV b (q1 b) 1 = v1 at *
  generalize nameIn b (q2 b) = v2 at *
  generalize PackM.numV b (q3 b) 4 = v3 at *
  generalize PackM.numV b (q4 b) 4 = v4 at *
  generalize PackM.numV b (q5 b) 4 = v5 at *
  generalize PackM.numV b (q6 b) 2 = v6 at *
  generalize lenIn b = v7 at *
  generalize q1 b = s1 at *
  generalize q2 b = s2 at *
  generalize q3 b = s3 at *
  generalize q4 b = s4 at *
  generalize q5 b = s5 at *
  generalize q6 b = s6 at *
  generalize q7 b = s7 at *
  generalize q8 b = s8 at *
  go_enter Try.func55, Try.ntmps55
  go_wp2_with fail
  have hq0 := (RecB.new w hd0 none 0 0).below (balloc _ (.cells #[.int .i64 0, .string ⟨#[]⟩, .int .i64 0, .int .i64 0, .int .i64 0, .int .i64 0, .slice none 0 0] 24))
  have hp0 := RecB.new (w.alloc (.cells #[.int .i64 0, .string ⟨#[]⟩, .int .i64 0, .int .i64 0, .int .i64 0, .int .i64 0, .slice none 0 0] 24)) hd0 none 0 0
  have hb0 := bstep (balloc w (.cells #[.int .i64 0, .string ⟨#[]⟩, .int .i64 0, .int .i64 0, .int .i64 0, .int .i64 0, .slice none 0 0] 24)) (balloc _ (.cells #[.int .i64 0, .string ⟨#[]⟩, .int .i64 0, .int .i64 0, .int .i64 0, .int .i64 0, .slice none 0 0] 24))
  have e : (w.alloc (.cells #[.int .i64 0, .string ⟨#[]⟩, .int .i64 0, .int .i64 0, .int .i64 0, .int .i64 0, .slice none 0 0] 24)).heap.size = w.heap.size + 1 := by simp
  have e2 : ((w.alloc (.cells #[.int .i64 0, .string ⟨#[]⟩, .int .i64 0, .int .i64 0, .int .i64 0, .int .i64 0, .slice none 0 0] 24)).alloc (.cells #[.int .i64 0, .string ⟨#[]⟩, .int .i64 0, .int .i64 0, .int .i64 0, .int .i64 0, .slice none 0 0] 24)).heap.size = w.heap.size + 2 := by simp
  rw [e] at hp0
  have HQ0 : Hid (RecB ((w.alloc (.cells #[.int .i64 0, .string ⟨#[]⟩, .int .i64 0, .int .i64 0, .int .i64 0, .int .i64 0, .slice none 0 0] 24)).alloc (.cells #[.int .i64 0, .string ⟨#[]⟩, .int .i64 0, .int .i64 0, .int .i64 0, .int .i64 0, .slice none 0 0] 24)) w.heap.size hd0 none 0 0) := Lib.hid hq0
  have HP0 : Hid (RecB ((w.alloc (.cells #[.int .i64 0, .string ⟨#[]⟩, .int .i64 0, .int .i64 0, .int .i64 0, .int .i64 0, .slice none 0 0] 24)).alloc (.cells #[.int .i64 0, .string ⟨#[]⟩, .int .i64 0, .int .i64 0, .int .i64 0, .int .i64 0, .slice none 0 0] 24)) (w.heap.size + 1) hd0 none 0 0) := Lib.hid hp0
  have HB := Lib.hid hb0; have HE := Lib.hid e2
  clear hq0 hp0 hb0 e e2
  obtain ⟨p, hp⟩ : ∃ p, p = w.heap.size + 1 := ⟨_, rfl⟩
  obtain ⟨q, hq⟩ : ∃ q, q = w.heap.size := ⟨_, rfl⟩
  rw [← hp] at HP0 ⊢
  rw [← hq] at HQ0 ⊢
  have HP := Lib.hid hp; have HQ := Lib.hid hq
  clear hp hq
  generalize (w.alloc (.cells #[.int .i64 0, .string ⟨#[]⟩, .int .i64 0, .int .i64 0, .int .i64 0, .int .i64 0, .slice none 0 0] 24)).alloc (.cells #[.int .i64 0, .string ⟨#[]⟩, .int .i64 0, .int .i64 0, .int .i64 0, .int .i64 0, .slice none 0 0] 24) = w1 at *
  refine (C0.out w1 (H.out.below HB.out)).mono ?_
  rintro e w2 ⟨g, A', rfl, hr, hb, hg, hn⟩
  have R2 : Hid (Rdr w w2 g p q A' b ⟨0, false⟩ hd0) := Lib.hid (by
    have h1 := HP.out; have h2 := HQ.out; have h3 := HE.out
    exact ⟨hr, bstep HB.out hb, by omega, by omega, by omega, fun h0 a ea => by have := hn a ea; omega, HP0.out.below hb, HQ0.out.below hb⟩)
  clear hr hb hg hn HP HQ HE HP0 HQ0 HB C0 H
  go_wp2_with fail
  refine (C1.out w2 g A' R2.out.rd).mono ?_
  rintro e w3 ⟨X, d, rfl, -, -, -, -, k1, k2⟩
  have R3 := Lib.hid (R2.out.grown k1 k2)
  clear k1 k2 R2 C1
  go_wp2_with fail
  refine (C2.out _ g A' R3.out.rd).mono ?_
  rintro e w4 ⟨rfl, k1, k2⟩
  have R4 := Lib.hid (R3.out.grown k1 k2)
  have cc0 := R4.out.rc.c0; have ff0 := R4.out.rc.fr 0
  have R5 : Hid (Rdr w (w4.setCell ⟨p, 0, none⟩ (.int .i64 (v1 : Nat))) g p q A' b s2 ⟨(v1 : Nat), ⟨#[]⟩, 0, 0, 0, 0⟩) := Lib.hid (R4.out.stored (.set (fun x => x = p) _ ⟨p, 0, none⟩ (.int .i64 (v1 : Nat)) rfl) (RecB.set R4.out.rc 0 (.int .i64 (v1 : Nat))))
  clear k1 k2 R3 C2 R4
  go_wp2_with fail
  refine (C3.out _ g A' R5.out.rd).mono ?_
  rintro e w5 ⟨rfl, k1, k2⟩
  have R6 := Lib.hid (R5.out.kept k1 k2)
  have cc1 := R6.out.rc.c1; have ff1 := R6.out.rc.fr 1
  have R7 : Hid (Rdr w (w5.setCell ⟨p, 1, none⟩ (.string v2)) g p q A' b s3 ⟨(v1 : Nat), v2, 0, 0, 0, 0⟩) := Lib.hid (R6.out.stored (.set (fun x => x = p) _ ⟨p, 1, none⟩ (.string v2) rfl) (RecB.set R6.out.rc 1 (.string v2)))
  clear k1 k2 R5 C3 R6
  clear cc0 ff0
  go_wp2_with fail
  refine (C4.out _ g A' R7.out.rd).mono ?_
  rintro e w6 ⟨rfl, k1, k2⟩
  have R8 := Lib.hid (R7.out.grown k1 k2)
  have cc2 := R8.out.rc.c2; have ff2 := R8.out.rc.fr 2
  have R9 : Hid (Rdr w (w6.setCell ⟨p, 2, none⟩ (.int .i64 (v3 : Nat))) g p q A' b s4 ⟨(v1 : Nat), v2, (v3 : Nat), 0, 0, 0⟩) := Lib.hid (R8.out.stored (.set (fun x => x = p) _ ⟨p, 2, none⟩ (.int .i64 (v3 : Nat)) rfl) (RecB.set R8.out.rc 2 (.int .i64 (v3 : Nat))))
  clear k1 k2 R7 C4 R8
  clear cc1 ff1
  go_wp2_with fail
  refine (C5.out _ g A' R9.out.rd).mono ?_
  rintro e w7 ⟨rfl, k1, k2⟩
  have R10 := Lib.hid (R9.out.grown k1 k2)
  have cc3 := R10.out.rc.c3; have ff3 := R10.out.rc.fr 3
  have R11 : Hid (Rdr w (w7.setCell ⟨p, 3, none⟩ (.int .i64 (v4 : Nat))) g p q A' b s5 ⟨(v1 : Nat), v2, (v3 : Nat), (v4 : Nat), 0, 0⟩) := Lib.hid (R10.out.stored (.set (fun x => x = p) _ ⟨p, 3, none⟩ (.int .i64 (v4 : Nat)) rfl) (RecB.set R10.out.rc 3 (.int .i64 (v4 : Nat))))
  clear k1 k2 R9 C5 R10
  clear cc2 ff2
  go_wp2_with fail
  refine (C6.out _ g A' R11.out.rd).mono ?_
  rintro e w8 ⟨rfl, k1, k2⟩
  have R12 := Lib.hid (R11.out.grown k1 k2)
  have cc4 := R12.out.rc.c4; have ff4 := R12.out.rc.fr 4
  have R13 : Hid (Rdr w (w8.setCell ⟨p, 4, none⟩ (.int .i64 (v5 : Nat))) g p q A' b s6 ⟨(v1 : Nat), v2, (v3 : Nat), (v4 : Nat), (v5 : Nat), 0⟩) := Lib.hid (R12.out.stored (.set (fun x => x = p) _ ⟨p, 4, none⟩ (.int .i64 (v5 : Nat)) rfl) (RecB.set R12.out.rc 4 (.int .i64 (v5 : Nat))))
  clear k1 k2 R11 C6 R12
  clear cc3 ff3
  go_wp2_with fail
  refine (C7.out _ g A' R13.out.rd).mono ?_
  rintro e w9 ⟨rfl, k1, k2⟩
  have R14 := Lib.hid (R13.out.grown k1 k2)
  have cc5 := R14.out.rc.c5; have ff5 := R14.out.rc.fr 5
  have R15 : Hid (Rdr w (w9.setCell ⟨p, 5, none⟩ (.int .i64 (v6 : Nat))) g p q A' b s7 ⟨(v1 : Nat), v2, (v3 : Nat), (v4 : Nat), (v5 : Nat), (v6 : Nat)⟩) := Lib.hid (R14.out.stored (.set (fun x => x = p) _ ⟨p, 5, none⟩ (.int .i64 (v6 : Nat)) rfl) (RecB.set R14.out.rc 5 (.int .i64 (v6 : Nat))))
  clear k1 k2 R13 C7 R14
  clear cc4 ff4
  obtain ⟨W, hW⟩ : ∃ W, W = w9.setCell ⟨p, 5, none⟩ (.int .i64 (v6 : Nat)) := ⟨_, rfl⟩
  rw [← hW] at R15
  go_wp2_with fail
  first | rw [← hW] | skip
  clear hW cc5 ff5
  obtain ⟨c0, c1, c2, c3, c4, c5, c6⟩ := R15.out.rc.all
  have n1 : ¬ p = q := by have := R15.out.ne; omega
  have n2 : ¬ q = p := fun e => n1 e.symm
  simp only at c0 c1 c2 c3 c4 c5 c6
  have hd : Below W.heap.size W W.drew := ⟨rfl, rfl, rfl, Nat.le_refl _, fun _ _ => rfl⟩
  have RD := Lib.hid (R15.out.kept (R15.out.rd.below hd) (.of_below _ hd))
  clear hd
  go_region_law ((first
    | (go_simp; go_at_call 69; refine (C8.out _ g A' RD.out.rd).mono ?_; rintro e w9 ⟨rfl, k1, k2⟩; have R9 := Lib.hid (RD.out.grown k1 k2); obtain ⟨c0', c1', c2', c3', c4', c5', c6'⟩ := R9.out.rc.all; simp only at c0' c1' c2' c3' c4' c5' c6'; obtain ⟨d0, d1, d2, d3, d4, d5, d6⟩ := R9.out.rs.all; have g0 := R9.out.rs.fr 0; have g1 := R9.out.rs.fr 1; have g2 := R9.out.rs.fr 2; have g3 := R9.out.rs.fr 3; have g4 := R9.out.rs.fr 4; have g5 := R9.out.rs.fr 5; have g6 := R9.out.rs.fr 6; clear k1 k2)))
  all_goals
    try go_wp2
    have hs := put7_is R9.out.rs ⟨(v1 : Nat), v2, (v3 : Nat), (v4 : Nat), (v5 : Nat), (v6 : Nat)⟩ none 0 0
    have hb := below_keeps R9.out.below (put7_keeps _ q ⟨(v1 : Nat), v2, (v3 : Nat), (v4 : Nat), (v5 : Nat), (v6 : Nat)⟩ none 0 0) (fun x e => by have := R9.out.first; omega) R9.out.below.size
    exact Go.bodyPost_ret (results_rec2 rfl _ _ q ⟨(v1 : Nat), v2, (v3 : Nat), (v4 : Nat), (v5 : Nat), (v6 : Nat)⟩ none 0 0 rfl hs _ rfl) rfl ⟨rfl, hb⟩
end Go.Proofs.Ytnjghhkebcojnaa.Record

/- package record: what bodies say; what sectors say -/
set_option maxRecDepth 100000
namespace Go.Proofs.Ytnjghhkebcojnaa.Record
open Go.RowKit RecM
open Entry (Wrs rows_tail)

set_option maxHeartbeats 1000000 in
theorem saidByBodies_any (A : Option Addr) (ss : List (List UInt8)) (c : Nat) (w : World) (h : RowsAt w A ss) (hl : ss.length ≤ 1000) (hr : ∀ i, (hi : i < ss.length) → ss[i].length ≤ 1048576) :
    Calls Try.prog 56 #[.slice A ss.length c] w (RetNew w (saidB ss)) := by
  have HL : Hid (∀ k, (saidB (ss.take k)).length ≤ 255000) := Lib.hid fun k => by have := saidB_len (ss.take k); rw [List.length_take] at this; omega
  have HALL : Hid (saidB (ss.take ss.length) = saidB ss) := Lib.hid (by rw [List.take_length])
  have HS0 : Hid (saidB (ss.take 0) = []) := Lib.hid (by rw [List.take_zero]; rfl)
  have HSU : Hid (∀ k, (hk : k < ss.length) → saidB (ss.take (k + 1)) = saidB (ss.take k) ++ pieceIn ss[k]) := Lib.hid fun k hk => saidB_take ss k hk
  have C5 := Lib.hid (fun W g v k h => Pack.wbytes_any g g v (saidB (ss.take k)) W h (by have := HL.out k; omega))
  have HRW := Lib.hid h; have HRL := Lib.hid hr
  have HSS := Lib.hid (Wrs.start (Below.refl _ w) 79)
  clear h hr
  generalize saidB ss = R at *
  obtain ⟨n, hn⟩ : ∃ n, n = ss.length := ⟨_, rfl⟩
  have HN := Lib.hid hn
  rw [← hn] at hl HALL ⊢
  clear hn
  go_enter Try.func56, Try.ntmps56
  go_wp2
  obtain ⟨g, hg⟩ : ∃ g, g = w.heap.size := ⟨_, rfl⟩
  rw [← hg] at HSS ⊢
  clear hg
  generalize w.alloc (.cells #[.slice none 0 0] 79) = w1 at *
  go_loopw [9] (fun i wr => ∃ k : Nat, ∃ v, k ≤ n ∧ i = .int .i64 k ∧ Wrs w wr g v (saidB (ss.take k)))
    (fun i _ => n - (intOf i).toNat)
  case atStart => exact ⟨0, _, Nat.zero_le _, rfl, by rw [HS0.out]; exact HSS.out⟩
  case round =>
    obtain ⟨k, v, hk, rfl, hw⟩ := hrel
    rename World => w5
    have HW := Lib.hid hw
    by_cases hlt : k < n
    · have hkr : k < ss.length := by rw [← HN.out]; omega
      obtain ⟨b2, o2, D, q, hAe, f0, q1, q2, hD⟩ := (HRW.out.below hw.below).row hkr
      subst hAe
      have hrl := HRL.out k hkr
      have HSUK := Lib.hid (HSU.out k hkr)
      have HLK := Lib.hid (HL.out k)
      have HD := Lib.hid hD
      clear hw hD
      obtain ⟨r, hr⟩ : ∃ r, r = ss[k] := ⟨_, rfl⟩
      rw [← hr] at f0 q1 hrl HSUK HD
      clear hr
      have D0 := Lib.hid (Pack.read_any D r q w5 HD.out hrl)
      have D1 := Lib.hid (fun W g X h => Pack.rraw_any g X r ⟨0, false⟩ 11 W h (by omega) hrl)
      have D2 := Lib.hid (fun W g X h => Pack.rtext_any g X r (PackM.rawS r ⟨0, false⟩ 11) W h hrl)
      rw [show PackM.textL r (PackM.rawS r ⟨0, false⟩ 11) = pieceIn r from rfl] at D2
      have HPL := Lib.hid (pieceIn_len r)
      have HGO : Hid (∀ wr v', Wrs w wr g v' (saidB (ss.take (k + 1))) → ∃ k2 : Nat, ∃ v, k2 ≤ n ∧ Value.int .i64 ((k : Int) + 1) = .int .i64 k2 ∧ Wrs w wr g v (saidB (ss.take k2))) := Lib.hid fun wr v' h => ⟨k + 1, v', by omega, by go_num, h⟩
      generalize saidB (ss.take (k + 1)) = T2 at *
      generalize saidB (ss.take k) = T at *
      generalize PackM.textS r (PackM.rawS r ⟨0, false⟩ 11) = s2 at *
      generalize PackM.rawS r ⟨0, false⟩ 11 = s1 at *
      obtain ⟨rn, hrn⟩ : ∃ rn, rn = r.length := ⟨_, rfl⟩
      rw [← hrn] at f0 q1 D0
      clear hrn hrl
      go_wp2_with fail
      refine D0.out.mono ?_
      rintro e w6 ⟨g3, X3, rfl, hr3, hb3, hg3, -⟩
      have HR3 := Lib.hid hr3; have HB3 := Lib.hid hb3; have HG3 := Lib.hid hg3
      clear hr3 hb3 hg3 D0 f0 q1 q2
      go_wp2_with fail
      refine (D1.out w6 g3 X3 HR3.out).mono ?_
      rintro e w7 ⟨Y, d3, rfl, -, -, -, -, k1, k2⟩
      have HR4 := Lib.hid k1
      have HB4 := Lib.hid (below_grow HB3.out k2 HG3.out HB3.out.size)
      clear k1 k2 D1 HB3 HR3
      go_wp2_with fail
      refine (D2.out w7 g3 X3 HR4.out).mono ?_
      rintro e w8 ⟨Y2, d4, rfl, y1, y2, y3, -, k1, k2⟩
      have hb8 := below_grow HB4.out k2 HG3.out HB4.out.size
      have HW8 := Lib.hid (HW.out.step hb8)
      have HY := Lib.hid y1
      clear k1 k2 D2 HB4 HR4 hb8 y1
      have D3 := Lib.hid (Pack.wraw_any g g v T Y2 (pieceIn r) d4 w8 HW8.out.at_ (by have := HLK.out; omega) HW8.out.lt HY.out (by have := HPL.out; omega))
      rw [← HSUK.out] at D3
      generalize (pieceIn r).length = pn at *
      go_wp2_with fail
      refine D3.out.mono ?_
      rintro e w9 k1
      obtain ⟨rfl, v9, h9⟩ := HW8.out.next k1
      have HR := Lib.hid (HGO.out w9 v9 h9)
      clear h9 k1 D3 HGO HW8 HY HW
      go_wp2
      go_roundw
      case rel => exact HR.out
      case measure => simp [intOf] <;> omega
    · obtain rfl : k = n := by omega
      clear hw
      go_wp2_with fail
      refine (C5.out _ _ v k HW.out.at_).mono ?_
      rintro e w7 ⟨X, d, rfl, g1, g2, g3, hb, hn⟩
      have G3 := Lib.hid g3; have HNN := Lib.hid hn
      clear g3 hn
      rw [HALL.out] at g1 G3 ⊢
      go_wp2
      go_ret
      exact ⟨X, d, rfl, g1, g2, G3.out, bstep HW.out.below hb, HNN.out.mono HW.out.below.size⟩
end Go.Proofs.Ytnjghhkebcojnaa.Record

/- package record: what sectors say -/
set_option maxRecDepth 100000
namespace Go.Proofs.Ytnjghhkebcojnaa.Record
open Go.RowKit RecM
open Entry (rows_tail rows_take)

theorem Below.rec {w w' : World} {g : Nat} {h : Hd} {B : Option Addr} {n c : Nat} (k : RecB w g h B n c) (hb : Below w.heap.size w w') : RecB w' g h B n c := k.below hb
theorem keeps_bstep {w0 w w' : World} {F : Nat → Prop} (hb : Below w0.heap.size w0 w) (q : Keeps F w w') (hF : ∀ k, F k → w0.heap.size ≤ k) : Below w0.heap.size w0 w' := below_keeps hb q hF hb.size
/-- what is asked of the sizes of sectors: those whose bytes are read are not too long -/
def Fit (ss : List (List UInt8)) : Prop := ∀ s rest, ss = s :: rest → s.length ≤ 1048576 ∧ ∀ i, (hi : i < rest.length) → i < pieces (lenIn s) → rest[i].length ≤ 1048576
def RetRec (w : World) (h : Hd) (sh : List UInt8) (e : Ending) (w' : World) : Prop :=
  ∃ X d, e = .returned (.agg #[.int .i64 h.K, .string h.s, .int .i64 h.A, .int .i64 h.E, .int .i64 h.M, .int .i64 h.S, .slice X sh.length d]) ∧ sh.length ≤ d ∧ d ≤ maxLen ∧ BytesAt w' X sh ∧ Below w.heap.size w w' ∧ New w X
set_option maxHeartbeats 2000000 in
theorem said_any (A : Option Addr) (ss : List (List UInt8)) (c : Nat) (w : World) (h : RowsAt w A ss) (hc : ss.length ≤ c) (_hc2 : c ≤ maxLen) (hl : ss.length ≤ 1048576) (hf : Fit ss) :
    Calls Try.prog 39 #[.slice A ss.length c] w (RetRec w (saidHd ss) (saidSh ss)) := by
  rcases ss with _ | ⟨s, rest⟩
  · have HR := Lib.hid (RecB.new w hd0 none 0 0)
    have HB := Lib.hid (balloc w (.cells #[.int .i64 0, .string ⟨#[]⟩, .int .i64 0, .int .i64 0, .int .i64 0, .int .i64 0, .slice none 0 0] 24))
    clear h hc _hc2 hl hf
    go_enter Try.func39, Try.ntmps39
    go_wp2_with (refine wpList_store_rec rfl _ _ rfl w.heap.size hd0 none 0 0 rfl rfl hd0 none 0 0 HR.out ?_; intro w1 hr1 hk1; have HR1 := Lib.hid hr1; have HK1 := Lib.hid hk1; clear hr1 hk1)
    exact Go.bodyPost_ret (results_rec1 rfl _ _ w.heap.size hd0 none 0 0 rfl HR1.out) rfl ⟨none, 0, rfl, Nat.le_refl _, Nat.zero_le _, BytesAt.nil _ _, keeps_bstep HB.out HK1.out (fun k e => by omega), New.none _⟩
  · obtain ⟨hs0, hrow⟩ := hf s rest rfl
    obtain ⟨b, o, B, d, hA, e0, hd1, hd2, hB⟩ := h.row (i := 0) (by simp)
    subst hA
    rw [Nat.add_zero] at e0
    simp only [List.getElem_cons_zero] at e0 hd1 hB
    have HT := Lib.hid (rows_tail h)
    have HBY := Lib.hid hB
    have C0 := Lib.hid (fun W h => saidByHead_any B s d W h hs0)
    have hpl := pieces_lenIn s
    have CB := Lib.hid (fun W => bodiesOf_any (lenIn s) (by have := lenIn_lt s; omega) W)
    have eh : saidHd (s :: rest) = saidH s := rfl
    have es : saidSh (s :: rest) = saidB (rest.take (min (pieces (lenIn s)) rest.length)) := by
      rw [← List.take_eq_take_min]; rfl
    rw [eh, es]
    simp only [List.length_cons] at hc hl ⊢
    obtain ⟨n, hn⟩ : ∃ n, n = rest.length := ⟨_, rfl⟩
    rw [← hn] at hc hl ⊢
    obtain ⟨m, hmm⟩ : ∃ m, m = min (pieces (lenIn s)) n := ⟨_, rfl⟩
    have hmi : min ((pieces (lenIn s) : Nat) : Int) (n : Int) = (m : Int) := by omega
    rw [← hmm]
    have hml : (rest.take m).length = m := by rw [List.length_take]; omega
    have CS := Lib.hid (fun W X cc (hX : RowsAt W X (rest.take m)) => saidByBodies_any X (rest.take m) cc W hX (by rw [hml]; omega) (fun i hi => by
      rw [List.getElem_take]
      exact hrow i (by rw [List.length_take] at hi; omega) (by rw [List.length_take] at hi; omega)))
    rw [hml] at CS
    have HTM : Hid (∀ W, RowsAt W (some ⟨b, o + 1, none⟩) rest → RowsAt W (some ⟨b, o + 1, none⟩) (rest.take m)) := Lib.hid fun W h => rows_take h m
    have HTN : Hid (m = 0 → ∀ W X, RowsAt W X (rest.take m)) := Lib.hid fun e W X => by subst e; intro i hi; simp at hi
    have hm3 : m ≤ n := by omega
    have HSL : Hid ((saidB (rest.take m)).length ≤ 1000000) := Lib.hid (by have := saidB_len (rest.take m); rw [hml] at this; omega)
    clear hf h hB hrow hn hmm hml eh es hpl
    generalize saidB (rest.take m) = R at *
    generalize pieces (lenIn s) = pc at *
    obtain ⟨sn, hsn⟩ : ∃ sn, sn = s.length := ⟨_, rfl⟩
    rw [← hsn] at e0 hd1 C0
    clear hsn
    generalize saidH s = H at *
    generalize lenIn s = ln at *
    have HR := Lib.hid (RecB.new w hd0 none 0 0)
    have HB := Lib.hid (balloc w (.cells #[.int .i64 0, .string ⟨#[]⟩, .int .i64 0, .int .i64 0, .int .i64 0, .int .i64 0, .slice none 0 0] 24))
    have E0 := e0
    clear e0
    have e0 := (HB.out.cell (p := ⟨b, o, none⟩) (cell_lt E0)).trans E0
    clear E0
    obtain ⟨q, hq⟩ : ∃ q, q = w.heap.size := ⟨_, rfl⟩
    have HQ := Lib.hid hq
    rw [← hq] at HR
    go_enter Try.func39, Try.ntmps39
    go_wp2_with fail
    rw [← hq]
    clear hq
    obtain ⟨W0, hW0⟩ : ∃ W0, W0 = w.alloc (.cells #[.int .i64 0, .string ⟨#[]⟩, .int .i64 0, .int .i64 0, .int .i64 0, .int .i64 0, .slice none 0 0] 24) := ⟨_, rfl⟩
    have HRq : Hid (RecB W0 q hd0 none 0 0) := Lib.hid (by rw [hW0]; exact HR.out)
    have HB0 : Hid (Below w.heap.size w W0) := Lib.hid (by rw [hW0]; exact HB.out)
    rw [← hW0] at e0
    first | rw [← hW0] | skip
    clear hW0 HR HB
    refine (C0.out W0 (HBY.out.below HB0.out)).mono ?_
    rintro e w1 ⟨rfl, hb1⟩
    have HB1 := Lib.hid (bstep HB0.out hb1)
    have HR1 := Lib.hid (HRq.out.below hb1)
    have HRp := Lib.hid (RecB.new w1 hd0 none 0 0)
    have HRq2 := Lib.hid (HR1.out.below (balloc w1 (.cells #[.int .i64 0, .string ⟨#[]⟩, .int .i64 0, .int .i64 0, .int .i64 0, .int .i64 0, .slice none 0 0] 24)))
    have HB2 := Lib.hid (bstep HB1.out (balloc w1 (.cells #[.int .i64 0, .string ⟨#[]⟩, .int .i64 0, .int .i64 0, .int .i64 0, .int .i64 0, .slice none 0 0] 24)))
    have HQ1 : Hid (q < w1.heap.size) := Lib.hid HR1.out.lt
    clear hb1 C0 e0 HB0 HRq HR1 HBY
    have HPW : Hid (w.heap.size ≤ w1.heap.size) := Lib.hid HB1.out.size
    go_wp2_with (refine wpList_store_rec rfl _ _ rfl w1.heap.size H none 0 0 rfl rfl hd0 none 0 0 HRp.out ?_; intro w2 hr2 hk2; have HR2 := Lib.hid hr2; have HK2 := Lib.hid hk2; clear hr2 hk2)
    all_goals (
      obtain ⟨p, hp⟩ : ∃ p, p = w1.heap.size := ⟨_, rfl⟩
      rw [← hp] at HR2 HK2 HQ1 HPW
      rw [← hp]
      have HB3 := Lib.hid (keeps_bstep HB2.out HK2.out (fun k e => Nat.le_trans HPW.out (Nat.le_of_eq e.symm)))
      have HQ3 := Lib.hid (HRq2.out.keep HK2.out (fun e => by have := HQ1.out; omega))
      clear HRq2 HB2 HK2 HRp HB1 hp
      refine (CB.out w2).mono ?_
      rintro e w3 ⟨rfl, rfl⟩
      clear CB
      have HRB : Hid (RowsAt w (some ⟨b, o + 1, none⟩) rest) := HT
      go_wp2_with fail
      refine (CS.out w2 _ _ ?_).mono ?_
      · first
          | exact HTM.out _ (HRB.out.below HB3.out)
          | exact HTN.out (by omega) _ _
      rintro e w4 ⟨X, d4, rfl, x1, x2, x3, hb4, hn4⟩
      have HX4 := Lib.hid x3
      have HN4 := Lib.hid hn4
      have HB4 := Lib.hid (bstep HB3.out hb4)
      have HP4 := Lib.hid (HR2.out.below hb4)
      have HQ4 := Lib.hid (HQ3.out.below hb4)
      have HS4 : Hid (∀ a, X = some a → q < a.block ∧ p < a.block) := Lib.hid fun a e => by
        have h1 := hn4 a e; have h2 := HR2.out.lt; have h3 := HQ3.out.lt
        omega
      have k6 := HP4.out.c6; have f6 := HP4.out.fr 6
      have HP5 : Hid (RecB (w4.setCell ⟨p, 6, none⟩ (.slice X R.length d4)) p H X R.length d4) := Lib.hid (RecB.set HP4.out 6 (.slice X R.length d4))
      have HK5 : Hid (Keeps (fun k => k = p) w4 (w4.setCell ⟨p, 6, none⟩ (.slice X R.length d4))) := Lib.hid (.set _ _ _ _ rfl)
      have HQ5 := Lib.hid (HQ4.out.keep HK5.out (fun e => by have := HQ1.out; omega))
      have HB5 := Lib.hid (keeps_bstep HB4.out HK5.out (fun k e => Nat.le_trans HPW.out (Nat.le_of_eq e.symm)))
      have HX5 := Lib.hid (HK5.out.bytes HX4.out (fun a e h => by have := (HS4.out a e).2; omega))
      clear x3 hn4 hb4 HR2 HQ3 HB3 CS HT HRB HTM HTN
      go_wp2_with (first
        | (refine wpList_load_rec rfl _ rfl p rfl H X R.length d4 HP5.out ?_)
        | (refine wpList_store_rec rfl _ _ rfl q H X R.length d4 rfl rfl hd0 none 0 0 HQ5.out ?_; intro w6 hr6 hk6; have HR6 := Lib.hid hr6; have HK6 := Lib.hid hk6; clear hr6 hk6))
      have hb6 := keeps_bstep HB5.out HK6.out (fun k e => by have := HQ.out; omega)
      have hx6 := HK6.out.bytes HX5.out (fun a e h => by have := (HS4.out a e).1; omega)
      exact Go.bodyPost_ret (results_rec1 rfl _ _ q H X R.length d4 rfl HR6.out) rfl ⟨X, d4, rfl, x1, x2, hx6, hb6, fun a e => by have := (HS4.out a e).1; have := HQ.out; omega⟩)
end Go.Proofs.Ytnjghhkebcojnaa.Record

/- package record: areFirst, Put -/
set_option maxRecDepth 100000
namespace Go.Proofs.Ytnjghhkebcojnaa.Record
open Go.RowKit Go.Shelf RecM Seqs
open Entry (nums nums_len nums_take KeptC boxed_below boxed_keep keepsFrom_below keepsFrom_mono rows_take equalFunc_any RetPut RetPutN boxOf SP.bytesN SP.litN SP.ownN SP.boxM lit1_cell with_box wpListIn_append_rowT)
attribute [local go_sem] Oper.semAt_some

/-- told sectors are the first of all -/
def firstB (p ss : List (List UInt8)) : Bool := decide (p <+: ss)
theorem firstB_len {p ss : List (List UInt8)} (h : ¬ p.length ≤ ss.length) : firstB p ss = false := decide_eq_false fun k => h k.length_le
theorem firstB_take (p ss : List (List UInt8)) : firstB p ss = decide (p = ss.take p.length) := by
  unfold firstB
  rw [Bool.eq_iff_iff, decide_eq_true_eq, decide_eq_true_eq, List.prefix_iff_eq_take]
theorem areFirst_any (A B : Option Addr) (p ss : List (List UInt8)) (c d : Nat) (w : World) (h1 : RowsAt w A p) (h2 : RowsAt w B ss) (hl : p.length ≤ 1048576) (hd : ss.length ≤ d) (hd2 : d ≤ maxLen) :
    Calls Try.prog 40 #[.slice A p.length c, .slice B ss.length d] w fun e w' => e = .returned (.bool (firstB p ss)) ∧ w = w' := by
  have HD2 := Lib.hid hd2
  clear hd2
  by_cases hle : p.length ≤ ss.length
  · have C := Lib.hid (equalFunc_any A B p (ss.take p.length) c d w h1 (rows_take h2 _) hl (by rw [List.length_take]; omega))
    rw [show (ss.take p.length).length = p.length from by rw [List.length_take]; omega, ← firstB_take] at C
    clear h1 h2
    generalize firstB p ss = q at *
    generalize p.length = n at *
    generalize ss.length = m at *
    go_enter Try.func40, Try.ntmps40
    go_wp2_with fail
    refine C.out.mono ?_
    rintro e w2 ⟨rfl, rfl⟩
    go_wp2
    go_ret
    exact ⟨rfl, rfl⟩
  · rw [firstB_len hle]
    clear h1 h2
    generalize p.length = n at *
    generalize ss.length = m at *
    go_enter Try.func40, Try.ntmps40
    go_wp2
    go_ret
    exact ⟨by first | rfl | (exact ret_bool (by simp; omega)), rfl⟩
theorem put_not (t : Nat) (h : Hd) (hf : Fits h) (B : Option Addr) (sh : List UInt8) (c : Nat) (w : World) (hv : (h.rc sh).right = false) :
    Calls Try.prog 10 #[.pointer (some ⟨t, 0, none⟩), .agg #[.int .i64 h.K, .string h.s, .int .i64 h.A, .int .i64 h.E, .int .i64 h.M, .int .i64 h.S, .slice B sh.length c]] w (RetPutN w [] 3) := by
  have CR := Lib.hid (fun W => right_any h hf B sh c W)
  rw [hv] at CR
  have HB := Lib.hid (bstep (balloc w (.cells #[.pointer (some ⟨t, 0, none⟩)] 28)) (balloc _ (.cells #[.int .i64 h.K, .string h.s, .int .i64 h.A, .int .i64 h.E, .int .i64 h.M, .int .i64 h.S, .slice B sh.length c] 24)))
  clear hv
  generalize sh.length = n at *
  go_enter Try.func10, Try.ntmps10
  go_wp2_with fail
  generalize (w.alloc (.cells #[.pointer (some ⟨t, 0, none⟩)] 28)).alloc (.cells #[.int .i64 h.K, .string h.s, .int .i64 h.A, .int .i64 h.E, .int .i64 h.M, .int .i64 h.S, .slice B n c] 24) = w0 at *
  refine (CR.out w0).mono ?_
  rintro e w1 ⟨rfl, hb1⟩
  have HB1 := Lib.hid (bstep HB.out hb1)
  clear hb1
  go_wp2
  go_ret2
  exact ⟨none, 0, rfl, Nat.le_refl _, Nat.zero_le _, RowsP.nil _ _ _, HB1.out⟩
/-- what Put hands back: the sectors' bytes are new, and the list may be written -/
def RetPutF (w : World) (m : List (List UInt8)) (n : Int) (e : Ending) (w' : World) : Prop :=
  ∃ X d, e = .returned (.tuple #[.slice X m.length d, .int .i64 n]) ∧ m.length ≤ d ∧ d ≤ maxLen ∧ RowsP (fun k => w.heap.size ≤ k) w' X m ∧ Below w.heap.size w w' ∧ ∀ a, X = some a → w.heap.size ≤ a.block ∧ ∀ i, w'.frozen? ⟨a.block, i, none⟩ = false
/-- a piece's sector -/
def rowOf (h : Hd) (x : Pc) : List UInt8 := Sector.sealOf (wrB h x.i x.l)
theorem rows_of (h : Hd) (sh : List UInt8) (hm : (h.rc sh).May) (xs : List Pc) (hx : xs.map Pc.key = keys sh (pieces sh.length)) : (h.rc sh).put = SecM.sec (h.rc sh).head :: xs.map (rowOf h) := by
  have hs : sh.length ≤ 240 := hm.sh
  have e1 : xs.map (rowOf h) = (xs.map Pc.key).map fun k => Sector.sealOf (wrB h k.1 k.2) := by rw [List.map_map]; rfl
  rw [e1, hx]
  unfold Rc.put keys
  rw [List.map_map]
  refine congrArg _ (List.map_congr_left fun i hi => ?_)
  have hi := List.mem_range.1 hi
  have hi2 : i < pieces sh.length := hi
  show SecM.sec ((h.rc sh).body i) = Sector.sealOf (wrB h i (piece sh i))
  rw [wrB_body h sh hm i (by unfold pieces at hi2; omega)]
  exact (if_pos (body_len (h.rc sh) i)).symm
/-- between two rounds of Put's loop: what lies in the box, and that nothing of before was touched -/
structure Pt (w2 : World) (g tb : Nat) (rows : List (List UInt8)) (T : Nat → Prop) (V : World) : Prop where
  box : ∃ X d, Boxed V g 25 (.slice X rows.length d) ∧ OwnT V w2.heap.size (fun k => T k ∨ (k = tb ∨ k < w2.heap.size)) (.slice X rows.length d) rows ∧ d ≤ maxLen ∧ rows.length ≤ d
  below : Below w2.heap.size w2 V
  ne : w2.heap.size ≤ g
  tl : tb < V.heap.size
theorem Pt.grown {w2 : World} {g tb : Nat} {rows : List (List UInt8)} {T : Nat → Prop} {V V' : World} {row : Option Nat} (h : Pt w2 g tb rows T V) (hg : V.grownBy V' row) (hr : ∀ r, row = some r → w2.heap.size ≤ r ∧ ∃ o : Obj, V.heap[r]? = some o ∧ o.isCells = false) : Pt w2 g tb rows T V' := by
  obtain ⟨⟨X, d, h1, h2, h3⟩, h4, h5, h6⟩ := h
  have hr2 : ∀ r, row = some r → ∃ o : Obj, V.heap[r]? = some o ∧ o.isCells = false := fun r e => (hr r e).2
  exact ⟨⟨X, d, (grownBy_keeps_cells hg hr2 h1 rfl).trans h1, h2.grown hg hr2, h3⟩, h4.grown hg h4.size (fun k e => (hr k e).1), h5, Nat.lt_of_lt_of_le h6 hg.size⟩
theorem Pt.joined {w2 : World} {g tb : Nat} {rows : List (List UInt8)} {T : Nat → Prop} {V V' : World} (h : Pt w2 g tb rows T V) (hT : ∀ k, T k → w2.heap.size ≤ k) (hg : ¬ T g) (q : Keeps T V V') : Pt w2 g tb rows (Seqs.plus T V V') V' := by
  obtain ⟨⟨X, d, h1, h2, h3⟩, h4, h5, h6⟩ := h
  exact ⟨⟨X, d, boxed_keep h1 q hg, (h2.more (T' := fun k => Seqs.plus T V V' k ∨ (k = tb ∨ k < w2.heap.size)) fun k hk => by
    rcases hk with (hk | hk) | hk
    · exact .inl (.inl hk)
    · exact .inr hk.1
    · exact .inl (.inr hk)).keep q (fun _ h => .inl (.inl h)), h3⟩, below_keeps h4 q (fun k hk => hT k hk) h4.size, h5, Nat.lt_of_lt_of_le h6 q.size⟩
set_option maxHeartbeats 4000000 in
theorem put_may (t : Nat) (h : Hd) (hf : Fits h) (B : Option Addr) (sh : List UInt8) (c : Nat) (w : World) (ht : Crc.Tab w t) (hB : BytesAt w B sh) (hc : sh.length ≤ c) (hc2 : c ≤ maxLen) (hm : (h.rc sh).May) :
    Calls Try.prog 10 #[.pointer (some ⟨t, 0, none⟩), .agg #[.int .i64 h.K, .string h.s, .int .i64 h.A, .int .i64 h.E, .int .i64 h.M, .int .i64 h.S, .slice B sh.length c]] w (RetPutF w (h.rc sh).put 0) := by
  have CR := Lib.hid (fun W => right_any h hf B sh c W)
  rw [(right_iff _).2 hm] at CR
  have hsl : sh.length ≤ 240 := hm.sh
  have HPV : Hid (∀ xs : List Pc, xs.map Pc.key = keys sh (pieces sh.length) → (h.rc sh).put = SecM.sec (h.rc sh).head :: xs.map (rowOf h)) := Lib.hid fun xs hx => rows_of h sh hm xs hx
  have CH := Lib.hid (fun W => head_any h hf B sh.length c (by omega) W)
  rw [wrH_head h sh hm] at CH
  have hhl := head_len (h.rc sh)
  have CS := Lib.hid (fun W X d (hT : Crc.Tab W t) hX => Sector.seal_any t X (h.rc sh).head d W hT hX)
  rw [show Sector.sealOf (h.rc sh).head = SecM.sec (h.rc sh).head from if_pos (by omega)] at CS
  have CD := Lib.hid (fun W i X (x : List UInt8) d hi hX hl hd hd2 => body_any h hf B sh.length c i hi X x d W hX hl hd hd2)
  have CB := Lib.hid (fun W X (x : List UInt8) d (hT : Crc.Tab W t) hX => Sector.seal_any t X x d W hT hX)
  generalize (h.rc sh).put = R at *
  generalize (h.rc sh).head = hd at *
  generalize SecM.sec hd = Z at *
  have HBY := Lib.hid hB
  have HT0 := Lib.hid (ht.below (bstep (balloc w (.cells #[.pointer (some ⟨t, 0, none⟩)] 28)) (balloc _ (.cells #[.int .i64 h.K, .string h.s, .int .i64 h.A, .int .i64 h.E, .int .i64 h.M, .int .i64 h.S, .slice B sh.length c] 24))))
  have HB0 := Lib.hid (bstep (balloc w (.cells #[.pointer (some ⟨t, 0, none⟩)] 28)) (balloc _ (.cells #[.int .i64 h.K, .string h.s, .int .i64 h.A, .int .i64 h.E, .int .i64 h.M, .int .i64 h.S, .slice B sh.length c] 24)))
  have hbx : ((w.alloc (.cells #[.pointer (some ⟨t, 0, none⟩)] 28)).alloc (.cells #[.int .i64 h.K, .string h.s, .int .i64 h.A, .int .i64 h.E, .int .i64 h.M, .int .i64 h.S, .slice B sh.length c] 24)).cell? ⟨w.heap.size, 0, none⟩ = some (.pointer (some ⟨t, 0, none⟩)) := by simp
  have HBX := Lib.hid hbx
  have hrb := RecB.new (w.alloc (.cells #[.pointer (some ⟨t, 0, none⟩)] 28)) h B sh.length c
  have hz : (w.alloc (.cells #[.pointer (some ⟨t, 0, none⟩)] 28)).heap.size = w.heap.size + 1 := by simp
  rw [hz] at hrb
  have HRB := Lib.hid hrb
  obtain ⟨n, hn⟩ : ∃ n, n = sh.length := ⟨_, rfl⟩
  have HN := Lib.hid hn
  rw [← hn] at CR CH CD HT0 HB0 HBX HRB hc hsl ⊢
  clear ht hm hhl hbx hrb hz hB hf hn
  refine (callsIn_wide (n := 12)).1 ?_
  refine callsIn_of_wp_marks Try.func10 rfl trivial ?_ rfl
  simp only [Try.ntmps10, List.size_toArray, List.length_cons, List.length_nil, Nat.reduceAdd, Nat.reduceSub, Array.replicate_succ, Array.replicate_zero, List.push_toArray, List.append_toArray, List.nil_append, List.cons_append]
  gi_wp2_with fail
  obtain ⟨p, hp⟩ : ∃ p, p = w.heap.size := ⟨_, rfl⟩
  obtain ⟨rb, hrb⟩ : ∃ rb, rb = w.heap.size + 1 := ⟨_, rfl⟩
  rw [← hp] at HBX
  rw [← hrb] at HRB ⊢
  rw [← hp]
  have HP := Lib.hid hp
  clear hp hrb
  generalize (w.alloc (.cells #[.pointer (some ⟨t, 0, none⟩)] 28)).alloc (.cells #[.int .i64 h.K, .string h.s, .int .i64 h.A, .int .i64 h.E, .int .i64 h.M, .int .i64 h.S, .slice B n c] 24) = w0 at *
  refine ⟨trivial, ?_⟩
  refine (callsIn_wide.2 (CR.out w0)).mono ?_
  rintro e w2 ⟨rfl, hb1⟩
  have cp2 := (hb1.cell (p := ⟨p, 0, none⟩) (cell_lt HBX.out)).trans HBX.out
  have HCP := Lib.hid cp2
  have HCR := Lib.hid (HRB.out.below hb1)
  have HT2 := Lib.hid (HT0.out.below hb1)
  have HB2W := Lib.hid (bstep HB0.out hb1)
  have hpl : p < w2.heap.size := cell_lt cp2
  have HTX := Lib.hid (HBY.out.below HB2W.out)
  obtain ⟨c0, c1, c2, c3, c4, c5, c6⟩ := HCR.out.all
  clear hb1 CR HBX HRB HT0 HB0 HBY
  gi_wp2_with fail
  refine wpIn_wide.2 ?_
  clear cp2 c0 c1 c2 c3 c4 c5 c6
  --FLOW--
  refine Drawn.wp_region_flowT 6 [Drawn.SP.is (.pointer (some ⟨t, 0, none⟩)), Drawn.SP.is (.agg #[.int .i64 h.K, .string h.s, .int .i64 h.A, .int .i64 h.E, .int .i64 h.M, .int .i64 h.S, .slice B n c]), Drawn.SP.bytes hd, SP.bytesN w2.heap.size Z, SP.ownN w2.heap.size [Z], SP.boxM w2.heap.size] (by kernel_rfl) (by kernel_rfl) ?_ ?_
  · intro i hi a w3 hb hev hdep
    rcases (show i = 0 ∨ i = 1 ∨ i = 2 ∨ i = 3 ∨ i = 4 ∨ i = 5 by omega) with rfl | rfl | rfl | rfl | rfl | rfl
    · have e2 : a.tmps[2]?.getD undef = .pointer (some ⟨p, 0, none⟩) := hev 2 rfl
      refine Drawn.wpOp_flow 16 rfl rfl rfl ?_
      have k1 := (hb.cell (p := ⟨p, 0, none⟩) (cell_lt HCP.out)).trans HCP.out
      obtain ⟨c0, c1, c2, c3, c4, c5, c6⟩ := (HCR.out.below hb).all
      clear hev hdep hb
      go_simp
      exact ⟨_, rfl, rfl, Below.refl _ _⟩
    · have e3 : a.tmps[3]?.getD undef = .pointer (some ⟨rb, 0, none⟩) := hev 3 rfl
      refine Drawn.wpOp_flow 17 rfl rfl rfl ?_
      have k1 := (hb.cell (p := ⟨p, 0, none⟩) (cell_lt HCP.out)).trans HCP.out
      obtain ⟨c0, c1, c2, c3, c4, c5, c6⟩ := (HCR.out.below hb).all
      clear hev hdep hb
      go_simp
      exact ⟨_, rfl, rfl, Below.refl _ _⟩
    · have d1 : a.tmps[17]?.getD undef = .agg #[.int .i64 h.K, .string h.s, .int .i64 h.A, .int .i64 h.E, .int .i64 h.M, .int .i64 h.S, .slice B n c] := hdep 1 rfl
      refine Drawn.wpOp_flow 18 rfl rfl rfl ?_
      clear hev hdep
      have C := CH.out w3
      clear hb
      go_simp
      refine C.mono ?_
      rintro e w' ⟨X, d, rfl, q1, q2, q, hb', _⟩
      exact ⟨_, rfl, ⟨X, d, rfl, q1, q2, q⟩, hb'⟩
    · have d0 : a.tmps[16]?.getD undef = .pointer (some ⟨t, 0, none⟩) := hdep 0 rfl
      obtain ⟨Xd2, cd2, d2, hd2, kd2, qd2⟩ : (Drawn.SP.bytes hd).p (a.tmps[18]?.getD undef) w3 := hdep 2 rfl
      refine Drawn.wpOp_flow 19 rfl rfl rfl ?_
      clear hev hdep
      have C := CS.out w3 Xd2 cd2 (HT2.out.below hb) qd2
      have hz := hb.size
      clear hb
      go_simp
      refine C.mono ?_
      rintro e w' ⟨X, d, rfl, q1, q2, q, hb', hn'⟩
      exact ⟨_, rfl, ⟨X, d, rfl, q1, q2, q, fun a e => Nat.le_trans hz (hn' a e)⟩, hb'⟩
    · obtain ⟨Xd3, cd3, d3, hd3, kd3, qd3, nd3⟩ : (SP.bytesN w2.heap.size Z).p (a.tmps[19]?.getD undef) w3 := hdep 3 rfl
      refine Drawn.wpOp_flow 20 rfl rfl rfl ?_
      clear hev hdep
      have C := OwnT.lit (T := fun k => k < w2.heap.size) w3 w2.heap.size hb.size Z Xd3 cd3 hd3 kd3 qd3 (fun _ a e h => by have := nd3 a e; omega) (fun k hk => Nat.lt_of_lt_of_le hk hb.size)
      clear hb
      go_simp
      exact ⟨_, rfl, ⟨_, rfl, C⟩, balloc _ _⟩
    · refine Drawn.wpOp_flow 6 rfl rfl rfl ?_
      clear hev hdep
      have hz := hb.size
      clear hb
      go_simp
      exact ⟨_, rfl, ⟨_, rfl, heap_alloc_new _ _, hz⟩, balloc _ _⟩
  · intro xq w3 hb hxq
    have vq0 : xq 0 = .pointer (some ⟨t, 0, none⟩) := hxq 0 (by omega)
    have vq1 : xq 1 = .agg #[.int .i64 h.K, .string h.s, .int .i64 h.A, .int .i64 h.E, .int .i64 h.M, .int .i64 h.S, .slice B n c] := hxq 1 (by omega)
    obtain ⟨Uvq4, vq4, ovq4⟩ : (SP.ownN w2.heap.size [Z]).p (xq 4) w3 := hxq 4 (by omega)
    obtain ⟨gvq5, vq5, cvq5, fvq5⟩ : (SP.boxM w2.heap.size).p (xq 5) w3 := hxq 5 (by omega)
    show wpList _ _ _ _ (Drawn.acts _ [(6, some (xq 5)), (20, some (xq 4)), (19, some (xq 3)), (18, some (xq 2)), (17, some (xq 1)), (16, some (xq 0))]) _
    rw [vq0, vq1, vq4, vq5]
    clear hxq vq0 vq1 vq4 vq5
    generalize xq 2 = yq2
    generalize xq 3 = yq3
    clear xq
    simp only [Drawn.acts, List.drop_succ_cons, List.drop_zero]
    go_simp
  --END--
    obtain ⟨AU, cu, hU, hu1, hu2, -, -⟩ := ovq4.ownM.rows
    have hU' : Uvq4 = .slice AU 1 cu := hU
    subst hU'
    have hcg : w3.cell? ⟨gvq5, 0, none⟩ = some (.slice none 0 0) := by rw [cell_of_row w3 gvq5 0 _ 25 (0, 0) cvq5]; rfl
    have hfg : w3.frozen? ⟨gvq5, 0, none⟩ = false := by unfold boxOf at cvq5; simp [World.frozen?, cvq5]
    have hbx0 : Boxed w3 gvq5 25 (.slice none 0 0) := cvq5
    have hg3 : gvq5 < w3.heap.size := cell_lt hcg
    have q3 : Keeps (fun j => j = gvq5) w3 (w3.setCell ⟨gvq5, 0, none⟩ (.slice AU 1 cu)) := .set _ _ _ _ rfl
    have hrl : rb < w2.heap.size := HCR.out.lt
    have c6 := ((HCR.out.below hb).keep q3 (fun e => by omega)).c6
    go_wp2_with fail
    gi_wp2_with fail
    refine ⟨trivial, ?_⟩
    refine (pieces_in _ B n c _).mono ?_
    rintro e w' ⟨rfl, rfl⟩
    gi_wp2_with fail
    have hs0 : OwnT (w3.setCell ⟨gvq5, 0, none⟩ (.slice AU 1 cu)) w2.heap.size (fun k => False ∨ (k = w3.heap.size ∨ k < w2.heap.size)) (.slice AU 1 cu) [Z] :=
      ((with_box ovq4 cvq5).keep q3 (fun _ e => .inl e)).more fun k h => by
        rcases h with h | h | h
        · exact h.elim
        · exact .inr (by subst h; simp)
        · exact .inl (.inr h)
    have e3 : (w3.setCell ⟨gvq5, 0, none⟩ (.slice AU 1 cu)).heap.size = w3.heap.size := by simp
    have hb0 : Below w2.heap.size w2 ((w3.setCell ⟨gvq5, 0, none⟩ (.slice AU 1 cu)).alloc (.cells #[.slice B n c] 22)) :=
      bstep (below_keeps hb q3 (fun j e => by omega) hb.size) (balloc _ _)
    have HPT : Hid (Pt w2 gvq5 w3.heap.size (Z :: ([] : List Pc).map (rowOf h)) (fun _ => False) ((w3.setCell ⟨gvq5, 0, none⟩ (.slice AU 1 cu)).alloc (.cells #[.slice B n c] 22))) := Lib.hid
      ⟨⟨AU, cu, (hbx0.set _).alloc _, hs0.below (balloc _ _), hu2, hu1⟩, hb0, fvq5, by simp⟩
    have hnc : ∀ (V : World) (v : Value) (ty : TypeId), (V.alloc (.cells #[v] ty)).cell? ⟨V.heap.size, 0, none⟩ = some v := fun V v ty => by simp
    have ht2 := hnc (w3.setCell ⟨gvq5, 0, none⟩ (.slice AU 1 cu)) (.slice B n c) 22
    rw [e3] at ht2
    have HBO : Hid (SeqOwn Fence.wide 11 Try.prog 51 #[.pointer (some ⟨w3.heap.size, 0, none⟩)] Pc.encs Pc.at_ (Blk w3.heap.size B sh) (fun xs => xs.map Pc.key = keys sh (pieces sh.length)) (pieces sh.length) ((w3.setCell ⟨gvq5, 0, none⟩ (.slice AU 1 cu)).alloc (.cells #[.slice B n c] 22))) := Lib.hid
      (pieces1_own w3.heap.size B sh c (by rw [← HN.out]; exact hc) hc2 (by rw [← HN.out]; omega) _ (by rw [← HN.out]; exact ht2) (HTX.out.below hb0))
    have hz0 : ((w3.setCell ⟨gvq5, 0, none⟩ (.slice AU 1 cu)).alloc (.cells #[.slice B n c] 22)).heap.size = w3.heap.size + 1 := by simp
    have hbs := hb0.size
    have HTXL : Hid (∀ j, Blk w3.heap.size B sh j → j = w3.heap.size ∨ j < w2.heap.size) := Lib.hid fun j hj => by
      rcases hj with rfl | ⟨h0, a, e, rfl⟩
      · exact .inl rfl
      · exact .inr (HTX.out.lt h0 a e)
    have HFV := Lib.hid fvq5
    have HPC : Hid (pieces sh.length ≤ 5) := Lib.hid (by rw [← HN.out]; unfold pieces; omega)
    generalize (w3.setCell ⟨gvq5, 0, none⟩ (.slice AU 1 cu)).alloc (.cells #[.slice B n c] 22) = W0 at *
    obtain ⟨tb, htb⟩ : ∃ tb, tb = w3.heap.size := ⟨_, rfl⟩
    rw [← htb] at HBO HTXL HPT hz0 hg3 ⊢
    clear q3 hs0 e3 hb0 ovq4 hcg hfg hbx0 hnc ht2 cvq5 fvq5 hb htb CH CS HTX hu1 hu2 c6 hc hc2 hrl
    refine wpIn_rangeFunc_seq rfl (by omega) (gf := 51) (lb := #[.pointer (some ⟨tb, 0, none⟩)]) rfl trivial (enters_of Try.func51 (by kernel_rfl) rfl)
      HBO.out (Below.refl _ _) (fun _ => rfl) (fun j hj => by have := HTXL.out j hj; omega)
      (fun xs Tt V => Pt w2 gvq5 tb (Z :: xs.map (rowOf h)) Tt V)
      (fun Tt xs X Y row h hg hr => h.grown hg (fun r e => ⟨by have := (hr r e).1; omega, (hr r e).2⟩))
      (fun xs Tt V V' hTt h q => h.joined (fun j hj => by have := (hTt j hj).1; omega) (fun hj => by have := (hTt _ hj).1; omega) q)
      (fun x _ X Y row h hg hr => ⟨h.1, h.2.1, h.2.2.1, h.2.2.2.1, fun i hi => by
        obtain ⟨bb, oo, e, hc⟩ := h.2.2.2.2 i hi
        exact ⟨bb, oo, e, cell_kept hc hg (fun r e => (hr r e).2)⟩⟩)
      HPT.out
      (fun x => { tmps := #[.pointer (some ⟨t, 0, none⟩), .agg #[.int .i64 h.K, .string h.s, .int .i64 h.A, .int .i64 h.E, .int .i64 h.M, .int .i64 h.S, .slice B n c], .pointer (some ⟨p, 0, none⟩), .pointer (some ⟨rb, 0, none⟩), .slice none 0 0, .int .i64 0, .pointer (some ⟨gvq5, 0, none⟩), .int .i64 (x.i : Nat), .slice x.A x.l.length x.c, .bool false, .agg #[.int .i64 h.K, .string h.s, .int .i64 h.A, .int .i64 h.E, .int .i64 h.M, .int .i64 h.S, .slice B n c], .bool true, .bool false, .bool false, .pointer (some ⟨t, 0, none⟩), .bool false, .pointer (some ⟨t, 0, none⟩), .agg #[.int .i64 h.K, .string h.s, .int .i64 h.A, .int .i64 h.E, .int .i64 h.M, .int .i64 h.S, .slice B n c], yq2, yq3, .slice AU 1 cu, .pointer (some ⟨rb, 6, none⟩), .slice B n c, .func (.func 51) #[] #[.pointer (some ⟨tb, 0, none⟩)], .int .i64 (x.i : Nat), .slice x.A x.l.length x.c, undef, undef, undef, undef, undef, undef, undef, undef, undef, undef], defers := [] }) ?assign ?body ?done
    case assign =>
      intro q x V K hK
      unfold Pc.encs
      gi_wp2
      exact hK
    case body =>
      rintro q pre x Tt V hTt hP hPx hlt
      obtain ⟨⟨X, d, h1, h2, h3, h4⟩, h5, h6, htbV⟩ := hP
      obtain ⟨xi, xA, xc, xl⟩ := x
      obtain ⟨hx48, hxi, hx1, hx2, hXB⟩ := hPx
      simp only at hx48 hxi hx1 hx2 hXB
      have HPL : Hid ((Z :: (pre ++ [(⟨xi, xA, xc, xl⟩ : Pc)]).map (rowOf h)) = (Z :: pre.map (rowOf h)) ++ [Sector.sealOf (wrB h xi xl)]) := Lib.hid (by simp [rowOf])
      have HLN : Hid ((Z :: pre.map (rowOf h)).length = pre.length + 1) := Lib.hid (by simp)
      have HLE := Lib.hid (show (Z :: pre.map (rowOf h)).length ≤ 1000 by have := HPC.out; rw [HLN.out]; omega)
      rw [HLN.out] at h1 h2 h4
      have HCG : Hid (V.cell? ⟨gvq5, 0, none⟩ = some (.slice X (pre.length + 1) d)) := Lib.hid h1.cell
      have HCPV : Hid (V.cell? ⟨p, 0, none⟩ = some (.pointer (some ⟨t, 0, none⟩))) := Lib.hid ((h5.cell (p := ⟨p, 0, none⟩) (cell_lt HCP.out)).trans HCP.out)
      have HCRV := Lib.hid (HCR.out.below h5)
      have HTV := Lib.hid (HT2.out.below h5)
      have HOV := Lib.hid h2
      have HH5 := Lib.hid h5
      have HBXV := Lib.hid h1
      have HX := Lib.hid hXB
      have HTT := Lib.hid hTt
      clear h1 h2 h5 h6 hXB hTt HPT HBO
      have CDX := Lib.hid (fun V' hb => CD.out V' xi xA xl xc hxi (HX.out.below hb) (by omega) hx1 hx2)
      have CBX := Lib.hid (fun V' Y f hb hY => CB.out V' Y (wrB h xi xl) f (HTV.out.below hb) hY)
      generalize (Z :: pre.map (rowOf h)) = rows at *
      generalize Sector.sealOf (wrB h xi xl) = sl at *
      generalize wrB h xi xl = bl at *
      generalize xl.length = xn at *
      gi_wp2_with fail
      --FLOW2--
      refine Drawn.wpIn_region_flowT 8 [Drawn.SP.is (.slice X (pre.length + 1) d), Drawn.SP.is (.pointer (some ⟨t, 0, none⟩)), Drawn.SP.is (.agg #[.int .i64 h.K, .string h.s, .int .i64 h.A, .int .i64 h.E, .int .i64 h.M, .int .i64 h.S, .slice B n c]), Drawn.SP.is (.int .i64 (xi : Nat)), Drawn.SP.is (.slice xA xn xc), Drawn.SP.bytes bl, SP.bytesN V.heap.size sl, SP.litN V.heap.size sl] (by kernel_rfl) (by kernel_rfl) ?_ ?_
      · intro i hi a w4 hb hev hdep
        rcases (show i = 0 ∨ i = 1 ∨ i = 2 ∨ i = 3 ∨ i = 4 ∨ i = 5 ∨ i = 6 ∨ i = 7 by omega) with rfl | rfl | rfl | rfl | rfl | rfl | rfl | rfl
        · have e6 : a.tmps[6]?.getD undef = .pointer (some ⟨gvq5, 0, none⟩) := hev 6 rfl
          refine Drawn.wpOpIn_flow 26 rfl rfl rfl ?_
          have k1 := (hb.cell (p := ⟨p, 0, none⟩) (cell_lt HCPV.out)).trans HCPV.out
          have k2 := (hb.cell (p := ⟨gvq5, 0, none⟩) (cell_lt HCG.out)).trans HCG.out
          obtain ⟨c0, c1, c2, c3, c4, c5, c6⟩ := (HCRV.out.below hb).all
          clear hev hdep hb
          go_simp
          exact ⟨_, rfl, rfl, Below.refl _ _⟩
        · have e2 : a.tmps[2]?.getD undef = .pointer (some ⟨p, 0, none⟩) := hev 2 rfl
          refine Drawn.wpOpIn_flow 27 rfl rfl rfl ?_
          have k1 := (hb.cell (p := ⟨p, 0, none⟩) (cell_lt HCPV.out)).trans HCPV.out
          have k2 := (hb.cell (p := ⟨gvq5, 0, none⟩) (cell_lt HCG.out)).trans HCG.out
          obtain ⟨c0, c1, c2, c3, c4, c5, c6⟩ := (HCRV.out.below hb).all
          clear hev hdep hb
          go_simp
          exact ⟨_, rfl, rfl, Below.refl _ _⟩
        · have e3 : a.tmps[3]?.getD undef = .pointer (some ⟨rb, 0, none⟩) := hev 3 rfl
          refine Drawn.wpOpIn_flow 28 rfl rfl rfl ?_
          have k1 := (hb.cell (p := ⟨p, 0, none⟩) (cell_lt HCPV.out)).trans HCPV.out
          have k2 := (hb.cell (p := ⟨gvq5, 0, none⟩) (cell_lt HCG.out)).trans HCG.out
          obtain ⟨c0, c1, c2, c3, c4, c5, c6⟩ := (HCRV.out.below hb).all
          clear hev hdep hb
          go_simp
          exact ⟨_, rfl, rfl, Below.refl _ _⟩
        · have e7 : a.tmps[7]?.getD undef = .int .i64 (xi : Nat) := hev 7 rfl
          refine Drawn.wpOpIn_flow 29 rfl rfl rfl ?_
          clear hev hdep hb
          go_simp
          exact ⟨_, rfl, rfl, Below.refl _ _⟩
        · have e8 : a.tmps[8]?.getD undef = .slice xA xn xc := hev 8 rfl
          refine Drawn.wpOpIn_flow 30 rfl rfl rfl ?_
          clear hev hdep hb
          go_simp
          exact ⟨_, rfl, rfl, Below.refl _ _⟩
        · have d2 : a.tmps[28]?.getD undef = .agg #[.int .i64 h.K, .string h.s, .int .i64 h.A, .int .i64 h.E, .int .i64 h.M, .int .i64 h.S, .slice B n c] := hdep 2 rfl
          have d3 : a.tmps[29]?.getD undef = .int .i64 (xi : Nat) := hdep 3 rfl
          have d4 : a.tmps[30]?.getD undef = .slice xA xn xc := hdep 4 rfl
          refine Drawn.wpOpIn_flow 31 rfl rfl rfl ?_
          clear hev hdep
          have C := CDX.out w4 hb
          clear hb
          go_simp
          refine ⟨trivial, ?_⟩
          refine (CallsIn.inRound q (callsIn_wide.2 C)).mono ?_
          rintro e w' ⟨Y, f, rfl, q1, q2, q3, hb', _⟩
          exact ⟨_, rfl, ⟨Y, f, rfl, q1, q2, q3⟩, hb'⟩
        · have d1 : a.tmps[27]?.getD undef = .pointer (some ⟨t, 0, none⟩) := hdep 1 rfl
          obtain ⟨Yd5, fd5, d5, hd5, kd5, qd5⟩ : (Drawn.SP.bytes bl).p (a.tmps[31]?.getD undef) w4 := hdep 5 rfl
          refine Drawn.wpOpIn_flow 32 rfl rfl rfl ?_
          clear hev hdep
          have C := CBX.out w4 Yd5 fd5 hb qd5
          have hz := hb.size
          clear hb
          go_simp
          refine ⟨trivial, ?_⟩
          refine (CallsIn.inRound q (callsIn_wide.2 C)).mono ?_
          rintro e w' ⟨Y, f, rfl, q1, q2, q3, hb', hn'⟩
          exact ⟨_, rfl, ⟨Y, f, rfl, q1, q2, q3, fun a e => Nat.le_trans hz (hn' a e)⟩, hb'⟩
        · obtain ⟨Yd6, fd6, d6, hd6, kd6, qd6, nd6⟩ : (SP.bytesN V.heap.size sl).p (a.tmps[32]?.getD undef) w4 := hdep 6 rfl
          refine Drawn.wpOpIn_flow 33 rfl rfl rfl ?_
          clear hev hdep
          have hz := hb.size
          clear hb
          go_simp
          exact ⟨_, rfl, ⟨_, Yd6, fd6, rfl, lit1_cell _ _ _, hd6, kd6, qd6.alloc _, nd6⟩, balloc _ _⟩
      · intro xq w4 hb hxq
        have vq0 : xq 0 = .slice X (pre.length + 1) d := hxq 0 (by omega)
        have vq1 : xq 1 = .pointer (some ⟨t, 0, none⟩) := hxq 1 (by omega)
        have vq2 : xq 2 = .agg #[.int .i64 h.K, .string h.s, .int .i64 h.A, .int .i64 h.E, .int .i64 h.M, .int .i64 h.S, .slice B n c] := hxq 2 (by omega)
        have vq3 : xq 3 = .int .i64 (xi : Nat) := hxq 3 (by omega)
        have vq4 : xq 4 = .slice xA xn xc := hxq 4 (by omega)
        obtain ⟨gvq7, Yvq7, fvq7, vq7, cvq7, hvq7, kvq7, qvq7, nvq7⟩ : (SP.litN V.heap.size sl).p (xq 7) w4 := hxq 7 (by omega)
        show wpListIn _ _ _ _ _ _ (Drawn.acts _ [(33, some (xq 7)), (32, some (xq 6)), (31, some (xq 5)), (30, some (xq 4)), (29, some (xq 3)), (28, some (xq 2)), (27, some (xq 1)), (26, some (xq 0))]) _
        rw [vq0, vq1, vq2, vq3, vq4, vq7]
        clear hxq vq0 vq1 vq2 vq3 vq4 vq7
        generalize xq 5 = yq5
        generalize xq 6 = yq6
        clear xq
        simp only [Drawn.acts, List.drop_succ_cons, List.drop_zero]
        go_simp
      --END--
        have hgl := cell_lt HCG.out
        simp only at hgl
        have hbs4 := hb.size
        have HO4 := Lib.hid (HOV.out.below hb)
        have hown := HOV.out.ownM.ownlt
        have HNE : Hid (0 < sl.length → ∀ a, Yvq7 = some a → (Value.slice X (pre.length + 1) d).ownBlock ≠ some a.block ∧ ¬ (Tt a.block ∨ (a.block = tb ∨ a.block < w2.heap.size))) := Lib.hid fun _ a e => by
          have h1 := nvq7 a e
          have h3 := HH5.out.size
          exact ⟨fun e2 => by have := (hown _ e2).2; omega, fun h2 => by
            rcases h2 with h2 | h2 | h2
            · have := (HTT.out _ h2).2; omega
            · omega
            · omega⟩
        have HTL : Hid (∀ k, (Tt k ∨ (k = tb ∨ k < w2.heap.size)) → k < w4.heap.size) := Lib.hid fun k hk => by
          have h3 := HH5.out.size
          rcases hk with hk | hk | hk
          · have := (HTT.out k hk).2; omega
          · omega
          · omega
        have HWB : Hid (w2.heap.size ≤ w4.heap.size) := Lib.hid (by have := HH5.out.size; omega)
        have HQV := Lib.hid qvq7
        have HCV := Lib.hid cvq7
        have HBV := Lib.hid hb
        have HPX := Lib.hid hlt
        have HKV : Hid (Boxed w4 gvq5 25 (.slice X (pre.length + 1) d)) := Lib.hid (boxed_below HBXV.out hb)
        clear qvq7 cvq7 hown nvq7 hb
        refine wpListIn_append_rowT rfl (.tmp 26) (.tmp 33) rfl w2.heap.size (fun k => Tt k ∨ (k = tb ∨ k < w2.heap.size)) (.slice X (pre.length + 1) d) rows rfl HO4.out gvq7 1 sl Yvq7 fvq7 rfl HCV.out hvq7 kvq7 HQV.out HNE.out HTL.out (by have := HLE.out; omega) HWB.out ?_
        intro v' w5 hown' hgrow' hplace'
        have hrn : (rows ++ [sl]).length = pre.length + 1 + 1 := by rw [List.length_append, HLN.out]; rfl
        obtain ⟨X', c', hv', hc1', hc2', -, -⟩ := hown'.ownM.rows
        rw [hrn] at hv' hc1'
        subst hv'
        have hgne : (Value.slice X (pre.length + 1) d).ownBlock ≠ some gvq5 := fun e => by
          obtain ⟨g', cap', e1, _, _, hnt⟩ := HO4.out.form (by rw [HLN.out]; omega)
          obtain ⟨vs, ⟨_, hr⟩, _, _⟩ := HO4.out
          rcases hr with ⟨e2, _⟩ | ⟨g2, cap2, cur2, e2, _, hh, _⟩
          · rw [e2] at e1; cases e1
          · rw [e2] at e
            injection e with e
            simp only at e
            subst e
            rw [show w4.heap[_]? = _ from HKV.out] at hh
            injection hh with hh
            injection hh with _ hh
            cases hh
        have bx5 : Boxed w5 gvq5 25 (.slice X (pre.length + 1) d) := HKV.out.kept hgrow' (fun e => hgne e.symm)
        have e5 := bx5.cell
        have f5 := bx5.frozen
        have q5 : Keeps (fun k => (Value.slice X (pre.length + 1) d).ownBlock = some k) w4 w5 := ⟨hgrow'.os, hgrow'.tape, hgrow'.output, hgrow'.size, fun k hk hn => hgrow'.block k hk (fun e => hn e.symm)⟩
        have hown4 := HO4.out.ownM.ownlt
        have hfv := HFV.out
        have hX'g : (Value.slice X' (pre.length + 1 + 1) c').ownBlock ≠ some gvq5 := fun e => by
          rcases hplace' with h | h
          · rw [h] at e; exact hgne e
          · rw [h] at e; injection e with e; omega
        have qs : Keeps (fun k => k = gvq5) w5 (w5.setCell ⟨gvq5, 0, none⟩ (.slice X' (pre.length + 1 + 1) c')) := .set _ _ _ _ rfl
        have hkk : Keeps (fun k => k = gvq5 ∨ (Value.slice X (pre.length + 1) d).ownBlock = some k) w4 (w5.setCell ⟨gvq5, 0, none⟩ (.slice X' (pre.length + 1 + 1) c')) :=
          (q5.mono fun k _ h => .inr h).trans (qs.mono fun k _ h => .inl h)
        have hgT : ∀ k, Tt k → W0.heap.size ≤ k := fun k hk => (HTT.out k hk).1
        obtain ⟨_, _, hnT, _⟩ := HO4.out
        have FIN : Hid (KeepsFrom W0.heap.size V (w5.setCell ⟨gvq5, 0, none⟩ (.slice X' (pre.length + 1 + 1) c')) ∧ Keeps (fun k => ¬ Tt k ∧ ¬ Blk tb B sh k) V (w5.setCell ⟨gvq5, 0, none⟩ (.slice X' (pre.length + 1 + 1) c')) ∧ Pt w2 gvq5 tb (Z :: (pre ++ [(⟨xi, xA, xc, xl⟩ : Pc)]).map (rowOf h)) Tt (w5.setCell ⟨gvq5, 0, none⟩ (.slice X' (pre.length + 1 + 1) c'))) := Lib.hid (by
          refine ⟨(keepsFrom_below HBV.out).trans (((KeepsOthers.of_grownBy hgrow' fun j o hj ho => HO4.out.cells j hj o ho).trans (KeepsOthers.setCell _ _ _)).from _), (Keeps.of_below _ HBV.out).trans (hkk.mono fun k _ hk => ?_), ⟨⟨X', c', ?_, ?_, hc2', ?_⟩, below_keeps (bstep HH5.out HBV.out) hkk (fun k hk => ?_) HWB.out, hfv, ?_⟩⟩
          · rcases hk with hk | hk
            · subst hk
              exact ⟨fun h => by have := hgT _ h; omega, fun h => by rcases HTXL.out _ h with h | h <;> omega⟩
            · exact ⟨fun h => hnT k hk (.inl h), fun h => by
                rcases HTXL.out _ h with h | h
                · exact hnT k hk (.inr (.inl h))
                · have := (hown4 k hk).1; omega⟩
          · rw [HPL.out, hrn]; exact bx5.set _
          · rw [HPL.out, hrn]; exact hown'.setBox bx5 hX'g _
          · rw [HPL.out, hrn]; exact hc1'
          · rcases hk with hk | hk
            · omega
            · exact (hown4 k hk).1
          · have := hkk.size; omega)
        clear hown' hgrow' hplace' hgne bx5 q5 hown4 hX'g qs hkk hgT hnT hc1' hc2' hrn
        gi_wp2
        have hfin := FIN.out
        rw [hz0] at hfin
        exact hfin
    case done =>
      rintro D xs Tt V hD hS hP hK
      obtain ⟨⟨X, d, h1, h2, h3, h4⟩, h5, -, -⟩ := hP
      have HRN : Hid (R.length = xs.length + 1) := Lib.hid (by rw [HPV.out xs hS]; simp)
      rw [← HPV.out xs hS] at h1 h2 h4
      have cg := h1.cell
      have HO := Lib.hid h2
      have HB5 := Lib.hid h5
      have hD3 : gvq5 ≠ D := by omega
      clear h1 h2 h5 HBO HPT hS HPV
      have kB := (bstep HB2W.out HB5.out).trans (belowK_b (w := w) (Nat.le_refl _) _ D _ (.deferred none) (by have := HB2W.out.size; omega) hK rfl rfl)
      have hgr := grownBy_putObj' V D (.deferred none)
      have hrows := HO.out.rowsP (P := fun k => w.heap.size ≤ k) fun k hk => by
        have h3 := HB2W.out.size
        exact Nat.le_of_not_lt fun h => hk (.inr (.inr (by omega)))
      obtain ⟨X2, c2, hv2, q1, q2, q3, -⟩ := hrows
      injection hv2 with hv1 _ hv3
      subst hv1
      subst hv3
      have hRW : RowsP (fun k => w.heap.size ≤ k) (V.putObj D (.deferred none)) X R := fun i hi => by
        have hr2 : ∀ r, some D = some r → ∃ o : Obj, V.heap[r]? = some o ∧ o.isCells = false := fun r e => by cases e; exact ⟨_, hK, rfl⟩
        obtain ⟨b2, o2, m1, B2, c3, m3, m4, m5, m6, m7⟩ := q3 i hi
        exact ⟨b2, o2, m1, B2, c3, cell_kept m3 hgr hr2, m4, m5, fun j hj => by
          obtain ⟨x2, y2, e2, hc2⟩ := m6 j hj
          exact ⟨x2, y2, e2, cell_kept hc2 hgr hr2⟩, m7⟩
      have HRW := Lib.hid hRW
      have HKB := Lib.hid kB
      obtain ⟨Rn, hRn⟩ : ∃ Rn, Rn = R.length := ⟨_, rfl⟩
      have HRn := Lib.hid hRn
      rw [← hRn] at cg h4
      have HFZ : Hid (∀ a, X = some a → w.heap.size ≤ a.block ∧ ∀ i, (V.putObj D (.deferred none)).frozen? ⟨a.block, i, none⟩ = false) := Lib.hid fun a e => by
        have hnw := HO.out.ownM.ownlt a.block (by rw [e]; rfl)
        refine ⟨by have := HB2W.out.size; omega, fun i => ?_⟩
        obtain ⟨vs, h1, _⟩ := HO.out
        rcases h1.2 with ⟨e2, _⟩ | ⟨g', cap', cur, e2, _, hh, _⟩
        · injection e2 with e2; rw [e2] at e; cases e
        · injection e2 with e2
          rw [e2] at e
          injection e with e
          subst e
          have hne : g' ≠ D := fun k => by rw [k, hK] at hh; cases hh
          have hh2 := (World.putObj_heap_other (w := V) (o := .deferred none) hne).trans hh
          simp [World.frozen?, hh2]
      clear kB hgr q3 hRW hRn HRN q1 q2
      gi_wp2
      refine ⟨by simp, .inl ⟨_, _, rfl, run_takeDeferred hK, ?_⟩⟩
      exact ⟨_, results_tmp2 rfl _ _ _, X, d, by rw [← HRn.out]; rfl, by rw [← HRn.out]; exact h4, h3, HRW.out, HKB.out, HFZ.out⟩
theorem put_new (t : Nat) (h : Hd) (hf : Fits h) (B : Option Addr) (sh : List UInt8) (c : Nat) (w : World) (ht : Crc.Tab w t) (hB : BytesAt w B sh) (hc : sh.length ≤ c) (hc2 : c ≤ maxLen) :
    Calls Try.prog 10 #[.pointer (some ⟨t, 0, none⟩), .agg #[.int .i64 h.K, .string h.s, .int .i64 h.A, .int .i64 h.E, .int .i64 h.M, .int .i64 h.S, .slice B sh.length c]] w (RetPutN w (putV (h.rc sh)) (putE (h.rc sh))) := by
  rcases hv : (h.rc sh).right with _ | _
  · have e1 : putV (h.rc sh) = [] := if_neg (by rw [hv]; simp)
    have e2 : putE (h.rc sh) = 3 := if_neg (by rw [hv]; simp)
    rw [e1, e2]
    exact put_not t h hf B sh c w hv
  · have hm := (right_iff _).1 hv
    rw [putV_may hm, putE_may hm]
    refine (put_may t h hf B sh c w ht hB hc hc2 hm).mono ?_
    rintro e w' ⟨X, d, h1, h2, h3, h4, h5, _⟩
    exact ⟨X, d, h1, h2, h3, h4, h5⟩
theorem put_any (t : Nat) (h : Hd) (hf : Fits h) (B : Option Addr) (sh : List UInt8) (c : Nat) (w : World) (ht : Crc.Tab w t) (hB : BytesAt w B sh) (hc : sh.length ≤ c) (hc2 : c ≤ maxLen) :
    Calls Try.prog 10 #[.pointer (some ⟨t, 0, none⟩), .agg #[.int .i64 h.K, .string h.s, .int .i64 h.A, .int .i64 h.E, .int .i64 h.M, .int .i64 h.S, .slice B sh.length c]] w (RetPut w (putV (h.rc sh)) (putE (h.rc sh))) := by
  refine (put_new t h hf B sh c w ht hB hc hc2).mono ?_
  rintro e w' ⟨X, d, h1, h2, h3, h4, h5⟩
  exact ⟨X, d, h1, h2, h3, h4.rows, h5⟩
end Go.Proofs.Ytnjghhkebcojnaa.Record

/- package record: Get -/
set_option maxRecDepth 100000
namespace Go.Proofs.Ytnjghhkebcojnaa.Record
open Go.RowKit Go.Shelf RecM
open Entry (RetPut)

theorem nameIn_size (b : List UInt8) (s : PackM.St) : (nameIn b s).size ≤ 17 := by
  unfold nameIn
  split
  · rename_i h
    unfold LabM.getS
    split
    · show ((LabM.nameAt (PackM.rawL b s 17)).toArray).size ≤ 17
      unfold LabM.nameAt
      simp
      omega
    · exact Nat.zero_le _
  · exact Nat.zero_le _
theorem fits0 : Fits hd0 := ⟨by decide, by decide, by decide, by decide, by decide, by decide⟩
theorem said_fits (ss : List (List UInt8)) : Fits (saidHd ss) := by
  rcases ss with _ | ⟨s, rest⟩
  · exact fits0
  · have h1 := PackM.numV_lt s (q1 s) 1
    have h2 := nameIn_size s (q2 s)
    have h3 := PackM.numV_lt s (q3 s) 4
    have h4 := PackM.numV_lt s (q4 s) 4
    have h5 := PackM.numV_lt s (q5 s) 4
    have h6 := PackM.numV_lt s (q6 s) 2
    refine ⟨?_, ?_, ?_, ?_, ?_, ?_⟩
    · show -9223372036854775808 ≤ ((PackM.numV s (q1 s) 1 : Nat) : Int) ∧ ((PackM.numV s (q1 s) 1 : Nat) : Int) ≤ 9223372036854775807; omega
    · show (nameIn s (q2 s)).size ≤ _; omega
    · show -9223372036854775808 ≤ ((PackM.numV s (q3 s) 4 : Nat) : Int) ∧ ((PackM.numV s (q3 s) 4 : Nat) : Int) ≤ 9223372036854775807; omega
    · show -9223372036854775808 ≤ ((PackM.numV s (q4 s) 4 : Nat) : Int) ∧ ((PackM.numV s (q4 s) 4 : Nat) : Int) ≤ 9223372036854775807; omega
    · show -9223372036854775808 ≤ ((PackM.numV s (q5 s) 4 : Nat) : Int) ∧ ((PackM.numV s (q5 s) 4 : Nat) : Int) ≤ 9223372036854775807; omega
    · show -9223372036854775808 ≤ ((PackM.numV s (q6 s) 2 : Nat) : Int) ∧ ((PackM.numV s (q6 s) 2 : Nat) : Int) ≤ 9223372036854775807; omega
/-- what Get tells of sectors -/
def RetGot (w : World) (ss : List (List UInt8)) (e : Ending) (w' : World) : Prop :=
  ∃ (h : Hd) (sh : List UInt8) (n : Int) (ok : Bool) (X : Option Addr) (d : Nat), e = .returned (.tuple #[.agg #[.int .i64 h.K, .string h.s, .int .i64 h.A, .int .i64 h.E, .int .i64 h.M, .int .i64 h.S, .slice X sh.length d], .int .i64 n, .bool ok]) ∧
    sh.length ≤ d ∧ d ≤ maxLen ∧ BytesAt w' X sh ∧ Fits h ∧ Got ss (h.rc sh) n ok ∧ Below w.heap.size w w' ∧ New w X
theorem got_first {ss : List (List UInt8)} {h : Hd} {sh : List UInt8} (hh : h = saidHd ss) (hs : sh = saidSh ss) (hm : (h.rc sh).right = true) :
    (firstB (h.rc sh).put ss = true → Got ss (h.rc sh) ((h.rc sh).put.length : Nat) true) ∧ (firstB (h.rc sh).put ss = false → Got ss (hd0.rc []) 0 false) := by
  obtain ⟨g1, g2⟩ := got_said (ss := ss) (h.rc sh) (by rw [hh, hs])
  refine ⟨fun hf => ?_, fun hf => g2 fun k => ?_⟩
  · rw [put_len]
    exact g1 ((right_iff _).1 hm) (of_decide_eq_true hf)
  · exact of_decide_eq_false hf k.2
theorem got_not {ss : List (List UInt8)} {h : Hd} {sh : List UInt8} (hh : h = saidHd ss) (hs : sh = saidSh ss) (hm : (h.rc sh).right = false) : Got ss (hd0.rc []) 0 false :=
  (got_said (ss := ss) (h.rc sh) (by rw [hh, hs])).2 fun k => by rw [(right_iff _).2 k.1] at hm; cases hm
set_option maxHeartbeats 2000000 in
theorem get_any (t : Nat) (A : Option Addr) (ss : List (List UInt8)) (c : Nat) (w : World) (ht : Crc.Tab w t) (hA : RowsAt w A ss) (hc : ss.length ≤ c) (hc2 : c ≤ maxLen) (hl : ss.length ≤ 1048576) (hfit : Fit ss) :
    Calls Try.prog 18 #[.pointer (some ⟨t, 0, none⟩), .slice A ss.length c] w (RetGot w ss) := by
  have CS := Lib.hid (fun W h => said_any A ss c W h hc hc2 hl hfit)
  have CF := Lib.hid (fun X p d W h1 h2 hp => areFirst_any X A p ss d c W h1 h2 hp hc hc2)
  have HF := Lib.hid (said_fits ss)
  have HA := Lib.hid hA; have HT := Lib.hid ht
  obtain ⟨H, hH⟩ : ∃ H, H = saidHd ss := ⟨_, rfl⟩
  obtain ⟨R, hR⟩ : ∃ R, R = saidSh ss := ⟨_, rfl⟩
  have HG1 : Hid ((H.rc R).right = true → (firstB (H.rc R).put ss = true → Got ss (H.rc R) ((H.rc R).put.length : Nat) true) ∧ (firstB (H.rc R).put ss = false → Got ss (hd0.rc []) 0 false)) := Lib.hid fun hm => got_first hH hR hm
  have HG2 : Hid ((H.rc R).right = false → Got ss (hd0.rc []) 0 false) := Lib.hid fun hm => got_not hH hR hm
  rw [← hH] at HF
  rw [← hH, ← hR] at CS
  have HPL : Hid ((H.rc R).right = true → (H.rc R).put.length ≤ 1048576) := Lib.hid fun hm => by rw [put_len]; have := count_le ((right_iff _).1 hm); omega
  have CP := Lib.hid (fun X d W ht hX h1 h2 => put_any t H HF.out X R d W ht hX h1 h2)
  clear hH hR hA ht hfit
  obtain ⟨sn, hsn⟩ : ∃ sn, sn = ss.length := ⟨_, rfl⟩
  rw [← hsn] at CS CF hc hl ⊢
  clear hsn
  have HR0 : Hid (RecB (w.alloc (.cells #[.int .i64 0, .string ⟨#[]⟩, .int .i64 0, .int .i64 0, .int .i64 0, .int .i64 0, .slice none 0 0] 24)) w.heap.size hd0 none 0 0) := Lib.hid (RecB.new w hd0 none 0 0)
  have HB0 := Lib.hid (balloc w (.cells #[.int .i64 0, .string ⟨#[]⟩, .int .i64 0, .int .i64 0, .int .i64 0, .int .i64 0, .slice none 0 0] 24))
  go_enter Try.func18, Try.ntmps18
  go_wp2_with fail
  obtain ⟨q, hq⟩ : ∃ q, q = w.heap.size := ⟨_, rfl⟩
  rw [← hq] at HR0 ⊢
  have HQ := Lib.hid hq
  clear hq
  generalize w.alloc (.cells #[.int .i64 0, .string ⟨#[]⟩, .int .i64 0, .int .i64 0, .int .i64 0, .int .i64 0, .slice none 0 0] 24) = W0 at *
  refine (CS.out W0 (HA.out.below HB0.out)).mono ?_
  rintro e w1 ⟨X, d, rfl, x1, x2, x3, hb1, hn1⟩
  have HX1 := Lib.hid x3
  have HXQ : Hid (∀ a, X = some a → q < a.block) := Lib.hid fun a e => by have h1 := hn1 a e; have h2 := HR0.out.lt; omega
  have HN1 : Hid (0 < R.length → ∀ a, X = some a → a.block < w1.heap.size) := Lib.hid fun h0 a e => x3.lt h0 a e
  have HNW : Hid (New w X) := Lib.hid (hn1.mono HB0.out.size)
  have HB1 := Lib.hid (bstep HB0.out hb1)
  have HR1 := Lib.hid (HR0.out.below hb1)
  have HRp : Hid (RecB (w1.alloc (.cells #[.int .i64 0, .string ⟨#[]⟩, .int .i64 0, .int .i64 0, .int .i64 0, .int .i64 0, .slice none 0 0] 24)) w1.heap.size hd0 none 0 0) := Lib.hid (RecB.new w1 hd0 none 0 0)
  have HBp := Lib.hid (balloc w1 (.cells #[.int .i64 0, .string ⟨#[]⟩, .int .i64 0, .int .i64 0, .int .i64 0, .int .i64 0, .slice none 0 0] 24))
  have HR2 := Lib.hid (HR1.out.below HBp.out)
  have HPW : Hid (w.heap.size ≤ w1.heap.size ∧ q < w1.heap.size) := Lib.hid ⟨HB1.out.size, HR1.out.lt⟩
  obtain ⟨rn, hrn⟩ : ∃ rn, rn = R.length := ⟨_, rfl⟩
  have HRN := Lib.hid hrn
  rw [← hrn] at x1 CP ⊢
  clear hb1 CS HR0 HB0 hn1 x3 hrn
  go_wp2_with (first
    | (refine wpList_store_rec rfl _ _ rfl w1.heap.size H X rn d rfl rfl hd0 none 0 0 HRp.out ?_; intro w2 hr2 hk2; have HS2 := Lib.hid hr2; have HK2 := Lib.hid hk2; clear hr2 hk2)
    | (refine wpList_load_rec rfl _ rfl w1.heap.size rfl H X rn d HS2.out ?_))
  have HX2 := Lib.hid (HK2.out.bytes' (HX1.out.below HBp.out) (fun h0 a e h => by have := HN1.out h0 a e; omega))
  have HB2 := Lib.hid (keeps_bstep (bstep HB1.out HBp.out) HK2.out (fun k e => by have := HPW.out.1; omega))
  have HR3 := Lib.hid (HR2.out.keep HK2.out (fun e => by have := HPW.out.2; omega))
  have HPN : Hid (∀ V, Below w2.heap.size w2 V → RecB V w1.heap.size H X rn d) := Lib.hid fun V hb => HS2.out.below hb
  clear HR2 HRp HBp HB1 HR1 HX1
  obtain ⟨p, hp⟩ : ∃ p, p = w1.heap.size := ⟨_, rfl⟩
  rw [← hp] at HPN HPW
  first | rw [← hp] | skip
  have CPX := CP.out X d w2 (HT.out.below HB2.out) HX2.out x1 x2
  clear CP HK2 HS2 HN1 hp HT
  rcases hv : (H.rc R).right with _ | _
  · have e1 : putV (H.rc R) = [] := if_neg (by rw [hv]; simp)
    have e2 : putE (H.rc R) = 3 := if_neg (by rw [hv]; simp)
    rw [e1, e2] at CPX
    have HG := Lib.hid (HG2.out hv)
    clear e1 e2 hv HG1 HG2 HPL CF
    refine CPX.mono ?_
    rintro e w4 ⟨Z, dz, rfl, z1, z2, z3, hb4⟩
    have HR4 := Lib.hid (HR3.out.below hb4)
    have HB4 := Lib.hid (bstep HB2.out hb4)
    clear z3 hb4 HB2 HR3
    go_wp2_with (refine wpList_store_rec rfl _ _ rfl q hd0 none 0 0 rfl rfl hd0 none 0 0 HR4.out ?_; intro w5 hr5 hk5; have HS5 := Lib.hid hr5; have HK5 := Lib.hid hk5; clear hr5 hk5)
    exact Go.bodyPost_ret (results_rec3 rfl _ _ q hd0 none 0 0 rfl HS5.out (.int .i64 0) (.bool false) rfl rfl) rfl ⟨hd0, [], 0, false, none, 0, rfl, Nat.le_refl _, Nat.zero_le _, BytesAt.nil _ _, fits0, HG.out, keeps_bstep HB4.out HK5.out (fun k e => by have := HQ.out; omega), New.none _⟩
  · have hm := (right_iff _).1 hv
    rw [putV_may hm, putE_may hm] at CPX
    obtain ⟨g1, g2⟩ := HG1.out hv
    have GT := Lib.hid g1; have GF := Lib.hid g2
    have hpl := HPL.out hv
    clear g1 g2 hm hv HG1 HG2 HPL
    obtain ⟨P, hP⟩ : ∃ P, P = (H.rc R).put := ⟨_, rfl⟩
    rw [← hP] at CPX GT GF hpl
    clear hP
    refine CPX.mono ?_
    rintro e w4 ⟨Z, dz, rfl, z1, z2, z3, hb4⟩
    have HZ := Lib.hid z3
    have HR4 := Lib.hid (HR3.out.below hb4)
    have HP4 := Lib.hid (HPN.out w4 hb4)
    have HX4 := Lib.hid (HX2.out.below hb4)
    have HB4 := Lib.hid (bstep HB2.out hb4)
    have C := Lib.hid (CF.out Z P dz w4 HZ.out (HA.out.below HB4.out) hpl)
    clear z3 hb4 HB2 HR3 CPX HPN HX2 HZ CF HA hpl
    generalize firstB P ss = b at *
    generalize P.length = pn at *
    go_wp2_with fail
    refine C.out.mono ?_
    rintro e w5 ⟨rfl, rfl⟩
    cases b
    · have HG := Lib.hid (GF.out rfl)
      clear GT GF C
      go_wp2_with (refine wpList_store_rec rfl _ _ rfl q hd0 none 0 0 rfl rfl hd0 none 0 0 HR4.out ?_; intro w5 hr5 hk5; have HS5 := Lib.hid hr5; have HK5 := Lib.hid hk5; clear hr5 hk5)
      exact Go.bodyPost_ret (results_rec3 rfl _ _ q hd0 none 0 0 rfl HS5.out (.int .i64 0) (.bool false) rfl rfl) rfl ⟨hd0, [], 0, false, none, 0, rfl, Nat.le_refl _, Nat.zero_le _, BytesAt.nil _ _, fits0, HG.out, keeps_bstep HB4.out HK5.out (fun k e => by have := HQ.out; omega), New.none _⟩
    · have HG := Lib.hid (GT.out rfl)
      clear GT GF C
      go_wp2_with (first
        | (refine wpList_load_rec rfl _ rfl p rfl H X rn d HP4.out ?_)
        | (refine wpList_store_rec rfl _ _ rfl q H X rn d rfl rfl hd0 none 0 0 HR4.out ?_; intro w5 hr5 hk5; have HS5 := Lib.hid hr5; have HK5 := Lib.hid hk5; clear hr5 hk5))
      have hx5 := HK5.out.bytes' HX4.out (fun h0 a e h => by have h1 := HXQ.out a e; omega)
      exact Go.bodyPost_ret (results_rec3 rfl _ _ q H X rn d rfl HS5.out (.int .i64 (pn : Nat)) (.bool true) rfl rfl) rfl ⟨H, R, _, true, X, d, by rw [HRN.out], by rw [← HRN.out]; exact x1, x2, hx5, HF.out, HG.out, keeps_bstep HB4.out HK5.out (fun k e => by have := HQ.out; omega), HNW.out⟩
end Go.Proofs.Ytnjghhkebcojnaa.Record
