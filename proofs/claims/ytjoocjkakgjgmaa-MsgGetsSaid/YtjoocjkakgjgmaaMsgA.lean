/- package msg: how a message lies in memory; isIn, isNumber, areAll -/
import Derived.Test.YtjoocjkakgjgmaaMsgMath
import Derived.Test.YtjoocjkakgjgmaaLabelA
import Derived.Test.YtjoocjkakgjgmaaInts
import Derived.Test.YtjoocjkakgjgmaaFoot
import Derived.Test.YtjoocjkakgjgmaaR07
import Derived.Laws.ResultCell
set_option maxRecDepth 100000
set_option maxHeartbeats 2000000
namespace Go.Proofs.Ytjoocjkakgjgmaa.Msg
open Go.RowKit MsgM
open R07 (StrsAt Sane RetStrs)

/-- a message with what its lists lie at -/
structure Mv where
  m : Ms
  P : Option Addr
  p : Nat
  Q : Option Addr
  q : Nat
  D : Option Addr
  d : Nat
def Mv.cells (x : Mv) : Array Value := #[.int .i64 x.m.K, .int .i64 x.m.F, .int .i64 x.m.T, .int .i64 x.m.B, .string x.m.s, .int .i64 x.m.A, .int .i64 x.m.E, .int .i64 x.m.M, .int .i64 x.m.S, .int .i64 x.m.W, .slice x.P x.m.who.length x.p, .slice x.Q x.m.names.length x.q, .slice x.D x.m.data.length x.d]
def mv0 : Mv := ⟨ms0, none, 0, none, 0, none, 0⟩
/-- numbers of an int, texts of any size -/
structure Fits (m : Ms) : Prop where
  k : -9223372036854775808 ≤ m.K ∧ m.K ≤ 9223372036854775807
  f : -9223372036854775808 ≤ m.F ∧ m.F ≤ 9223372036854775807
  t : -9223372036854775808 ≤ m.T ∧ m.T ≤ 9223372036854775807
  b : -9223372036854775808 ≤ m.B ∧ m.B ≤ 9223372036854775807
  n : m.s.size ≤ 9223372036854775807
  a : -9223372036854775808 ≤ m.A ∧ m.A ≤ 9223372036854775807
  e : -9223372036854775808 ≤ m.E ∧ m.E ≤ 9223372036854775807
  mm : -9223372036854775808 ≤ m.M ∧ m.M ≤ 9223372036854775807
  s : -9223372036854775808 ≤ m.S ∧ m.S ≤ 9223372036854775807
  w : -9223372036854775808 ≤ m.W ∧ m.W ≤ 9223372036854775807
  who : ∀ n ∈ m.who, -9223372036854775808 ≤ n ∧ n ≤ 9223372036854775807
  names : Sane m.names
/-- its lists -/
structure Lies (w : World) (x : Mv) : Prop where
  who : IntsAt w x.P x.m.who
  names : StrsAt w x.Q x.m.names
  data : BytesAt w x.D x.m.data
  p : x.m.who.length ≤ x.p
  q : x.m.names.length ≤ x.q
  d : x.m.data.length ≤ x.d
  p2 : x.p ≤ maxLen
  q2 : x.q ≤ maxLen
  d2 : x.d ≤ maxLen
theorem Lies.below {w w' : World} {x : Mv} (h : Lies w x) (hb : Below w.heap.size w w') : Lies w' x := ⟨h.who.below hb, h.names.below hb, h.data.below hb, h.p, h.q, h.d, h.p2, h.q2, h.d2⟩
theorem lies0 (w : World) : Lies w mv0 := ⟨CellsAt.nil _ _, CellsAt.nil _ _, BytesAt.nil _ _, Nat.le_refl _, Nat.le_refl _, Nat.le_refl _, Nat.zero_le _, Nat.zero_le _, Nat.zero_le _⟩
theorem fits0 : Fits ms0 := ⟨by decide, by decide, by decide, by decide, by decide, by decide, by decide, by decide, by decide, by decide, fun n h => (by cases h), fun n h => (by cases h)⟩
/-- a message in block g -/
def MsB (w : World) (g : Nat) (x : Mv) : Prop := w.heap[g]? = some (.cells #[.int .i64 x.m.K, .int .i64 x.m.F, .int .i64 x.m.T, .int .i64 x.m.B, .string x.m.s, .int .i64 x.m.A, .int .i64 x.m.E, .int .i64 x.m.M, .int .i64 x.m.S, .int .i64 x.m.W, .slice x.P x.m.who.length x.p, .slice x.Q x.m.names.length x.q, .slice x.D x.m.data.length x.d] 26 (0, 0))
section
variable {w w' : World} {g : Nat} {x : Mv}
theorem MsB.lt (k : MsB w g x) : g < w.heap.size := (Array.getElem?_eq_some_iff.1 k).1
theorem MsB.c0 (k : MsB w g x) : w.cell? ⟨g, 0, none⟩ = some (.int .i64 x.m.K) := by rw [cell_of_row w g 0 _ 26 (0, 0) k]; rfl
theorem MsB.c1 (k : MsB w g x) : w.cell? ⟨g, 1, none⟩ = some (.int .i64 x.m.F) := by rw [cell_of_row w g 1 _ 26 (0, 0) k]; rfl
theorem MsB.c2 (k : MsB w g x) : w.cell? ⟨g, 2, none⟩ = some (.int .i64 x.m.T) := by rw [cell_of_row w g 2 _ 26 (0, 0) k]; rfl
theorem MsB.c3 (k : MsB w g x) : w.cell? ⟨g, 3, none⟩ = some (.int .i64 x.m.B) := by rw [cell_of_row w g 3 _ 26 (0, 0) k]; rfl
theorem MsB.c4 (k : MsB w g x) : w.cell? ⟨g, 4, none⟩ = some (.string x.m.s) := by rw [cell_of_row w g 4 _ 26 (0, 0) k]; rfl
theorem MsB.c5 (k : MsB w g x) : w.cell? ⟨g, 5, none⟩ = some (.int .i64 x.m.A) := by rw [cell_of_row w g 5 _ 26 (0, 0) k]; rfl
theorem MsB.c6 (k : MsB w g x) : w.cell? ⟨g, 6, none⟩ = some (.int .i64 x.m.E) := by rw [cell_of_row w g 6 _ 26 (0, 0) k]; rfl
theorem MsB.c7 (k : MsB w g x) : w.cell? ⟨g, 7, none⟩ = some (.int .i64 x.m.M) := by rw [cell_of_row w g 7 _ 26 (0, 0) k]; rfl
theorem MsB.c8 (k : MsB w g x) : w.cell? ⟨g, 8, none⟩ = some (.int .i64 x.m.S) := by rw [cell_of_row w g 8 _ 26 (0, 0) k]; rfl
theorem MsB.c9 (k : MsB w g x) : w.cell? ⟨g, 9, none⟩ = some (.int .i64 x.m.W) := by rw [cell_of_row w g 9 _ 26 (0, 0) k]; rfl
theorem MsB.c10 (k : MsB w g x) : w.cell? ⟨g, 10, none⟩ = some (.slice x.P x.m.who.length x.p) := by rw [cell_of_row w g 10 _ 26 (0, 0) k]; rfl
theorem MsB.c11 (k : MsB w g x) : w.cell? ⟨g, 11, none⟩ = some (.slice x.Q x.m.names.length x.q) := by rw [cell_of_row w g 11 _ 26 (0, 0) k]; rfl
theorem MsB.c12 (k : MsB w g x) : w.cell? ⟨g, 12, none⟩ = some (.slice x.D x.m.data.length x.d) := by rw [cell_of_row w g 12 _ 26 (0, 0) k]; rfl
theorem MsB.all (k : MsB w g x) : w.cell? ⟨g, 0, none⟩ = some (.int .i64 x.m.K) ∧ w.cell? ⟨g, 1, none⟩ = some (.int .i64 x.m.F) ∧ w.cell? ⟨g, 2, none⟩ = some (.int .i64 x.m.T) ∧ w.cell? ⟨g, 3, none⟩ = some (.int .i64 x.m.B) ∧ w.cell? ⟨g, 4, none⟩ = some (.string x.m.s) ∧ w.cell? ⟨g, 5, none⟩ = some (.int .i64 x.m.A) ∧ w.cell? ⟨g, 6, none⟩ = some (.int .i64 x.m.E) ∧ w.cell? ⟨g, 7, none⟩ = some (.int .i64 x.m.M) ∧ w.cell? ⟨g, 8, none⟩ = some (.int .i64 x.m.S) ∧ w.cell? ⟨g, 9, none⟩ = some (.int .i64 x.m.W) ∧ w.cell? ⟨g, 10, none⟩ = some (.slice x.P x.m.who.length x.p) ∧ w.cell? ⟨g, 11, none⟩ = some (.slice x.Q x.m.names.length x.q) ∧ w.cell? ⟨g, 12, none⟩ = some (.slice x.D x.m.data.length x.d) :=
  ⟨k.c0, k.c1, k.c2, k.c3, k.c4, k.c5, k.c6, k.c7, k.c8, k.c9, k.c10, k.c11, k.c12⟩
theorem MsB.fr (k : MsB w g x) (i : Nat) : w.frozen? ⟨g, i, none⟩ = false := by
  unfold MsB at k
  simp [World.frozen?, k]
theorem MsB.new (w : World) (x : Mv) : MsB (w.alloc (.cells #[.int .i64 x.m.K, .int .i64 x.m.F, .int .i64 x.m.T, .int .i64 x.m.B, .string x.m.s, .int .i64 x.m.A, .int .i64 x.m.E, .int .i64 x.m.M, .int .i64 x.m.S, .int .i64 x.m.W, .slice x.P x.m.who.length x.p, .slice x.Q x.m.names.length x.q, .slice x.D x.m.data.length x.d] 26)) w.heap.size x := heap_alloc_new w _
theorem MsB.below (k : MsB w g x) (hb : Below w.heap.size w w') : MsB w' g x := (hb.block g k.lt).trans k
theorem MsB.keep {F : Nat → Prop} (k : MsB w g x) (q : Keeps F w w') (hg : ¬ F g) : MsB w' g x := (q.block g k.lt hg).trans k
theorem MsB.set {cs : Array Value} (k : w.heap[g]? = some (.cells cs 26 (0, 0))) (i : Nat) (u : Value) : (w.setCell ⟨g, i, none⟩ u).heap[g]? = some (.cells (cs.setIfInBounds i u) 26 (0, 0)) :=
  heap_setCell_same w g i cs _ u k
end
theorem ms_under : ∃ fs, Try.prog.underlying 26 = some (.struct fs) := ⟨Try.prog.fieldsOf 26, by kernel_rfl⟩
theorem ms_size : (Try.prog.info? 26).map (·.size) = some 13 := by kernel_rfl
theorem keeps_setRow (w : World) (g : Nat) (cs : Array Value) : Keeps (fun k => k = g) w (w.setRow g cs) := by
  refine ⟨?_, ?_, ?_, ?_, fun k _ hn => ?_⟩
  all_goals unfold World.setRow
  all_goals try rfl
  · simp
  · show (w.heap.modify g _)[k]? = w.heap[k]?
    rw [Array.getElem?_modify, if_neg (fun e => hn e.symm)]
theorem ms_one (x : Mv) : (#[.int .i64 x.m.K, .int .i64 x.m.F, .int .i64 x.m.T, .int .i64 x.m.B, .string x.m.s, .int .i64 x.m.A, .int .i64 x.m.E, .int .i64 x.m.M, .int .i64 x.m.S, .int .i64 x.m.W, .slice x.P x.m.who.length x.p, .slice x.Q x.m.names.length x.q, .slice x.D x.m.data.length x.d] : Array Value).all (·.oneCell') = true := by simp [Value.oneCell']
/-- a load, a store of the whole -/
theorem wpList_load_ms {ops : Array Oper} {rest : List Oper} {o : Oper} {a : Act} {w : World} {Q : Exit → Act → World → Prop} (hgd : o.guard = none) (p : Operand) (ho : o.op = .load 26 p)
    (g : Nat) (hx : a.eval p = .pointer (some ⟨g, 0, none⟩)) (x : Mv) (hg : MsB w g x)
    (k : wpList Try.prog ops Q rest (a.put o.dst (.agg #[.int .i64 x.m.K, .int .i64 x.m.F, .int .i64 x.m.T, .int .i64 x.m.B, .string x.m.s, .int .i64 x.m.A, .int .i64 x.m.E, .int .i64 x.m.M, .int .i64 x.m.S, .int .i64 x.m.W, .slice x.P x.m.who.length x.p, .slice x.Q x.m.names.length x.q, .slice x.D x.m.data.length x.d])) w) : wpList Try.prog ops Q (o :: rest) a w := by
  obtain ⟨fs, hu⟩ := ms_under
  exact wpList_load_row hgd 26 p ho g hx 26 _ (0, 0) _ hg hu rfl ms_size k
theorem wpList_store_ms {ops : Array Oper} {rest : List Oper} {o : Oper} {a : Act} {w : World} {Q : Exit → Act → World → Prop} (hgd : o.guard = none) (p y : Operand) (ho : o.op = .store 26 p y)
    (g : Nat) (x : Mv) (hx : a.eval p = .pointer (some ⟨g, 0, none⟩)) (hy : a.eval y = .agg #[.int .i64 x.m.K, .int .i64 x.m.F, .int .i64 x.m.T, .int .i64 x.m.B, .string x.m.s, .int .i64 x.m.A, .int .i64 x.m.E, .int .i64 x.m.M, .int .i64 x.m.S, .int .i64 x.m.W, .slice x.P x.m.who.length x.p, .slice x.Q x.m.names.length x.q, .slice x.D x.m.data.length x.d]) (x0 : Mv) (hg : MsB w g x0)
    (k : ∀ w', MsB w' g x → Keeps (fun k => k = g) w w' → wpList Try.prog ops Q rest (a.put o.dst undef) w') : wpList Try.prog ops Q (o :: rest) a w :=
  wpList_store_row hgd 26 p y ho g _ hx hy 26 _ hg ms_size rfl (ms_one x) (k _ (setRow_heap w g _ _ _ (0, 0) hg) (keeps_setRow w g _))
theorem load_ms (w : World) (g : Nat) (x : Mv) (k : MsB w g x) : (loadVar 26 ⟨g, 0, none⟩).run Try.prog w = .ok (.agg #[.int .i64 x.m.K, .int .i64 x.m.F, .int .i64 x.m.T, .int .i64 x.m.B, .string x.m.s, .int .i64 x.m.A, .int .i64 x.m.E, .int .i64 x.m.M, .int .i64 x.m.S, .int .i64 x.m.W, .slice x.P x.m.who.length x.p, .slice x.Q x.m.names.length x.q, .slice x.D x.m.data.length x.d]) w := by
  obtain ⟨fs, hu⟩ := ms_under
  exact run_loadVar_row w g 26 26 _ (0, 0) _ k hu rfl ms_size
theorem results_ms1 {fn : Func} {p : Tmp} (e : fn.results = #[.cell p 26]) (tmps : Array Value) (w : World) (g : Nat) (x : Mv) (hp : tmps.getD p undef = .pointer (some ⟨g, 0, none⟩)) (k : MsB w g x) :
    (results fn tmps).run Try.prog w = .ok (.agg #[.int .i64 x.m.K, .int .i64 x.m.F, .int .i64 x.m.T, .int .i64 x.m.B, .string x.m.s, .int .i64 x.m.A, .int .i64 x.m.E, .int .i64 x.m.M, .int .i64 x.m.S, .int .i64 x.m.W, .slice x.P x.m.who.length x.p, .slice x.Q x.m.names.length x.q, .slice x.D x.m.data.length x.d]) w := by
  have hp' : tmps[p]?.getD undef = .pointer (some ⟨g, 0, none⟩) := by simpa using hp
  simp [results, e, hp', asAddr, load_ms w g x k]
theorem results_ms2 {fn : Func} {p u : Tmp} (e : fn.results = #[.cell p 26, .tmp u]) (tmps : Array Value) (w : World) (g : Nat) (x : Mv) (hp : tmps.getD p undef = .pointer (some ⟨g, 0, none⟩)) (k : MsB w g x) (v : Value) (hv : tmps.getD u undef = v) :
    (results fn tmps).run Try.prog w = .ok (.tuple #[.agg #[.int .i64 x.m.K, .int .i64 x.m.F, .int .i64 x.m.T, .int .i64 x.m.B, .string x.m.s, .int .i64 x.m.A, .int .i64 x.m.E, .int .i64 x.m.M, .int .i64 x.m.S, .int .i64 x.m.W, .slice x.P x.m.who.length x.p, .slice x.Q x.m.names.length x.q, .slice x.D x.m.data.length x.d], v]) w := by
  rw [results_cell_tmp e, hp, hv]
  simp only [asAddr, Sem.run_pure, Result.andThen_ok, load_ms w g x k]
theorem zero_ms (w : World) : (zeroValue 26).run Try.prog w = .ok (.agg #[.int .i64 0, .int .i64 0, .int .i64 0, .int .i64 0, .string ByteArray.empty, .int .i64 0, .int .i64 0, .int .i64 0, .int .i64 0, .int .i64 0, .slice none 0 0, .slice none 0 0, .slice none 0 0]) w := by kernel_rfl

theorem isIn_any (n lo hi : Int) (w : World) : Calls Try.prog 27 #[.int .i64 n, .int .i64 lo, .int .i64 hi] w fun e w' => e = .returned (.bool (decide (lo ≤ n ∧ n ≤ hi))) ∧ w = w' := by
  by_cases h0 : lo ≤ n
  · have hq : decide (lo ≤ n ∧ n ≤ hi) = decide (n ≤ hi) := by simp [h0]
    rw [hq]
    go_enter Try.func27, Try.ntmps27
    go_wp2
    go_ret
    exact ⟨rfl, rfl⟩
  · have hq : decide (lo ≤ n ∧ n ≤ hi) = false := decide_eq_false fun h => h0 h.1
    rw [hq]
    go_enter Try.func27, Try.ntmps27
    go_wp2
    go_ret
    exact ⟨rfl, rfl⟩
theorem isNum_any (n : Int) (hn : -9223372036854775808 ≤ n ∧ n ≤ 9223372036854775807) (w : World) : Calls Try.prog 28 #[.int .i64 n] w fun e w' => e = .returned (.bool (num n)) ∧ w = w' := by
  by_cases h0 : 0 ≤ n
  · have e : IntKind.u64.wrap n = n := IntWalk.u64_in _ (by omega)
    have hq : num n = decide (n ≤ 4294967295) := by unfold num; simp [h0]
    rw [hq]
    go_enter Try.func28, Try.ntmps28
    go_wp2
    go_ret
    exact ⟨rfl, rfl⟩
  · have hq : num n = false := by unfold num; simp [h0]
    rw [hq]
    go_enter Try.func28, Try.ntmps28
    go_wp2
    go_ret
    exact ⟨rfl, rfl⟩
theorem name_any (s : ByteArray) (w : World) (hs : s.size ≤ 9223372036854775807) : Calls Try.prog 29 #[.string s] w fun e w' => e = .returned (.bool (nam s)) ∧ ∃ n, w' = w.drewN n := Label.right_any s w hs

theorem notNum_any (g : Nat) (n : Int) (hn : -9223372036854775808 ≤ n ∧ n ≤ 9223372036854775807) (w : World) (hc : w.cell? ⟨g, 0, none⟩ = some (.func (.func 28) #[] #[])) :
    Calls Try.prog 58 #[.int .i64 n, .pointer (some ⟨g, 0, none⟩)] w fun e w' => e = .returned (.bool (!num n)) ∧ Below w.heap.size w w' := by
  have HC := Lib.hid (fun W => isNum_any n hn W)
  clear hn
  generalize num n = v at *
  go_enter Try.func58, Try.ntmps58
  go_wp2_with fail
  refine (HC.out _).mono ?_
  rintro e w1 ⟨rfl, hb1⟩
  clear HC
  cases v
  all_goals
    go_wp2
    go_ret
    exact ⟨rfl, by subst hb1; exact Below.refl _ _⟩
theorem indexNum_any (A : Option Addr) (l : List Int) (c g : Nat) (w : World) (hs : w.cell? ⟨g, 0, none⟩ = some (.func (.func 28) #[] #[])) (h : IntsAt w A l) (hm : l.length ≤ 1048576) (hi : ∀ n ∈ l, -9223372036854775808 ≤ n ∧ n ≤ 9223372036854775807) :
    Calls Try.prog 70 #[.slice A l.length c, .func (.func 58) #[] #[.pointer (some ⟨g, 0, none⟩)]] w fun e w' => (∃ r : Int, e = .returned (.int .i64 r) ∧ decide (0 ≤ r) = !l.all num) ∧ Below w.heap.size w w' := by
  have HS := Lib.hid hs; have H := Lib.hid h
  have HC := Lib.hid (fun n V (hi : -9223372036854775808 ≤ n ∧ n ≤ 9223372036854775807) hs => notNum_any g n hi V hs)
  have HI := Lib.hid hi
  clear hs h hi
  go_enter Try.func70, Try.ntmps70
  go_wp2
  go_loopw [8] (fun i wr => ∃ k : Nat, k ≤ l.length ∧ i = .int .i64 k ∧ Below w.heap.size w wr ∧ ∀ j, (hj : j < l.length) → j < k → num l[j] = true)
    (fun i _ => l.length - (intOf i).toNat)
  case atStart => exact ⟨0, Nat.zero_le _, rfl, Below.refl _ _, fun j _ h => by omega⟩
  case round =>
    obtain ⟨k, hk, rfl, hb, hall⟩ := hrel
    rename World => wr
    have HALL := Lib.hid hall; have HB := Lib.hid hb
    clear hall hb
    by_cases hlt : k < l.length
    · obtain ⟨b, o, rfl, e0⟩ := (H.out.below HB.out).at hlt
      have hin := HI.out l[k] (List.getElem_mem hlt)
      have hC := HC.out l[k] wr hin ((HB.out.cell (p := ⟨g, 0, none⟩) (cell_lt HS.out)).trans HS.out)
      obtain ⟨v, hv⟩ : ∃ v, v = num l[k] := ⟨_, rfl⟩
      rw [← hv] at hC
      have HV := Lib.hid hv; have HC2 := Lib.hid hC
      clear hv hC hin
      cases v
      · go_wp2_with fail
        refine HC2.out.mono ?_
        rintro e w' ⟨rfl, hb'⟩
        go_wp2
        go_ret
        refine ⟨⟨k, rfl, ?_⟩, bstep HB.out hb'⟩
        have ha : l.all num = false := by rw [List.all_eq_false]; exact ⟨_, List.getElem_mem hlt, by rw [← HV.out]; simp⟩
        rw [ha]; simp
      · go_wp2_with fail
        refine HC2.out.mono ?_
        rintro e w' ⟨rfl, hb'⟩
        go_wp2
        go_roundw
        case rel =>
          refine ⟨k + 1, by omega, by go_num, bstep HB.out hb', fun j hj hjk => ?_⟩
          by_cases e : j = k
          · subst e; exact HV.out.symm
          · exact HALL.out j hj (by omega)
        case measure => simp [intOf] <;> omega
    · obtain rfl : k = l.length := by omega
      go_wp2
      go_ret
      refine ⟨⟨-1, rfl, ?_⟩, HB.out⟩
      have ha : l.all num = true := by
        rw [List.all_eq_true]
        intro x hx
        obtain ⟨j, hj, rfl⟩ := List.getElem_of_mem hx
        exact HALL.out j hj hj
      rw [ha]; rfl
theorem containsNum_any (A : Option Addr) (l : List Int) (c g : Nat) (w : World) (hs : w.cell? ⟨g, 0, none⟩ = some (.func (.func 28) #[] #[])) (h : IntsAt w A l) (hm : l.length ≤ 1048576) (hi : ∀ n ∈ l, -9223372036854775808 ≤ n ∧ n ≤ 9223372036854775807) :
    Calls Try.prog 57 #[.slice A l.length c, .func (.func 58) #[] #[.pointer (some ⟨g, 0, none⟩)]] w fun e w' => e = .returned (.bool (!l.all num)) ∧ Below w.heap.size w w' := by
  have hC := indexNum_any A l c g w hs h hm hi
  clear hs h hi
  generalize (!l.all num) = al at *
  have HC := Lib.hid hC
  clear hC
  go_enter Try.func57, Try.ntmps57
  go_wp2_with fail
  refine HC.out.mono ?_
  rintro e w' ⟨⟨r, rfl, hr⟩, hb⟩
  rcases al with _ | _
  · have h0 : ¬ 0 ≤ r := of_decide_eq_false hr
    clear hr
    go_wp2
    go_ret
    exact ⟨by first | (simp; done) | (simp; omega), hb⟩
  · have h0 : 0 ≤ r := of_decide_eq_true hr
    clear hr
    go_wp2
    go_ret
    exact ⟨by first | (simp; done) | (simp; omega), hb⟩
theorem allNum_any (A : Option Addr) (l : List Int) (c most : Nat) (hmost : most ≤ 1048576) (w : World) (h : IntsAt w A l) (hi : ∀ n ∈ l, -9223372036854775808 ≤ n ∧ n ≤ 9223372036854775807) :
    Calls Try.prog 30 #[.slice A l.length c, .int .i64 (most : Nat), .func (.func 28) #[] #[]] w fun e w' => e = .returned (.bool (decide (l.length ≤ most) && l.all num)) ∧ Below w.heap.size w w' := by
  have HB := Lib.hid (balloc w (.cells #[.func (.func 28) #[] #[]] 54))
  by_cases hl : l.length ≤ most
  · have hl2 : (l.length : Int) ≤ (most : Int) := by omega
    rw [decide_eq_true hl, Bool.true_and]
    have HC := Lib.hid (fun W g hs h => containsNum_any A l c g W hs h (by omega) hi)
    have H := Lib.hid h
    clear h hi hl
    have hx : (!!l.all num) = l.all num := Bool.not_not _
    generalize l.all num = al at *
    generalize l.length = n at *
    go_enter Try.func30, Try.ntmps30
    go_wp2_with fail
    refine (HC.out _ _ (by simp) (H.out.below HB.out)).mono ?_
    rintro e w1 ⟨rfl, hb1⟩
    have HB1 := Lib.hid (bstep HB.out hb1)
    clear hb1 HC H HB
    cases al
    all_goals
      go_wp2
      go_ret
      exact ⟨rfl, HB1.out⟩
  · have hl2 : ¬ (l.length : Int) ≤ (most : Int) := by omega
    rw [decide_eq_false hl, Bool.false_and]
    clear h hi hl
    generalize l.length = n at *
    go_enter Try.func30, Try.ntmps30
    go_wp2
    go_ret
    exact ⟨rfl, HB.out⟩

theorem notName_any (g : Nat) (n : ByteArray) (hn : n.size ≤ 9223372036854775807) (w : World) (hc : w.cell? ⟨g, 0, none⟩ = some (.func (.func 29) #[] #[])) :
    Calls Try.prog 60 #[.string n, .pointer (some ⟨g, 0, none⟩)] w fun e w' => e = .returned (.bool (!nam n)) ∧ Below w.heap.size w w' := by
  have HC := Lib.hid (fun W => name_any n W hn)
  clear hn
  generalize nam n = v at *
  go_enter Try.func60, Try.ntmps60
  go_wp2_with fail
  refine (HC.out _).mono ?_
  rintro e w1 ⟨rfl, hb1⟩
  clear HC
  cases v
  all_goals
    go_wp2
    go_ret
    exact ⟨rfl, bquiet hb1⟩
theorem indexName_any (A : Option Addr) (l : List ByteArray) (c g : Nat) (w : World) (hs : w.cell? ⟨g, 0, none⟩ = some (.func (.func 29) #[] #[])) (h : StrsAt w A l) (hm : l.length ≤ 1048576) (hi : ∀ n ∈ l, n.size ≤ 9223372036854775807) :
    Calls Try.prog 71 #[.slice A l.length c, .func (.func 60) #[] #[.pointer (some ⟨g, 0, none⟩)]] w fun e w' => (∃ r : Int, e = .returned (.int .i64 r) ∧ decide (0 ≤ r) = !l.all nam) ∧ Below w.heap.size w w' := by
  have HS := Lib.hid hs; have H := Lib.hid h
  have HC := Lib.hid (fun n V (hi : n.size ≤ 9223372036854775807) hs => notName_any g n hi V hs)
  have HI := Lib.hid hi
  clear hs h hi
  go_enter Try.func71, Try.ntmps71
  go_wp2
  go_loopw [8] (fun i wr => ∃ k : Nat, k ≤ l.length ∧ i = .int .i64 k ∧ Below w.heap.size w wr ∧ ∀ j, (hj : j < l.length) → j < k → nam l[j] = true)
    (fun i _ => l.length - (intOf i).toNat)
  case atStart => exact ⟨0, Nat.zero_le _, rfl, Below.refl _ _, fun j _ h => by omega⟩
  case round =>
    obtain ⟨k, hk, rfl, hb, hall⟩ := hrel
    rename World => wr
    have HALL := Lib.hid hall; have HB := Lib.hid hb
    clear hall hb
    by_cases hlt : k < l.length
    · obtain ⟨b, o, rfl, e0⟩ := (H.out.below HB.out).at hlt
      have hin := HI.out l[k] (List.getElem_mem hlt)
      have hC := HC.out l[k] wr hin ((HB.out.cell (p := ⟨g, 0, none⟩) (cell_lt HS.out)).trans HS.out)
      obtain ⟨v, hv⟩ : ∃ v, v = nam l[k] := ⟨_, rfl⟩
      rw [← hv] at hC
      have HV := Lib.hid hv; have HC2 := Lib.hid hC
      clear hv hC hin
      cases v
      · go_wp2_with fail
        refine HC2.out.mono ?_
        rintro e w' ⟨rfl, hb'⟩
        go_wp2
        go_ret
        refine ⟨⟨k, rfl, ?_⟩, bstep HB.out hb'⟩
        have ha : l.all nam = false := by rw [List.all_eq_false]; exact ⟨_, List.getElem_mem hlt, by rw [← HV.out]; simp⟩
        rw [ha]; simp
      · go_wp2_with fail
        refine HC2.out.mono ?_
        rintro e w' ⟨rfl, hb'⟩
        go_wp2
        go_roundw
        case rel =>
          refine ⟨k + 1, by omega, by go_num, bstep HB.out hb', fun j hj hjk => ?_⟩
          by_cases e : j = k
          · subst e; exact HV.out.symm
          · exact HALL.out j hj (by omega)
        case measure => simp [intOf] <;> omega
    · obtain rfl : k = l.length := by omega
      go_wp2
      go_ret
      refine ⟨⟨-1, rfl, ?_⟩, HB.out⟩
      have ha : l.all nam = true := by
        rw [List.all_eq_true]
        intro x hx
        obtain ⟨j, hj, rfl⟩ := List.getElem_of_mem hx
        exact HALL.out j hj hj
      rw [ha]; rfl
theorem containsName_any (A : Option Addr) (l : List ByteArray) (c g : Nat) (w : World) (hs : w.cell? ⟨g, 0, none⟩ = some (.func (.func 29) #[] #[])) (h : StrsAt w A l) (hm : l.length ≤ 1048576) (hi : ∀ n ∈ l, n.size ≤ 9223372036854775807) :
    Calls Try.prog 59 #[.slice A l.length c, .func (.func 60) #[] #[.pointer (some ⟨g, 0, none⟩)]] w fun e w' => e = .returned (.bool (!l.all nam)) ∧ Below w.heap.size w w' := by
  have hC := indexName_any A l c g w hs h hm hi
  clear hs h hi
  generalize (!l.all nam) = al at *
  have HC := Lib.hid hC
  clear hC
  go_enter Try.func59, Try.ntmps59
  go_wp2_with fail
  refine HC.out.mono ?_
  rintro e w' ⟨⟨r, rfl, hr⟩, hb⟩
  rcases al with _ | _
  · have h0 : ¬ 0 ≤ r := of_decide_eq_false hr
    clear hr
    go_wp2
    go_ret
    exact ⟨by first | (simp; done) | (simp; omega), hb⟩
  · have h0 : 0 ≤ r := of_decide_eq_true hr
    clear hr
    go_wp2
    go_ret
    exact ⟨by first | (simp; done) | (simp; omega), hb⟩
theorem allName_any (A : Option Addr) (l : List ByteArray) (c most : Nat) (hmost : most ≤ 1048576) (w : World) (h : StrsAt w A l) (hi : ∀ n ∈ l, n.size ≤ 9223372036854775807) :
    Calls Try.prog 31 #[.slice A l.length c, .int .i64 (most : Nat), .func (.func 29) #[] #[]] w fun e w' => e = .returned (.bool (decide (l.length ≤ most) && l.all nam)) ∧ Below w.heap.size w w' := by
  have HB := Lib.hid (balloc w (.cells #[.func (.func 29) #[] #[]] 52))
  by_cases hl : l.length ≤ most
  · have hl2 : (l.length : Int) ≤ (most : Int) := by omega
    rw [decide_eq_true hl, Bool.true_and]
    have HC := Lib.hid (fun W g hs h => containsName_any A l c g W hs h (by omega) hi)
    have H := Lib.hid h
    clear h hi hl
    have hx : (!!l.all nam) = l.all nam := Bool.not_not _
    generalize l.all nam = al at *
    generalize l.length = n at *
    go_enter Try.func31, Try.ntmps31
    go_wp2_with fail
    refine (HC.out _ _ (by simp) (H.out.below HB.out)).mono ?_
    rintro e w1 ⟨rfl, hb1⟩
    have HB1 := Lib.hid (bstep HB.out hb1)
    clear hb1 HC H HB
    cases al
    all_goals
      go_wp2
      go_ret
      exact ⟨rfl, HB1.out⟩
  · have hl2 : ¬ (l.length : Int) ≤ (most : Int) := by omega
    rw [decide_eq_false hl, Bool.false_and]
    clear h hi hl
    generalize l.length = n at *
    go_enter Try.func31, Try.ntmps31
    go_wp2
    go_ret
    exact ⟨rfl, HB.out⟩
end Go.Proofs.Ytjoocjkakgjgmaa.Msg
