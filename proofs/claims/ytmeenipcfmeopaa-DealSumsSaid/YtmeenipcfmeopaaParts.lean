/- package stripe: the places of a blob's stripes, an iterator -/
import Derived.Test.YtmeenipcfmeopaaPlan
import Derived.Test.YtmeenipcfmeopaaStripeMath
import Derived.Lib.MinMax
import Derived.RangeFuncNested
import Derived.RangeFuncBound
import Derived.RangeFuncCalls
import Derived.RangeFuncLeaves
import Derived.Shelf.Abstract
import Derived.Shelf.RegionOpen
import Derived.OwnWalkIn
import Derived.TacticsInMore
import Derived.LoopNIn
import Derived.LoopIn
set_option maxRecDepth 100000
namespace Go.Proofs.Ytmeenipcfmeopaa.Stripe
open Go.RowKit Go.Shelf PlanM StripeM Plan
attribute [local go_sem] Oper.semAt_some

/-- copy's answer, where it writes a row of bytes that is known whole -/
theorem run_copy_u8 (w : World) (ty : TypeId) (D : Option Addr) (dn dc : Nat) (A : Option Addr) (l : List UInt8) (c : Nat) (g off : Nat) (l0 : List UInt8) (hg : Row w g l0) (hD : 0 < dn → D = some ⟨g, off, none⟩) (hA : BytesAt w A l) (hfit : off + min l.length dn ≤ l0.length) :
    ∃ w', (Builtin.copy_ #[24, 24] ty #[.slice D dn dc, .slice A l.length c]).run Try.prog w = .ok (goInt (min l.length dn : Nat)) w' ∧ Row w' g (splice l0 off (l.take dn)) ∧ w.grownBy w' (some g) := by
  by_cases h0 : min l.length dn = 0
  · refine ⟨w, ?_, ?_, grow_refl _ _⟩
    · rw [h0]; exact run_copy_none (P := Try.prog) w 24 24 ty 5 D A dn dc l.length c Try.underlying24 u8_size h0
    · have : l.take dn = [] := by
        apply List.eq_nil_of_length_eq_zero
        rw [List.length_take]; omega
      rw [this]
      simpa [splice] using hg
  · rw [hD (by omega)]
    obtain ⟨b, o', hA', _⟩ := hA 0 (by omega)
    have hlen : (vals (l.take dn)).length = Nat.min l.length dn := by rw [vals_len, List.length_take]; exact Nat.min_comm _ _
    have hsrc : ∀ j v, (vals (l.take dn))[j]? = some v → w.cell? ((⟨b, o', none⟩ : Addr).add j) = some v := fun j v hv => by
      have hj : j < (vals (l.take dn)).length := by
        rcases Nat.lt_or_ge j (vals (l.take dn)).length with hlt | hge
        · exact hlt
        · rw [List.getElem?_eq_none hge] at hv; cases hv
      have hj2 : j < l.length := by rw [vals_len, List.length_take] at hj; omega
      obtain ⟨b2, o2, hA2, hc⟩ := hA j hj2
      rw [hA'] at hA2
      obtain ⟨rfl, rfl⟩ : b = b2 ∧ o' = o2 := by injection hA2 with hA2; injection hA2 with h1 h2; exact ⟨h1, h2⟩
      have hv' : (vals (l.take dn))[j]? = some (.int .u8 (l[j].toNat : Nat)) := by
        rw [vals_get _ j (by rw [vals_len] at hj; exact hj)]
        simp
      rw [hv'] at hv
      injection hv with hv
      subst hv
      have hadd : (⟨b, o', none⟩ : Addr).add j = ⟨b, o' + j, none⟩ := by unfold Addr.add; split <;> simp_all
      rw [hadd]; exact hc
    rw [hA']
    have hlen' : (vals (l.take dn)).length = min l.length dn := hlen
    have hr := run_copy_row (P := Try.prog) w 24 24 ty 5 g off dn dc ⟨b, o', none⟩ l.length c (cells l0) 5 (vals (l.take dn)) Try.underlying24 u8_size hg hlen hsrc (by rw [hlen', cells_size]; exact hfit)
      (fun u hu => by simp only [vals, List.mem_map] at hu; obtain ⟨b, _, rfl⟩ := hu; rfl)
    rw [hlen'] at hr
    refine ⟨_, hr, ?_, ⟨rfl, rfl, rfl, by simp [World.setRow], fun k _ hne => setRow_other w g k _ (fun e => hne (by rw [e]))⟩⟩
    have e : splice (vals l0) off (vals (l.take dn)) = vals (splice l0 off (l.take dn)) := by
      simp [splice, vals, List.map_take, List.map_drop]
    have h2 := setRow_heap w g (cells l0) ((cells l0).toList.take off ++ vals (l.take dn) ++ (cells l0).toList.drop (off + min l.length dn)).toArray 5 (0, 0) hg
    refine h2.trans ?_
    unfold cells
    rw [← e]
    simp [splice, hlen']
theorem wpListIn_copy_u8 {F : Fence} {n : Nat} {ops : Array Oper} {rest : List Oper} {o : Oper} {a : Act} {w : World} {Q : Exit → Act → World → Prop} (hgd : o.guard = none) (d s : Operand)
    (ho : o.op = .call { callee := .builtin .copy, args := #[d, s], argTypes := #[24, 24] })
    (D : Option Addr) (dn dc : Nat) (A : Option Addr) (l : List UInt8) (sn c : Nat) (hd : a.eval d = .slice D dn dc) (hs : a.eval s = .slice A sn c) (hsn : l.length = sn)
    (g off : Nat) (l0 : List UInt8) (hg : Row w g l0) (hD : 0 < dn → D = some ⟨g, off, none⟩) (hA : BytesAt w A l) (hfit : off + min l.length dn ≤ l0.length)
    (h : ∀ w', Row w' g (splice l0 off (l.take dn)) → w.grownBy w' (some g) → wpListIn F n Try.prog ops Q rest (a.put o.dst (goInt (min l.length dn : Nat))) w') : wpListIn F n Try.prog ops Q (o :: rest) a w := by
  subst hsn
  obtain ⟨w', hrun, r1, r2⟩ := run_copy_u8 w o.type D dn dc A l c g off l0 hg hD hA hfit
  refine wpListIn_plain hgd fun K hK' => ?_
  unfold Oper.wpIn
  refine ⟨?_, ?_⟩
  · simp [Oper.about, ho, resolve, Target.leads, Sem.run_pure]
  · rw [Oper.semAt_plain F _ _ (by rw [ho]; intro c hc'; cases hc')]
    simp [execOp, ho, resolve, invoke, builtin, hd, hs, hrun, Result.andThen]
    exact hK' _ _ (h w' r1 r2)

/-- all stripes' numbers -/
def ks (N : Nat) : List (Fin N) := List.ofFn fun i : Fin N => i
theorem ks_len (N : Nat) : (ks N).length = N := by unfold ks; simp
theorem ks_take (N k : Nat) (h : k < N) : (ks N).take (k + 1) = (ks N).take k ++ [⟨k, h⟩] := by
  have hp : k < (ks N).length := by rw [ks_len]; exact h
  rw [List.take_succ_eq_append_getElem hp]
  have e : (ks N)[k] = ⟨k, h⟩ := by simp [ks]
  rw [e]
theorem ks_mem (N : Nat) (k : Fin N) : k ∈ ks N := by unfold ks; rw [List.mem_ofFn]; exact ⟨k, rfl⟩
/-- what the iterator hands on of stripe k -/
def part (a o n c L k : Nat) : Value := .slice (some ⟨a, o + k * L, none⟩) (min (k * L + L) n - k * L) (c - k * L)
theorem six_of {W W' : World} {g : Nat} {p : P} (h : Six W g p) (e : W'.heap[g]? = W.heap[g]?) : Six W' g p :=
  have k : ∀ {i : Nat} {v : Value}, W.cell? ⟨g, i, none⟩ = some v → W'.cell? ⟨g, i, none⟩ = some v := fun {i} {v} h => by rw [← h]; exact World.cell?_of_block (w := W) e
  ⟨k h.c0, k h.c1, k h.c2, k h.c3, k h.c4, k h.c5⟩
abbrev Kept (g1 g2 : Nat) (W W' : World) : Prop := W'.heap[g1]? = W.heap[g1]? ∧ W'.heap[g2]? = W.heap[g2]?

set_option maxHeartbeats 1000000 in
theorem parts1_in (m l g1 g2 : Nat) (p : P) (A : Option Addr) (n c a o L N : Nat) (hm : 1 ≤ m) (hp : p.In) (hM : p.May) (hL : p.L = (L : Int)) (hN : N = p.stripes n) (hA : 0 < n → A = some ⟨a, o, none⟩) (hn : n ≤ 240) (hc : n ≤ c) (hc2 : c ≤ maxLen)
    (J Jx : List (Fin N) → World → Prop) (W : World) (hJ : AbidesFrom W.heap.size J)
    (hY : ∀ pre x W, J pre W → pre.length < N → YieldAt Fence.wide (m - 1) Try.prog l #[.int .i64 (x.1 : Nat), part a o n c L x.1] W fun e W' =>
      (e = .returned (.bool true) ∧ J (pre ++ [x]) W' ∧ Kept g1 g2 W W') ∨ (e = .returned (.bool false) ∧ Jx (pre ++ [x]) W'))
    (hs : Six W g1 p) (hb : W.cell? ⟨g2, 0, none⟩ = some (.slice A n c)) (h0 : J [] W) :
    CallsIn Fence.wide m Try.prog 59 #[.func (.yield l) #[] #[], .pointer (some ⟨g1, 0, none⟩), .pointer (some ⟨g2, 0, none⟩)] W fun e W' => (∃ v, e = .returned v) ∧
      ((∃ ys, ys = ks N ∧ J ys W') ∨ (∃ pre, pre <+: ks N ∧ Jx pre W')) := by
  have hT := fun V => Plan.stripes_any p (n : Int) V hp (by unfold In64; omega)
  have hL2 : 1 ≤ L ∧ L ≤ 256 := by unfold P.May at hM; omega
  have hend : ∀ k, k < N → k * L < n := fun k hk => by
    by_cases e : n = 0
    · subst e; rw [hN] at hk; unfold P.stripes at hk; rw [if_pos (by omega)] at hk; omega
    · rcases Nat.lt_or_ge (k * L) n with h | h
      · exact h
      · exfalso
        rw [hN] at hk
        unfold P.stripes at hk
        rw [if_neg (by omega), hL] at hk
        have := stripes_end (L := (L : Int)) (size := (n : Int)) (n := (k : Int)) (by omega) (by rw [← Int.natCast_mul]; omega)
        omega
  rw [show p.stripesA (n : Int) = (N : Int) from by unfold P.stripesA; rw [P.right_yes hM, hN]; rfl] at hT
  obtain ⟨pN, pT, pL, pW, pS, pR⟩ := p
  simp only at hL
  subst hL
  unfold P.val at hT
  have HT := Lib.hid hT; have HY := Lib.hid hY; have HE := Lib.hid hend; have HA := Lib.hid hA; have HS := Lib.hid hs; have HB := Lib.hid hb
  have hN2 : N ≤ 240 := by rw [hN]; exact stripes_le _ _ (by show (1 : Int) ≤ L; omega)
  clear hT hY hend hM hp hN hA hs hb
  unfold maxLen at hc2
  have c0 := HS.out.c0; have c1 := HS.out.c1; have c2 := HS.out.c2; have c3 := HS.out.c3; have c4 := HS.out.c4; have c5 := HS.out.c5
  have cb := HB.out
  refine callsIn_of_wp Try.func59 rfl trivial ?_ rfl
  simp only [Try.ntmps59, List.size_toArray, List.length_cons, List.length_nil, Nat.reduceAdd, Nat.reduceSub, Array.replicate_succ, Array.replicate_zero, List.push_toArray, List.append_toArray, List.nil_append, List.cons_append]
  gi_wp2_with fail
  refine ⟨trivial, ?_⟩
  refine (callsIn_wide.2 (HT.out _)).mono ?_
  rintro e w1 ⟨rfl, hb1⟩
  have hJ1 := hJ [] W w1 none h0 (grow_below hb1) (fun r e => by cases e)
  have hs1 := HS.out.below hb1
  have HS1 := Lib.hid hs1
  have HB1 := Lib.hid ((hb1.cell (p := ⟨g2, 0, none⟩) (cell_lt cb)).trans cb)
  clear c0 c1 c2 c3 c4 c5 cb hs1
  gi_wp2_with fail
  gi_loopw [10] (fun i wr => ∃ k : Nat, k ≤ N ∧ i = .int .i64 k ∧ J ((ks N).take k) wr ∧ Kept g1 g2 w1 wr)
    (fun i _ => N - (intOf i).toNat)
  case atStart => exact ⟨0, Nat.zero_le _, rfl, hJ1, rfl, rfl⟩
  case round =>
    obtain ⟨k, hk, rfl, hJ2, hk1, hk2⟩ := hrel
    rename World => w2
    have HJ2 := Lib.hid hJ2
    clear hJ2 hJ1
    by_cases hlt : k < N
    · have d2 := (six_of HS1.out hk1).c2
      have db : w2.cell? ⟨g2, 0, none⟩ = some (.slice A n c) := by rw [← HB1.out]; exact World.cell?_of_block (w := w1) hk2
      have hlen : ((ks N).take k).length = k := by rw [List.length_take, ks_len]; omega
      have hy := HY.out _ ⟨k, hlt⟩ w2 HJ2.out (by rw [hlen]; exact hlt)
      rw [← ks_take] at hy
      have hkl := HE.out k hlt
      have hA2 := HA.out (by omega)
      subst hA2
      obtain ⟨x, hx⟩ : ∃ x, x = k * L := ⟨_, rfl⟩
      have hpart : part a o n c L k = .slice (some ⟨a, o + x, none⟩) (min (x + L) n - x) (c - x) := by rw [hx]; rfl
      have i1 : ((k : Int) * (L : Int)) = (x : Int) := by rw [← Int.natCast_mul, ← hx]
      have i2 : IntKind.i64.wrap (x : Int) = (x : Int) := IntWalk.i64_in _ (by omega)
      rw [← hx] at hkl
      have i3 : IntKind.i64.wrap ((x : Int) + L) = (x : Int) + L := IntWalk.i64_in _ (by omega)
      obtain ⟨z, hz⟩ : ∃ z, z = min (x + L) n := ⟨_, rfl⟩
      have i4 : min ((x : Int) + L) (n : Int) = (z : Int) := by omega
      have hz1 : x < z := by omega
      have hz2 : z ≤ n := by omega
      have hcx : ¬ c = x := by omega
      rw [hpart, ← hz] at hy
      obtain ⟨fn, tmps, assign, body, hy, hR⟩ := hy
      have HR := Lib.hid hR
      clear hx hpart hz hR
      gi_wp2_with fail
      refine HR.out.mono ?_
      rintro e w3 (⟨rfl, hJ3, hk3⟩ | ⟨rfl, hJ3⟩)
      · have HJ3 := Lib.hid hJ3
        clear hJ3 hy
        gi_wp2
        go_roundw
        case rel => exact ⟨k + 1, by omega, by go_num, HJ3.out, hk3.1.trans hk1, hk3.2.trans hk2⟩
        case measure => simp [intOf] <;> omega
      · have HJ3 := Lib.hid hJ3
        clear hJ3 hy
        gi_wp2
        refine bodyPost_ret (results_none rfl _ _ _) rfl ?_
        exact ⟨⟨_, rfl⟩, .inr ⟨_, List.take_prefix _ _, HJ3.out⟩⟩
    · obtain rfl : k = N := by omega
      have hJ3 := HJ2.out
      rw [List.take_of_length_le (by rw [ks_len]; omega)] at hJ3
      have HJ3 := Lib.hid hJ3
      clear hJ3
      gi_wp2
      go_end0
      exact ⟨⟨_, rfl⟩, .inl ⟨_, rfl, HJ3.out⟩⟩

/-- parts: a function value over two new blocks, of the plan and of the blob's place -/
theorem parts_in (m : Nat) (p : P) (A : Option Addr) (n c : Nat) (w : World) :
    CallsIn Fence.wide m Try.prog 48 #[p.val, .slice A n c] w fun e w' => e = .returned (.func (.func 59) #[] #[.pointer (some ⟨w.heap.size, 0, none⟩), .pointer (some ⟨w.heap.size + 1, 0, none⟩)]) ∧
      w' = (w.alloc (.cells #[.int .i64 p.N, .int .i64 p.T, .int .i64 p.L, .int .i64 p.W, .int .i64 p.S, .int .i64 p.R] 23)).alloc (.cells #[.slice A n c] 24) := by
  unfold P.val
  refine callsIn_of_wp Try.func48 rfl trivial ?_ rfl
  simp only [Try.ntmps48, List.size_toArray, List.length_cons, List.length_nil, Nat.reduceAdd, Nat.reduceSub, Array.replicate_succ, Array.replicate_zero, List.push_toArray, List.append_toArray, List.nil_append, List.cons_append]
  gi_wp2
  go_ret
  exact ⟨rfl, rfl⟩

theorem parts_stops (m g1 g2 : Nat) (p : P) (A : Option Addr) (n c a o L N : Nat) (hm : 1 ≤ m) (hp : p.In) (hM : p.May) (hL : p.L = (L : Int)) (hN : N = p.stripes n) (hA : 0 < n → A = some ⟨a, o, none⟩) (hn : n ≤ 240) (hc : n ≤ c) (hc2 : c ≤ maxLen)
    (w : World) (hs : Six w g1 p) (hb : w.cell? ⟨g2, 0, none⟩ = some (.slice A n c)) :
    SeqStopsK Fence.wide m Try.prog 59 #[.pointer (some ⟨g1, 0, none⟩), .pointer (some ⟨g2, 0, none⟩)] (fun x : Fin N => #[.int .i64 (x.1 : Nat), part a o n c L x.1]) (Kept g1 g2) (fun ys => ys = ks N) (fun pre => pre <+: ks N) N w :=
  fun l J Jx W hW hJ _ hY h0 => parts1_in m l g1 g2 p A n c a o L N hm hp hM hL hN hA hn hc hc2 J Jx W hJ hY (hs.below hW) ((hW.cell (p := ⟨g2, 0, none⟩) (cell_lt hb)).trans hb) h0
end Go.Proofs.Ytmeenipcfmeopaa.Stripe
