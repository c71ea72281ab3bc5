/- merged: PileA, PileB, PileC, PileD, PileE -/
import Derived.Test.YtpljdjkmemojmaaMMP
import Derived.Test.YtpljdjkmemojmaaFlow
import Derived.Lib.MinMax
import Derived.Lib.SliceRun
import Derived.IntWalk
import Derived.Deep.QuietTactic
import Derived.BigQuiet
import Derived.Test.YtpljdjkmemojmaaStore
import Derived.Stop.Asserts
import Derived.Test.YtpljdjkmemojmaaPairs

/- package space: runs on a heap, as they lie in memory; first, Len, Less -/
set_option maxRecDepth 100000
namespace Go.Proofs.Ytpljdjkmemojmaa.Pile
open Go.RowKit HeapM

def agg (r : R) : Value := .agg #[.int .i64 (r.1 : Nat), .int .i64 (r.2 : Nat)]
def val (r : R) : Value := .iface 62 (agg r)
theorem first_any (r : R) (w : World) : Calls Try.prog 48 #[agg r] w fun e w' => e = .returned (.int .i64 (r.1 : Nat)) ∧ Below w.heap.size w w' := by
  have HB := Lib.hid (balloc w (.cells #[.int .i64 (r.1 : Nat), .int .i64 (r.2 : Nat)] 62))
  unfold agg
  go_enter Try.func48, Try.ntmps48
  go_wp2
  go_ret
  exact ⟨rfl, HB.out⟩
theorem method_first (n : Nat) (r : R) (w : World) : (method (n + 1) 62 (agg r) "sherd/space.first").run Try.prog w = .ok (48, agg r) w := by
  kernel_rfl
theorem len_any (A : Option Addr) (n c : Nat) (w : World) : Calls Try.prog 49 #[.slice A n c] w fun e w' => e = .returned (.int .i64 (n : Nat)) ∧ w' = w := by
  go_enter Try.func49, Try.ntmps49
  go_wp2
  go_ret
  exact ⟨rfl, rfl⟩
theorem less_any (A : Option Addr) (L : List R) (c i j : Nat) (w : World) (hA : CellsAt w A (L.map val)) (hi : i < L.length) (hj : j < L.length) :
    Calls Try.prog 50 #[.slice A L.length c, .int .i64 (i : Nat), .int .i64 (j : Nat)] w fun e w' => e = .returned (.bool (decide (key L i < key L j))) ∧ Below w.heap.size w w' := by
  obtain ⟨b, o, rfl, hci⟩ := hA i (by simpa using hi)
  obtain ⟨b', o', e, hcj⟩ := hA j (by simpa using hj)
  injection e with e; injection e with e1 e2; subst e1; subst e2
  rw [List.getElem_map] at hci hcj
  have ki : key L i = L[i].1 := by unfold key; rw [at_lt hi]
  have kj : key L j = L[j].1 := by unfold key; rw [at_lt hj]
  rw [ki, kj]
  have HI := Lib.hid hci; have HJ := Lib.hid hcj
  generalize L[i] = x at *
  generalize L[j] = y at *
  generalize hn : L.length = n at *
  clear hA hci hcj ki kj hn
  go_enter Try.func50, Try.ntmps50
  go_wp2_with fail
  refine Drawn.wp_region_flowL 12 [Drawn.SP.is (.slice (some ⟨b, o, none⟩) n c), Drawn.SP.is (.int .i64 (i : Nat)), Drawn.SP.is (.pointer (some ⟨b, o + i, none⟩)), Drawn.SP.is (val x), Drawn.SP.is (.int .i64 (x.1 : Nat)), Drawn.SP.is (.slice (some ⟨b, o, none⟩) n c), Drawn.SP.is (.int .i64 (j : Nat)), Drawn.SP.is (.pointer (some ⟨b, o + j, none⟩)), Drawn.SP.is (val y), Drawn.SP.is (.int .i64 (y.1 : Nat)), Drawn.SP.is (.bool (decide (x.1 < y.1))), Drawn.SP.is (.bool (decide (x.1 < y.1)))] (by kernel_rfl) (by kernel_rfl) ?_ ?_
  · intro i hi a w1 hb hev hdep
    rcases (show i = 0 ∨ i = 1 ∨ i = 2 ∨ i = 3 ∨ i = 4 ∨ i = 5 ∨ i = 6 ∨ i = 7 ∨ i = 8 ∨ i = 9 ∨ i = 10 ∨ i = 11 by omega) with rfl | rfl | rfl | rfl | rfl | rfl | rfl | rfl | rfl | rfl | rfl | rfl
    · have e0 : a.tmps[0]?.getD undef = .slice (some ⟨b, o, none⟩) n c := hev 0 rfl
      refine Drawn.wpOp_flow 7 rfl rfl rfl ?_
      clear hev hdep hb
      go_simp
      exact ⟨_, rfl, rfl, Below.refl _ _⟩
    · have e1 : a.tmps[1]?.getD undef = .int .i64 (i : Nat) := hev 1 rfl
      refine Drawn.wpOp_flow 8 rfl rfl rfl ?_
      clear hev hdep hb
      go_simp
      exact ⟨_, rfl, rfl, Below.refl _ _⟩
    · have d0 : a.tmps[7]?.getD undef = .slice (some ⟨b, o, none⟩) n c := hdep 0 rfl
      have d1 : a.tmps[8]?.getD undef = .int .i64 (i : Nat) := hdep 1 rfl
      refine Drawn.wpOp_flow 9 rfl rfl rfl ?_
      clear hev hdep hb
      go_simp
      exact ⟨_, rfl, rfl, Below.refl _ _⟩
    · have d2 : a.tmps[9]?.getD undef = .pointer (some ⟨b, o + i, none⟩) := hdep 2 rfl
      refine Drawn.wpOp_flow 10 rfl rfl rfl ?_
      have c1 : w1.cell? ⟨b, o + i, none⟩ = some (val x) := (hb.cell (p := ⟨b, o + i, none⟩) (cell_lt HI.out)).trans HI.out
      have c2 : w1.cell? ⟨b, o + j, none⟩ = some (val y) := (hb.cell (p := ⟨b, o + j, none⟩) (cell_lt HJ.out)).trans HJ.out
      clear hev hdep hb
      go_simp
      exact ⟨_, rfl, rfl, Below.refl _ _⟩
    · have d3 : a.tmps[10]?.getD undef = val x := hdep 3 rfl
      refine Drawn.wpOp_flow 11 rfl rfl rfl ?_
      clear hev hdep
      unfold val at *
      have hm := fun n => method_first n x w1
      go_simp
      refine (first_any x w1).mono ?_
      rintro e w2 ⟨rfl, hb2⟩
      exact ⟨_, rfl, rfl, hb2⟩
    · have e0 : a.tmps[0]?.getD undef = .slice (some ⟨b, o, none⟩) n c := hev 0 rfl
      refine Drawn.wpOp_flow 12 rfl rfl rfl ?_
      clear hev hdep hb
      go_simp
      exact ⟨_, rfl, rfl, Below.refl _ _⟩
    · have e2 : a.tmps[2]?.getD undef = .int .i64 (j : Nat) := hev 2 rfl
      refine Drawn.wpOp_flow 13 rfl rfl rfl ?_
      clear hev hdep hb
      go_simp
      exact ⟨_, rfl, rfl, Below.refl _ _⟩
    · have d5 : a.tmps[12]?.getD undef = .slice (some ⟨b, o, none⟩) n c := hdep 5 rfl
      have d6 : a.tmps[13]?.getD undef = .int .i64 (j : Nat) := hdep 6 rfl
      refine Drawn.wpOp_flow 14 rfl rfl rfl ?_
      clear hev hdep hb
      go_simp
      exact ⟨_, rfl, rfl, Below.refl _ _⟩
    · have d7 : a.tmps[14]?.getD undef = .pointer (some ⟨b, o + j, none⟩) := hdep 7 rfl
      refine Drawn.wpOp_flow 15 rfl rfl rfl ?_
      have c1 : w1.cell? ⟨b, o + i, none⟩ = some (val x) := (hb.cell (p := ⟨b, o + i, none⟩) (cell_lt HI.out)).trans HI.out
      have c2 : w1.cell? ⟨b, o + j, none⟩ = some (val y) := (hb.cell (p := ⟨b, o + j, none⟩) (cell_lt HJ.out)).trans HJ.out
      clear hev hdep hb
      go_simp
      exact ⟨_, rfl, rfl, Below.refl _ _⟩
    · have d8 : a.tmps[15]?.getD undef = val y := hdep 8 rfl
      refine Drawn.wpOp_flow 16 rfl rfl rfl ?_
      clear hev hdep
      unfold val at *
      have hm := fun n => method_first n y w1
      go_simp
      refine (first_any y w1).mono ?_
      rintro e w2 ⟨rfl, hb2⟩
      exact ⟨_, rfl, rfl, hb2⟩
    · have d4 : a.tmps[11]?.getD undef = .int .i64 (x.1 : Nat) := hdep 4 rfl
      have d9 : a.tmps[16]?.getD undef = .int .i64 (y.1 : Nat) := hdep 9 rfl
      refine Drawn.wpOp_flow 17 rfl rfl rfl ?_
      clear hev hdep hb
      go_simp
      exact ⟨_, rfl, rfl, Below.refl _ _⟩
    · have d10 : a.tmps[17]?.getD undef = .bool (decide (x.1 < y.1)) := hdep 10 rfl
      refine Drawn.wpOp_flow 6 rfl rfl rfl ?_
      clear hev hdep hb
      go_simp
      exact ⟨_, rfl, rfl, Below.refl _ _⟩
  · intro xq w1 hb hxq
    have vq0 : xq 0 = .slice (some ⟨b, o, none⟩) n c := hxq 0 (by omega)
    have vq1 : xq 1 = .int .i64 (i : Nat) := hxq 1 (by omega)
    have vq2 : xq 2 = .pointer (some ⟨b, o + i, none⟩) := hxq 2 (by omega)
    have vq3 : xq 3 = val x := hxq 3 (by omega)
    have vq4 : xq 4 = .int .i64 (x.1 : Nat) := hxq 4 (by omega)
    have vq5 : xq 5 = .slice (some ⟨b, o, none⟩) n c := hxq 5 (by omega)
    have vq6 : xq 6 = .int .i64 (j : Nat) := hxq 6 (by omega)
    have vq7 : xq 7 = .pointer (some ⟨b, o + j, none⟩) := hxq 7 (by omega)
    have vq8 : xq 8 = val y := hxq 8 (by omega)
    have vq9 : xq 9 = .int .i64 (y.1 : Nat) := hxq 9 (by omega)
    have vq10 : xq 10 = .bool (decide (x.1 < y.1)) := hxq 10 (by omega)
    have vq11 : xq 11 = .bool (decide (x.1 < y.1)) := hxq 11 (by omega)
    show Exit.then _ _ Exit.normal (Drawn.acts _ [(6, some (xq 11)), (17, some (xq 10)), (16, some (xq 9)), (15, some (xq 8)), (14, some (xq 7)), (13, some (xq 6)), (12, some (xq 5)), (11, some (xq 4)), (10, some (xq 3)), (9, some (xq 2)), (8, some (xq 1)), (7, some (xq 0))]) _
    rw [vq0, vq1, vq2, vq3, vq4, vq5, vq6, vq7, vq8, vq9, vq10, vq11]
    clear hxq vq0 vq1 vq2 vq3 vq4 vq5 vq6 vq7 vq8 vq9 vq10 vq11
    clear xq
    simp only [Drawn.acts]
    go_simp
    have HB := Lib.hid hb
    clear hb
    go_at_K
    go_wp2
    go_ret
    exact ⟨rfl, HB.out⟩
end Go.Proofs.Ytpljdjkmemojmaa.Pile

/- package space: the heap's own list: Swap, Pop, Push -/
set_option maxRecDepth 100000
namespace Go.Proofs.Ytpljdjkmemojmaa.Pile
open Go.RowKit HeapM

/-- runs in a row that may be written, from block base on -/
def OwnP (w : World) (base : Nat) (v : Value) (L : List R) : Prop := w.ownsRow base 55 1 v L.length (L.map val)
/-- a pile in block p -/
structure At (w : World) (p base : Nat) (v : Value) (L : List R) : Prop where
  c0 : w.cell? ⟨p, 0, none⟩ = some v
  f0 : w.frozen? ⟨p, 0, none⟩ = false
  own : OwnP w base v L
  ne : v.ownBlock ≠ some p
  low : base ≤ p
  few : L.length ≤ 1048576
section
variable {w w' : World} {p base : Nat} {v : Value} {L : List R}
theorem OwnP.keep {F : Nat → Prop} (h : OwnP w base v L) (q : Keeps F w w') (hF : ∀ k, v.ownBlock = some k → ¬ F k) : OwnP w' base v L := ownV_keep h q hF
theorem OwnP.form (h : OwnP w base v L) (h0 : 0 < L.length) : ∃ g cap, v = .slice (some ⟨g, 0, none⟩) L.length cap ∧ base ≤ g ∧ g < w.heap.size ∧ L.length ≤ cap ∧ cap ≤ maxLen ∧ CellsAt w (some ⟨g, 0, none⟩) (L.map val) ∧ ∀ i, w.frozen? ⟨g, i, none⟩ = false := by
  rcases h.2 with ⟨_, h2⟩ | ⟨g, cap, cur, rfl, hg, h3, h4, h5, h6, h7⟩
  · omega
  · refine ⟨g, cap, rfl, hg, (Array.getElem?_eq_some_iff.1 h3).1, h4, h5, fun i hi => ⟨g, 0, rfl, ?_⟩, fun i => ?_⟩
    · have hi' : i < L.length := by simpa using hi
      have e7 : (L.map val)[i]? = cur.toList[i]? := by rw [← h7, Nat.mul_one, List.getElem?_take, if_pos hi']
      rw [Nat.zero_add, cell_of_row w g i cur _ (0, 0) h3, ← List.getElem?_eq_getElem hi, e7]
      simp
    · simp [World.frozen?, h3]
theorem OwnP.set {g cap n : Nat} (h : OwnP w base (.slice (some ⟨g, 0, none⟩) n cap) L) (i : Nat) (x : R) : OwnP (w.setCell ⟨g, i, none⟩ (val x)) base (.slice (some ⟨g, 0, none⟩) n cap) (L.set i x) := by
  rcases h.2 with ⟨e, _⟩ | ⟨g', cap', cur, e, hg, h3, h4, h5, h6, h7⟩
  · cases e
  · injection e with e1 e2 e3
    injection e1 with e1; injection e1 with e1; subst e1; subst e3
    have e8 : n = L.length := e2
    refine ⟨?_, .inr ⟨g, cap, cur.setIfInBounds i (val x), ?_, hg, heap_setCell_same w g i cur _ (val x) h3, ?_, h5, ?_, ?_⟩⟩
    · simp
    · rw [List.length_set, e8]
    · rw [List.length_set]; exact h4
    · rw [Array.size_setIfInBounds]; exact h6
    · rw [List.length_set, Array.toList_setIfInBounds, List.take_set, h7, List.map_set]
theorem OwnP.len {g cap n : Nat} (h : OwnP w base (.slice (some ⟨g, 0, none⟩) n cap) L) : n = L.length := by
  rcases h.2 with ⟨e, _⟩ | ⟨g', cap', cur, e, _⟩
  · cases e
  · injection e with e1 e2 e3
/-- the first ones of them -/
theorem OwnP.take {g cap : Nat} (h : OwnP w base (.slice (some ⟨g, 0, none⟩) L.length cap) L) (k : Nat) (hk : k ≤ L.length) : OwnP w base (.slice (some ⟨g, 0, none⟩) k cap) (L.take k) := by
  have hl : (L.take k).length = k := by rw [List.length_take]; omega
  rcases h.2 with ⟨e, _⟩ | ⟨g', cap', cur, e, hg, h3, h4, h5, h6, h7⟩
  · cases e
  · injection e with e1 e2 e3
    injection e1 with e1; injection e1 with e1; subst e1; subst e3
    refine ⟨by simp, .inr ⟨g, cap, cur, by rw [hl], hg, h3, by omega, h5, h6, ?_⟩⟩
    rw [hl, Nat.mul_one, List.map_take, ← h7, Nat.mul_one, List.take_take, Nat.min_eq_left hk]
end
theorem swap_any (g c base n i j : Nat) (L : List R) (w : World) (h : OwnP w base (.slice (some ⟨g, 0, none⟩) n c) L) (hi : i < L.length) (hj : j < L.length) :
    Calls Try.prog 53 #[.slice (some ⟨g, 0, none⟩) n c, .int .i64 (i : Nat), .int .i64 (j : Nat)] w fun e w' => e = .returned (.tuple #[]) ∧ OwnP w' base (.slice (some ⟨g, 0, none⟩) n c) (swap L i j) ∧ Keeps (fun k => k = g) w w' := by
  obtain ⟨g', cap', e, _, _, _, _, hA, hf⟩ := h.form (by omega)
  have en := h.len
  injection e with e1 e2 e3
  injection e1 with e1; injection e1 with e1; subst e1; subst e3
  obtain ⟨b, o, e, hci⟩ := hA i (by simpa using hi)
  injection e with e; injection e with e1 e2; subst e1; subst e2
  obtain ⟨b, o, e, hcj⟩ := hA j (by simpa using hj)
  injection e with e; injection e with e1 e2; subst e1; subst e2
  rw [List.getElem_map, ← at_lt hi, Nat.zero_add] at hci
  rw [List.getElem_map, ← at_lt hj, Nat.zero_add] at hcj
  have HR := Lib.hid ((h.set i (at_ L j)).set j (at_ L i))
  have HK := Lib.hid ((Keeps.set (fun k => k = g) w ⟨g, i, none⟩ (val (at_ L j)) rfl).trans (Keeps.set _ _ ⟨g, j, none⟩ (val (at_ L i)) rfl))
  have hZ : ∃ Z, (w.setCell ⟨g, i, none⟩ (val (at_ L j))).cell? ⟨g, j, none⟩ = some Z := ⟨_, cell_store hcj⟩
  have fi := hf i; have fj := hf j
  rw [show (L.set i (at_ L j)).set j (at_ L i) = swap L i j from rfl] at HR
  generalize swap L i j = L2 at *
  rw [← en] at hi hj
  unfold val at hci hcj hZ HR HK
  generalize agg (at_ L i) = X at *
  generalize agg (at_ L j) = Y at *
  obtain ⟨Z, hZ⟩ := hZ
  clear h hA hf en
  go_enter Try.func53, Try.ntmps53
  go_wp2
  go_region
  go_end0
  exact ⟨rfl, HR.out, HK.out.trans (.draw _ _ 1)⟩
theorem pop_any (p base g c n : Nat) (L : List R) (w : World) (h : At w p base (.slice (some ⟨g, 0, none⟩) L.length c) L) (hn : L.length = n + 1) :
    Calls Try.prog 51 #[.pointer (some ⟨p, 0, none⟩)] w fun e w' => e = .returned (val (at_ L n)) ∧ At w' p base (.slice (some ⟨g, 0, none⟩) n c) (L.take n) ∧ Keeps (fun k => k = p) w w' := by
  obtain ⟨g', cap', e, _, _, hlc, hcm, hA, _⟩ := h.own.form (by omega)
  injection e with e1 e2 e3
  injection e1 with e1; injection e1 with e1; subst e1; subst e3
  obtain ⟨b, o, e, hcj⟩ := hA n (by rw [List.length_map]; omega)
  injection e with e; injection e with e1 e2; subst e1; subst e2
  rw [List.getElem_map, ← at_lt (by omega), Nat.zero_add] at hcj
  have hl : (L.take n).length = n := by rw [List.length_take]; omega
  have hk : Keeps (fun k => k = p) w (w.setCell ⟨p, 0, none⟩ (.slice (some ⟨g, 0, none⟩) n c)) := .set _ _ _ _ rfl
  have hno : g ≠ p := fun e => h.ne (by rw [e]; rfl)
  have HR : Hid (At (w.setCell ⟨p, 0, none⟩ (.slice (some ⟨g, 0, none⟩) n c)) p base (.slice (some ⟨g, 0, none⟩) n c) (L.take n)) := Lib.hid ⟨by rw [cell_store h.c0]; rfl, by rw [World.frozen?_setCell]; exact h.f0,
    (h.own.take n (by omega)).keep hk (fun k e => by simp [Value.ownBlock] at e; subst e; exact hno), fun e => h.ne (by rw [← e]; rfl), h.low, by rw [hl]; have := h.few; omega⟩
  have HK := Lib.hid hk
  have c0 := h.c0; have f0 := h.f0
  have hw : IntKind.i64.wrap ((n : Int) + 1 - 1) = (n : Int) := by rw [show (n : Int) + 1 - 1 = (n : Int) from by omega]; exact IntWalk.i64_in _ (by have := h.few; omega)
  have hw2 : IntKind.i64.wrap (n : Int) = (n : Int) := IntWalk.i64_in _ (by have := h.few; omega)
  rw [hn] at c0
  have hc1 : n ≤ c := by omega
  have hc2 : n < n + 1 := by omega
  unfold val at *
  generalize agg (at_ L n) = X at *
  generalize L.take n = L2 at *
  clear h hk hA hl hlc hn
  go_enter Try.func51, Try.ntmps51
  go_wp2
  go_ret
  exact ⟨rfl, HR.out, HK.out⟩
theorem lying_info : (Try.prog.info? 55).map (fun i => (i.zero, i.size, i.bytes)) = some (some .nilIface, 1, 16) := by kernel_rfl
theorem lying_info' : ∃ i, Try.prog.info? 55 = some i ∧ i.zero = some .nilIface ∧ i.size = 1 ∧ i.bytes = 16 := by
  obtain ⟨i0, h, a, b, c⟩ := info_parts lying_info
  exact ⟨i0, h, a, b, c⟩
theorem is_lying (X : Value) (w : World) : (Instr.typeAssert (.iface 62 X) 20 55 true).run Try.prog w = .ok (.tuple #[.iface 62 X, .bool true]) w :=
  run_typeAssert_hasB Try.underlying55 (by kernel_rfl) X _ w
theorem push_any (p base : Nat) (v : Value) (L : List R) (r : R) (w : World) (h : At w p base v L) (hn : L.length < 1048576) (hb : base ≤ w.heap.size) :
    Calls Try.prog 52 #[.pointer (some ⟨p, 0, none⟩), val r] w fun e w' => e = .returned (.tuple #[]) ∧ (∃ v', At w' p base v' (L ++ [r])) ∧ Below base w w' := by
  have hT := is_lying
  have c0 := h.c0; have f0 := h.f0
  have HH := Lib.hid h
  unfold val
  generalize hX : agg r = X
  have hp := cell_lt c0
  have hvm : (L.map val ++ [Value.iface 62 X]) = (L ++ [r]).map val := by rw [List.map_append, ← hX]; rfl
  have HB := Lib.hid (balloc w (.cells #[.iface 62 X] 55))
  have HL := Lib.hid (CellsAt.lit w #[.iface 62 X] 55)
  obtain ⟨i0, hi, hz, hs1, hb1⟩ := lying_info'
  have HI := Lib.hid (And.intro hi (And.intro hz (And.intro hs1 hb1)))
  have hone : ∀ u ∈ [Value.iface 62 X], u.oneCell' = true := by intro u hu; simp at hu; subst hu; rfl
  have HOB := Lib.hid (ownV_below h.own HB.out)
  clear h hi hz hs1 hb1
  go_enter Try.func52, Try.ntmps52
  go_wp2_with (at_builtin; (refine wpList_append_cells Try.underlying65 HI.out.1 HI.out.2.1 HI.out.2.2.1 HI.out.2.2.2 rfl rfl _ _ rfl base v L.length (L.map val) rfl HOB.out (some ⟨w.heap.size, 0, none⟩) 1 1 [.iface 62 X] rfl rfl HL.out hone (by omega) (by omega) (by simp; omega) ?_; intro v' w1 ha; obtain ⟨A, cc, hv', _, _, _, _, _⟩ := ownV_cells ha.own; subst hv'; have HA := Lib.hid ha; have hk1 : Keeps (fun k => v.ownBlock = some k) w w1 := (Keeps.of_below _ HB.out).own ha.grow (fun k e => .inl e); have c1 := hk1.cell c0 HH.out.ne; have f1 := hk1.frozen c0 HH.out.ne f0; have HK := Lib.hid hk1; clear ha hk1))
  go_end0
  have hk2 : Keeps (fun k => k = p) w1 (w1.setCell ⟨p, 0, none⟩ (.slice A (L.length + 1) cc)) := .set _ _ _ _ rfl
  have hpl : (Value.slice A (L.length + 1) cc).ownBlock ≠ some p := fun e => by
    rcases HA.out.place with h | h
    · exact HH.out.ne (by rw [← h, e])
    · rw [e] at h; injection h with h
      rw [show (w.alloc (.cells #[.iface 62 X] 55)).heap.size = w.heap.size + 1 by simp] at h
      omega
  have hw := HA.out.own
  rw [hvm] at hw
  have hl : (L ++ [r]).length = L.length + 1 := by simp
  refine ⟨rfl, ⟨_, ?_, ?_, ?_, hpl, HH.out.low, by rw [hl]; omega⟩, ?_⟩
  · rw [cell_store c1]; rfl
  · rw [World.frozen?_setCell]; exact f1
  · unfold OwnP; rw [hl]; exact ownV_keep hw hk2 fun k e hk => hpl (by rw [e, hk])
  · have hb0 : Below base w w := ⟨rfl, rfl, rfl, Nat.le_refl _, fun _ _ => rfl⟩
    have h1 := below_keeps hb0 HK.out (fun k hk => (World.ownsRow.lt HH.out.own k hk).1) hb
    exact below_keeps h1 hk2 (fun k hk => by rw [hk]; exact HH.out.low) (by have := HK.out.size; omega)
end Go.Proofs.Ytpljdjkmemojmaa.Pile

/- container/heap over the pile: up, Push, down, Pop -/
set_option maxRecDepth 100000
namespace Go.Proofs.Ytpljdjkmemojmaa.Pile
open Go.RowKit HeapM

theorem method_push (n p : Nat) (w : World) : (method (n + 1) 63 (.pointer (some ⟨p, 0, none⟩)) "Push").run Try.prog w = .ok (52, .pointer (some ⟨p, 0, none⟩)) w := by
  kernel_rfl
theorem method_pop (n p : Nat) (w : World) : (method (n + 1) 63 (.pointer (some ⟨p, 0, none⟩)) "Pop").run Try.prog w = .ok (51, .pointer (some ⟨p, 0, none⟩)) w := by
  kernel_rfl
theorem load_pile (p : Nat) (A : Option Addr) (k c : Nat) (w : World) (h : w.cell? ⟨p, 0, none⟩ = some (.slice A k c)) : (loadVar 65 ⟨p, 0, none⟩).run Try.prog w = .ok (.slice A k c) w := by
  go_simp
theorem method_len (n p : Nat) (A : Option Addr) (k c : Nat) (w : World) (h : w.cell? ⟨p, 0, none⟩ = some (.slice A k c)) : (method (n + 1) 63 (.pointer (some ⟨p, 0, none⟩)) "Len").run Try.prog w = .ok (49, .slice A k c) w := by
  have e : (method (n + 1) 63 (.pointer (some ⟨p, 0, none⟩)) "Len").run Try.prog w = (Prod.mk 49 <$> loadVar 65 ⟨p, 0, none⟩ : Sem (FuncId × Value)).run Try.prog w := by
    kernel_rfl
  rw [e]
  simp [load_pile p A k c w h]
theorem method_less (n p : Nat) (A : Option Addr) (k c : Nat) (w : World) (h : w.cell? ⟨p, 0, none⟩ = some (.slice A k c)) : (method (n + 1) 63 (.pointer (some ⟨p, 0, none⟩)) "Less").run Try.prog w = .ok (50, .slice A k c) w := by
  have e : (method (n + 1) 63 (.pointer (some ⟨p, 0, none⟩)) "Less").run Try.prog w = (Prod.mk 50 <$> loadVar 65 ⟨p, 0, none⟩ : Sem (FuncId × Value)).run Try.prog w := by
    kernel_rfl
  rw [e]
  simp [load_pile p A k c w h]
theorem method_swap (n p : Nat) (A : Option Addr) (k c : Nat) (w : World) (h : w.cell? ⟨p, 0, none⟩ = some (.slice A k c)) : (method (n + 1) 63 (.pointer (some ⟨p, 0, none⟩)) "Swap").run Try.prog w = .ok (53, .slice A k c) w := by
  have e : (method (n + 1) 63 (.pointer (some ⟨p, 0, none⟩)) "Swap").run Try.prog w = (Prod.mk 53 <$> loadVar 65 ⟨p, 0, none⟩ : Sem (FuncId × Value)).run Try.prog w := by
    kernel_rfl
  rw [e]
  simp [load_pile p A k c w h]
/-- what is on a heap, handed on -/
def box (p : Nat) : Value := .iface 63 (.pointer (some ⟨p, 0, none⟩))
section
variable {w w' : World} {p base : Nat} {v : Value} {L : List R}
theorem At.below (h : At w p base v L) (hb : Below w.heap.size w w') : At w' p base v L :=
  ⟨(hb.cell (p := ⟨p, 0, none⟩) (cell_lt h.c0)).trans h.c0, (Keeps.of_below (fun _ => False) hb).frozen h.c0 id h.f0, h.own.keep (F := fun _ => False) (.of_below _ hb) (fun _ _ => id), h.ne, h.low, h.few⟩
theorem At.form (h : At w p base v L) : ∃ A c, v = .slice A L.length c ∧ CellsAt w A (L.map val) := by
  obtain ⟨A, c, h1, _, _, _, h5, _⟩ := ownV_cells h.own
  exact ⟨A, c, h1, h5⟩
end
/-- laid at the end, above nothing that it has to lie above: it stays there -/
theorem up_any (p base n : Nat) (v : Value) (L : List R) (w : World) (h : At w p base v L) (hs : Sorted L) (hn : L.length = n + 1) :
    Calls Try.prog 31 #[box p, .int .i64 (n : Nat)] w fun e w' => e = .returned (.tuple #[]) ∧ Below w.heap.size w w' := by
  have hfew := h.few
  obtain ⟨A, c, rfl, hA⟩ := h.form
  have hm := fun k => method_less k p A L.length c w h.c0
  unfold box
  by_cases h0 : n = 0
  · subst h0
    clear h hA hm
    go_enter Try.func31, Try.ntmps31
    go_wp2
    go_loopw [1] (fun i wr => i = .int .i64 (0 : Nat) ∧ wr = w) (fun _ _ => 1)
    case atStart => exact ⟨rfl, rfl⟩
    case round =>
      obtain ⟨rfl, rfl⟩ := hrel
      go_wp2
      go_end0
      exact ⟨rfl, Below.refl _ _⟩
  · have hlt : (n - 1) / 2 < n := by omega
    obtain ⟨m, hmn⟩ : ∃ m : Nat, (n : Int) - 1 = (m : Int) ∧ m = n - 1 := ⟨n - 1, by omega, rfl⟩
    have e0 := hmn.1
    have e1' : IntKind.i64.wrap (m : Int) = (m : Int) := IntWalk.i64_in _ (by omega)
    have e2 : ((m : Nat) : Int).tdiv 2 = ((m / 2 : Nat) : Int) := rfl
    have e3 : IntKind.i64.wrap ((m / 2 : Nat) : Int) = ((m / 2 : Nat) : Int) := IntWalk.i64_in _ (by omega)
    have hC := less_any A L c n (m / 2) w hA (by omega) (by omega)
    have hk : decide (key L n < key L (m / 2)) = false := by
      have := hs.heap n (by omega) (by omega)
      rw [← hmn.2] at this
      exact decide_eq_false (by omega)
    rw [hk] at hC
    have hne : (((m / 2 : Nat) : Int) == (n : Int)) = false := by
      rw [beq_eq_false_iff_ne]; omega
    have hne2 : ¬ m / 2 = n := by omega
    generalize m / 2 = q at *
    generalize L.length = l at *
    have HC := Lib.hid hC
    clear h hA hs hk hC hn hmn h0 hlt hfew
    go_enter Try.func31, Try.ntmps31
    go_wp2
    go_loopw [1] (fun i wr => i = .int .i64 (n : Nat) ∧ wr = w) (fun _ _ => 1)
    case atStart => exact ⟨rfl, rfl⟩
    case round =>
      obtain ⟨rfl, rfl⟩ := hrel
      go_wp2_with fail
      refine HC.out.mono ?_
      rintro e w1 ⟨rfl, hb⟩
      have HB := Lib.hid hb
      clear hb HC hm
      go_wp2
      go_end0
      exact ⟨rfl, HB.out⟩
/-- laid on the heap behind all that lies there, in order -/
theorem hpush_any (p base : Nat) (v : Value) (L : List R) (r : R) (w : World) (h : At w p base v L) (hs : Sorted (L ++ [r])) (hn : L.length < 1048576) (hb : base ≤ w.heap.size) :
    Calls Try.prog 27 #[box p, val r] w fun e w' => e = .returned (.tuple #[]) ∧ (∃ v', At w' p base v' (L ++ [r])) ∧ Below base w w' := by
  have hm := fun k => method_push k p
  have hC := push_any p base v L r w h hn hb
  have HN : Hid (∀ V v', At V p base v' (L ++ [r]) → ∃ A c, v' = .slice A (L.length + 1) c ∧ V.cell? ⟨p, 0, none⟩ = some (.slice A (L.length + 1) c)) := Lib.hid fun V v' h => by
    obtain ⟨A, c, e, _⟩ := h.form
    have hc := h.c0
    rw [List.length_append, List.length_singleton] at e
    subst e
    exact ⟨A, c, rfl, hc⟩
  have HU := Lib.hid (fun V v' h => up_any p base L.length v' (L ++ [r]) V h hs (by simp))
  have hw : IntKind.i64.wrap ((L.length : Int) + 1 - 1) = (L.length : Int) := by rw [show (L.length : Int) + 1 - 1 = (L.length : Int) from by omega]; exact IntWalk.i64_in _ (by omega)
  have hw2 : IntKind.i64.wrap (L.length : Int) = (L.length : Int) := IntWalk.i64_in _ (by omega)
  have HLOW := Lib.hid (And.intro h.low hb)
  unfold box val at *
  generalize agg r = X at *
  have HC := Lib.hid hC
  generalize L ++ [r] = L2 at *
  generalize L.length = l at *
  clear h hs hC hb
  go_enter Try.func27, Try.ntmps27
  go_wp2_with fail
  refine HC.out.mono ?_
  rintro e w1 ⟨rfl, ⟨v', h'⟩, hb1⟩
  obtain ⟨A, c, rfl, c0⟩ := HN.out w1 v' h'
  have hm2 := fun k => method_len k p A (l + 1) c w1 c0
  have HB := Lib.hid hb1; have HH := Lib.hid h'
  clear hb1 h' hm HC HN
  go_wp2_with fail
  refine (len_any A (l + 1) c w1).mono ?_
  rintro e w2 ⟨rfl, rfl⟩
  clear hm2 c0
  go_wp2_with fail
  refine (HU.out _ _ HH.out).mono ?_
  rintro e w3 ⟨rfl, hb3⟩
  have h3 := HH.out.below hb3
  have hb4 := HB.out.trans (hb3.mono (Nat.le_trans HLOW.out.2 HB.out.size))
  clear HU
  go_wp2
  go_end0
  exact ⟨rfl, ⟨_, h3⟩, hb4⟩
theorem At.swapped {w w' : World} {p base g n c : Nat} {L L2 : List R} (h : At w p base (.slice (some ⟨g, 0, none⟩) n c) L) (ho : OwnP w' base (.slice (some ⟨g, 0, none⟩) n c) L2) (hl : L2.length = L.length) (q : Keeps (fun k => k = g) w w') : At w' p base (.slice (some ⟨g, 0, none⟩) n c) L2 := by
  have hn : ¬ p = g := fun e => h.ne (by rw [e]; rfl)
  exact ⟨q.cell h.c0 hn, q.frozen h.c0 hn h.f0, ho, h.ne, h.low, by rw [hl]; exact h.few⟩
theorem At.cells {w : World} {p base g n c : Nat} {L : List R} (h : At w p base (.slice (some ⟨g, 0, none⟩) n c) L) : CellsAt w (some ⟨g, 0, none⟩) (L.map val) ∧ n = L.length ∧ base ≤ g := by
  obtain ⟨A, c', h1, h2⟩ := h.form
  injection h1 with h1 _ _
  subst h1
  refine ⟨h2, h.own.len, ?_⟩
  exact (World.ownsRow.lt h.own g rfl).1
/-- what down has left so far: but for what lies at k -/
structure Going (w0 w : World) (p base g l c n k : Nat) (L L' : List R) : Prop where
  at_ : At w p base (.slice (some ⟨g, 0, none⟩) l c) L'
  perm : L'.Perm L
  rest : ∀ i, n ≤ i → HeapM.at_ L' i = HeapM.at_ L i
  but : But L' n k
  k : k ≤ 1048576
  below : Below base w0 w
theorem Going.more {w0 w w' : World} {p base g l c n k : Nat} {L L' : List R} (h : Going w0 w p base g l c n k L L') (hb : Below w.heap.size w w') (hB : base ≤ w0.heap.size) : Going w0 w' p base g l c n k L L' :=
  ⟨h.at_.below hb, h.perm, h.rest, h.but, h.k, h.below.trans (hb.mono (Nat.le_trans hB h.below.size))⟩
theorem Going.len {w0 w : World} {p base g l c n k : Nat} {L L' : List R} (h : Going w0 w p base g l c n k L L') : L'.length = l ∧ n ≤ l := ⟨h.at_.cells.2.1.symm, by rw [h.at_.cells.2.1]; exact h.but.le⟩
theorem Going.done {w0 w : World} {p base g l c n k : Nat} {L L' : List R} (h : Going w0 w p base g l c n k L L') (hc : ∀ c, 0 < c → c < n → (c - 1) / 2 = k → key L' k ≤ key L' c) : Downed L n L' := ⟨h.perm, h.rest, h.but.done hc⟩
theorem Going.step {w0 w w' : World} {p base g l c n k j : Nat} {L L' : List R} (h : Going w0 w p base g l c n k L L') (hj : j < n) (hkj : j = 2 * k + 1 ∨ j = 2 * k + 2) (hlt : key L' j < key L' k) (hc : ∀ c, 0 < c → c < n → (c - 1) / 2 = k → key L' j ≤ key L' c)
    (ho : OwnP w' base (.slice (some ⟨g, 0, none⟩) l c) (swap L' k j)) (q : Keeps (fun k => k = g) w w') (hB : base ≤ w0.heap.size) : Going w0 w' p base g l c n j L (swap L' k j) := by
  have hl := h.len
  have hjl : j < L'.length := by omega
  have hkl : k < L'.length := by omega
  refine ⟨h.at_.swapped ho (swap_len _ _ _) q, (swap_perm hkl hjl).trans h.perm, fun i hi => ?_, h.but.step hj (by omega) (by omega) (by omega) hc, by have := h.at_.few; omega, ?_⟩
  · rw [at_swap hkl hjl, if_neg (by omega), if_neg (by omega)]; exact h.rest i hi
  · exact below_keeps h.below q (fun i hi => by rw [hi]; exact h.at_.cells.2.2) (by have := h.below.size; omega)
theorem Going.less {w0 w : World} {p base g l c n k : Nat} {L L' : List R} (h : Going w0 w p base g l c n k L L') {i j : Nat} (hi : i < l) (hj : j < l) {b : Bool} (hb : decide (key L' i < key L' j) = b) :
    Calls Try.prog 50 #[.slice (some ⟨g, 0, none⟩) l c, .int .i64 (i : Nat), .int .i64 (j : Nat)] w fun e w' => e = .returned (.bool b) ∧ Below w.heap.size w w' := by
  have hl := h.len.1
  have := less_any (some ⟨g, 0, none⟩) L' c i j w h.at_.cells.1 (by omega) (by omega)
  rw [hb, hl] at this
  exact this
theorem Going.swap {w0 w : World} {p base g l c n k : Nat} {L L' : List R} (h : Going w0 w p base g l c n k L L') {i j : Nat} (hi : i < l) (hj : j < l) :
    Calls Try.prog 53 #[.slice (some ⟨g, 0, none⟩) l c, .int .i64 (i : Nat), .int .i64 (j : Nat)] w fun e w' => e = .returned (.tuple #[]) ∧ OwnP w' base (.slice (some ⟨g, 0, none⟩) l c) (swap L' i j) ∧ Keeps (fun k => k = g) w w' := by
  have hl := h.len.1
  exact swap_any g c base l i j L' w h.at_.own (by omega) (by omega)
/-- what down hands back, and leaves -/
def RetDown (w : World) (p base g l c n : Nat) (L : List R) (e : Ending) (w' : World) : Prop := ∃ b L2, e = .returned (.bool b) ∧ At w' p base (.slice (some ⟨g, 0, none⟩) l c) L2 ∧ Downed L n L2 ∧ Below base w w'
set_option maxHeartbeats 1000000 in
theorem down_any (p base g l c n : Nat) (L : List R) (w : World) (h : At w p base (.slice (some ⟨g, 0, none⟩) l c) L) (hs : But L n 0) (hB : base ≤ w.heap.size) :
    Calls Try.prog 29 #[box p, .int .i64 0, .int .i64 (n : Nat)] w (RetDown w p base g l c n L) := by
  have hbb : Below base w w := ⟨rfl, rfl, rfl, Nat.le_refl _, fun _ _ => rfl⟩
  have HG := Lib.hid (show Going w w p base g l c n 0 L L from ⟨h, List.Perm.refl _, fun _ _ => rfl, hs, by omega, hbb⟩)
  have hn1 : n ≤ 1048576 := by have := h.few; have := hs.le; omega
  clear h hs hbb
  unfold box
  go_enter Try.func29, Try.ntmps29
  go_wp2
  go_loopw [7] (fun i wr => ∃ (k : Nat) (L' : List R), i = .int .i64 k ∧ Hid (Going w wr p base g l c n k L L')) (fun i _ => n - (intOf i).toNat)
  case atStart => exact ⟨0, L, rfl, HG⟩
  case round =>
    obtain ⟨k, L', rfl, HG⟩ := hrel
    rename World => wr
    have hk := HG.out.k
    have hln := HG.out.len.2
    have i1 : IntKind.i64.wrap (2 * (k : Int)) = 2 * (k : Int) := IntWalk.i64_in _ (by omega)
    obtain ⟨a, ha⟩ : ∃ a, a = 2 * k + 1 := ⟨_, rfl⟩
    have i2 : IntKind.i64.wrap (2 * (k : Int) + 1) = (a : Int) := by rw [IntWalk.i64_in _ (by omega)]; omega
    have ia : ¬ (a : Int) < 0 := by omega
    by_cases h1 : n ≤ a
    · have hd := HG.out.done (fun c h0 hc e => by omega)
      have HD := Lib.hid hd
      clear hd ha
      go_wp2
      go_ret
      exact ⟨_, L', rfl, HG.out.at_, HD.out, HG.out.below⟩
    have h1' : a < n := by omega
    have h1s : ¬ (n : Int) ≤ (a : Int) := by omega
    obtain ⟨b, hb⟩ : ∃ b, b = a + 1 := ⟨_, rfl⟩
    have i3 : IntKind.i64.wrap ((a : Int) + 1) = (b : Int) := by rw [IntWalk.i64_in _ (by omega)]; omega
    have hal : a < l := by omega
    have hkl : k < l := by omega
    have c0 := HG.out.at_.c0
    have hm := fun i => method_less i p (some ⟨g, 0, none⟩) l c wr c0
    clear h1
    by_cases h2 : b < n
    · have hbl : b < l := by omega
      have h2s : (b : Int) < (n : Int) := by omega
      by_cases h3 : key L' b < key L' a
      · have C1 := Lib.hid (HG.out.less (i := b) (j := a) hbl hal (decide_eq_true h3))
        have hmin : ∀ c, 0 < c → c < n → (c - 1) / 2 = k → key L' b ≤ key L' c := fun c h0 hc e => by
          rcases (show c = a ∨ c = b by omega) with rfl | rfl <;> omega
        have hord : b = 2 * k + 1 ∨ b = 2 * k + 2 := by omega
        have hjn : b < n := by omega
        have hjl : b < l := by omega
        have HM := Lib.hid hmin; have HO := Lib.hid hord
        clear hmin hord ha hb
        clear h3
        go_wp2_with fail
        refine C1.out.mono ?_
        rintro e w1 ⟨rfl, hb1⟩
        have HG1 := Lib.hid (HG.out.more hb1 hB)
        clear hb1 C1 hm c0 HG
        have c0 := HG1.out.at_.c0
        have hm := fun i => method_less i p (some ⟨g, 0, none⟩) l c w1 c0
        by_cases h4 : key L' b < key L' k
        · have C2 := Lib.hid (HG1.out.less (i := b) (j := k) hjl hkl (decide_eq_true h4))
          have H4 := Lib.hid h4
          clear h4
          go_wp2_with fail
          refine C2.out.mono ?_
          rintro e w2 ⟨rfl, hb2⟩
          have HG2 := Lib.hid (HG1.out.more hb2 hB)
          clear hb2 C2 hm c0 HG1
          have c0 := HG2.out.at_.c0
          have hm := fun i => method_swap i p (some ⟨g, 0, none⟩) l c w2 c0
          have C3 := Lib.hid (HG2.out.swap (i := k) (j := b) hkl hjl)
          go_wp2_with fail
          refine C3.out.mono ?_
          rintro e w3 ⟨rfl, ho3, hk3⟩
          have HG3 := Lib.hid (HG2.out.step hjn HO.out H4.out HM.out ho3 hk3 hB)
          clear ho3 hk3 C3 hm c0
          go_wp2
          go_roundw
          case rel => exact ⟨_, _, rfl, HG3⟩
          case measure => have := HO.out; simp [intOf] <;> omega
        · have C2 := Lib.hid (HG1.out.less (i := b) (j := k) hjl hkl (decide_eq_false h4))
          have H4 := Lib.hid h4
          clear h4
          go_wp2_with fail
          refine C2.out.mono ?_
          rintro e w2 ⟨rfl, hb2⟩
          have HG2 := Lib.hid (HG1.out.more hb2 hB)
          clear hb2 C2 hm c0 HG1
          have HD := Lib.hid (HG2.out.done (fun c h0 hc e => by have := HM.out c h0 hc e; have := H4.out; omega))
          go_wp2
          go_ret
          exact ⟨_, L', rfl, HG2.out.at_, HD.out, HG2.out.below⟩
      · have C1 := Lib.hid (HG.out.less (i := b) (j := a) hbl hal (decide_eq_false h3))
        have hmin : ∀ c, 0 < c → c < n → (c - 1) / 2 = k → key L' a ≤ key L' c := fun c h0 hc e => by
          rcases (show c = a ∨ c = b by omega) with rfl | rfl <;> omega
        have hord : a = 2 * k + 1 ∨ a = 2 * k + 2 := by omega
        have hjn : a < n := by omega
        have hjl : a < l := by omega
        have HM := Lib.hid hmin; have HO := Lib.hid hord
        clear hmin hord ha hb
        clear h3
        go_wp2_with fail
        refine C1.out.mono ?_
        rintro e w1 ⟨rfl, hb1⟩
        have HG1 := Lib.hid (HG.out.more hb1 hB)
        clear hb1 C1 hm c0 HG
        have c0 := HG1.out.at_.c0
        have hm := fun i => method_less i p (some ⟨g, 0, none⟩) l c w1 c0
        by_cases h4 : key L' a < key L' k
        · have C2 := Lib.hid (HG1.out.less (i := a) (j := k) hjl hkl (decide_eq_true h4))
          have H4 := Lib.hid h4
          clear h4
          go_wp2_with fail
          refine C2.out.mono ?_
          rintro e w2 ⟨rfl, hb2⟩
          have HG2 := Lib.hid (HG1.out.more hb2 hB)
          clear hb2 C2 hm c0 HG1
          have c0 := HG2.out.at_.c0
          have hm := fun i => method_swap i p (some ⟨g, 0, none⟩) l c w2 c0
          have C3 := Lib.hid (HG2.out.swap (i := k) (j := a) hkl hjl)
          go_wp2_with fail
          refine C3.out.mono ?_
          rintro e w3 ⟨rfl, ho3, hk3⟩
          have HG3 := Lib.hid (HG2.out.step hjn HO.out H4.out HM.out ho3 hk3 hB)
          clear ho3 hk3 C3 hm c0
          go_wp2
          go_roundw
          case rel => exact ⟨_, _, rfl, HG3⟩
          case measure => have := HO.out; simp [intOf] <;> omega
        · have C2 := Lib.hid (HG1.out.less (i := a) (j := k) hjl hkl (decide_eq_false h4))
          have H4 := Lib.hid h4
          clear h4
          go_wp2_with fail
          refine C2.out.mono ?_
          rintro e w2 ⟨rfl, hb2⟩
          have HG2 := Lib.hid (HG1.out.more hb2 hB)
          clear hb2 C2 hm c0 HG1
          have HD := Lib.hid (HG2.out.done (fun c h0 hc e => by have := HM.out c h0 hc e; have := H4.out; omega))
          go_wp2
          go_ret
          exact ⟨_, L', rfl, HG2.out.at_, HD.out, HG2.out.below⟩
    · have h2s : ¬ (b : Int) < (n : Int) := by omega
      have hmin : ∀ c, 0 < c → c < n → (c - 1) / 2 = k → key L' a ≤ key L' c := fun c h0 hc e => by
        have : c = a := by omega
        rw [this]; exact Nat.le_refl _
      have hord : a = 2 * k + 1 ∨ a = 2 * k + 2 := by omega
      have hjn : a < n := by omega
      have hjl : a < l := by omega
      have HM := Lib.hid hmin; have HO := Lib.hid hord
      clear hmin hord ha hb
      have HG1 := HG
      clear HG
      by_cases h4 : key L' a < key L' k
      · have C2 := Lib.hid (HG1.out.less (i := a) (j := k) hjl hkl (decide_eq_true h4))
        have H4 := Lib.hid h4
        clear h4
        go_wp2_with fail
        refine C2.out.mono ?_
        rintro e w2 ⟨rfl, hb2⟩
        have HG2 := Lib.hid (HG1.out.more hb2 hB)
        clear hb2 C2 hm c0 HG1
        have c0 := HG2.out.at_.c0
        have hm := fun i => method_swap i p (some ⟨g, 0, none⟩) l c w2 c0
        have C3 := Lib.hid (HG2.out.swap (i := k) (j := a) hkl hjl)
        go_wp2_with fail
        refine C3.out.mono ?_
        rintro e w3 ⟨rfl, ho3, hk3⟩
        have HG3 := Lib.hid (HG2.out.step hjn HO.out H4.out HM.out ho3 hk3 hB)
        clear ho3 hk3 C3 hm c0
        go_wp2
        go_roundw
        case rel => exact ⟨_, _, rfl, HG3⟩
        case measure => have := HO.out; simp [intOf] <;> omega
      · have C2 := Lib.hid (HG1.out.less (i := a) (j := k) hjl hkl (decide_eq_false h4))
        have H4 := Lib.hid h4
        clear h4
        go_wp2_with fail
        refine C2.out.mono ?_
        rintro e w2 ⟨rfl, hb2⟩
        have HG2 := Lib.hid (HG1.out.more hb2 hB)
        clear hb2 C2 hm c0 HG1
        have HD := Lib.hid (HG2.out.done (fun c h0 hc e => by have := HM.out c h0 hc e; have := H4.out; omega))
        go_wp2
        go_ret
        exact ⟨_, L', rfl, HG2.out.at_, HD.out, HG2.out.below⟩
end Go.Proofs.Ytpljdjkmemojmaa.Pile

/- container/heap's Pop over the pile; heapOf: runs laid on a heap -/
set_option maxRecDepth 100000
namespace Go.Proofs.Ytpljdjkmemojmaa.Pile
open Go.RowKit HeapM

/-- the least is handed back, the rest is a heap -/
def RetPop (w : World) (p base : Nat) (r : R) (S : List R) (e : Ending) (w' : World) : Prop := e = .returned (val r) ∧ ∃ v' L', At w' p base v' L' ∧ Heap L' ∧ L'.Perm S ∧ Below base w w'
theorem hpop_any (p base : Nat) (v : Value) (L : List R) (r : R) (S : List R) (w : World) (h : At w p base v L) (hh : Heap L) (hp : L.Perm (r :: S)) (hs : Sorted (r :: S)) (hB : base ≤ w.heap.size) :
    Calls Try.prog 22 #[box p] w (RetPop w p base r S) := by
  obtain ⟨n, hn⟩ : ∃ n, L.length = n + 1 := ⟨S.length, by rw [hp.length_eq]; rfl⟩
  obtain ⟨g, c, rfl, hgb, _, _, _, _, _⟩ := h.own.form (by omega)
  have hfew := h.few
  have hw : IntKind.i64.wrap ((n : Int) + 1 - 1) = (n : Int) := by rw [show (n : Int) + 1 - 1 = (n : Int) from by omega]; exact IntWalk.i64_in _ (by omega)
  have hw2 : IntKind.i64.wrap (n : Int) = (n : Int) := IntWalk.i64_in _ (by omega)
  have hS := swap_any g c base L.length 0 n L w h.own (by omega) (by omega)
  have HSW := Lib.hid (fun W (ho : OwnP W base (.slice (some ⟨g, 0, none⟩) L.length c) (swap L 0 n)) (hk : Keeps (fun k => k = g) w W) => h.swapped ho (swap_len _ _ _) hk)
  have HBE := Lib.hid (fun W (hk : Keeps (fun k => k = g) w W) => show Below base w W from below_keeps ⟨rfl, rfl, rfl, Nat.le_refl _, fun _ _ => rfl⟩ hk (fun k e => by rw [e]; exact hgb) hB)
  have HBUT := Lib.hid (hh.but hn)
  have HEND := Lib.hid (fun L2 (hd : Downed (swap L 0 n) n L2) => hh.pop hn hp hs hd)
  have HLEN := Lib.hid (fun L2 (hd : Downed (swap L 0 n) n L2) => show L2.length = n + 1 by rw [hd.len, swap_len, hn])
  have c0 := h.c0
  rw [hn] at hS HSW c0
  have HS := Lib.hid hS
  have hm := fun i => method_len i p (some ⟨g, 0, none⟩) (n + 1) c w c0
  have hm2 := fun i => method_swap i p (some ⟨g, 0, none⟩) (n + 1) c w c0
  generalize swap L 0 n = L1 at *
  clear h hh hp hs hS hn
  unfold box
  go_enter Try.func22, Try.ntmps22
  go_wp2_with fail
  refine (len_any (some ⟨g, 0, none⟩) (n + 1) c w).mono ?_
  rintro e w1 ⟨rfl, rfl⟩
  go_wp2_with fail
  refine HS.out.mono ?_
  rintro e w2 ⟨rfl, ho, hk⟩
  have HA := Lib.hid (HSW.out w2 ho hk); have HB := Lib.hid (HBE.out w2 hk)
  clear ho hk hm hm2 c0 HS HSW HBE
  go_wp2_with fail
  refine (down_any p base g (n + 1) c n L1 w2 HA.out HBUT.out (Nat.le_trans hB HB.out.size)).mono ?_
  rintro e w3 ⟨b, L2, rfl, ha3, hd, hb3⟩
  have HB3 := Lib.hid (HB.out.trans hb3)
  have HE := Lib.hid (HEND.out L2 hd)
  have hl := HLEN.out L2 hd
  rw [← hl] at ha3
  have HP := Lib.hid (pop_any p base g c n L2 w3 ha3 hl)
  have hm := fun i => method_pop i p w3
  clear ha3 hd hb3 HA HB HEND HLEN HBUT hl
  go_wp2_with fail
  refine HP.out.mono ?_
  rintro e w4 ⟨rfl, ha4, hk4⟩
  obtain ⟨he1, he2, he3⟩ := HE.out
  have hb4 := below_keeps HB3.out hk4 (fun k e => by rw [e]; exact ha4.low) (Nat.le_trans hB HB3.out.size)
  have HF : Hid (RetPop w1 p base r S (.returned (val r)) w4) := Lib.hid ⟨rfl, _, _, ha4, he2, he3, hb4⟩
  rw [he1]
  unfold val at *
  generalize agg r = X at *
  clear he1 he2 he3 hb4 ha4 hk4 HE HP HB3 hm
  go_wp2
  go_ret
  exact HF.out
end Go.Proofs.Ytpljdjkmemojmaa.Pile

/- package space: heapOf: runs laid on a heap -/
set_option maxRecDepth 100000
namespace Go.Proofs.Ytpljdjkmemojmaa.Pile
open Go.RowKit HeapM Pairs

def two (r : R) : I2 := ((r.1 : Nat), (r.2 : Nat))
def RunsAt (w : World) (A : Option Addr) (L : List R) : Prop := PairsAt w A (L.map two)
theorem RunsAt.at {w : World} {A : Option Addr} {L : List R} (h : RunsAt w A L) {k : Nat} (hk : k < L.length) : ∃ b o, A = some ⟨b, o, none⟩ ∧ w.cell? ⟨b, o + k * 2, none⟩ = some (.int .i64 (L[k].1 : Nat)) ∧ w.cell? ⟨b, o + k * 2 + 1, none⟩ = some (.int .i64 (L[k].2 : Nat)) := by
  obtain ⟨b, o, e, h0, h1⟩ := h k (by simpa using hk)
  exact ⟨b, o, e, by rw [h0, List.getElem_map]; rfl, by rw [h1, List.getElem_map]; rfl⟩
theorem RunsAt.below {w w' : World} {A : Option Addr} {L : List R} (h : RunsAt w A L) (hb : Below w.heap.size w w') : RunsAt w' A L := PairsAt.below h hb
/-- a heap of all these runs -/
def RetHeap (w : World) (L : List R) (e : Ending) (w' : World) : Prop := ∃ p v, e = .returned (box p) ∧ At w' p w.heap.size v L ∧ Below w.heap.size w w'
theorem At.empty (w : World) : At ((w.alloc (.cells #[] 55)).alloc (.cells #[.slice (some ⟨w.heap.size, 0, none⟩) 0 0] 65)) (w.heap.size + 1) w.heap.size (.slice (some ⟨w.heap.size, 0, none⟩) 0 0) [] := by
  have h0 := ownV_empty w w.heap.size 55 (Nat.le_refl _)
  have hz : (w.alloc (.cells #[] 55)).heap.size = w.heap.size + 1 := by simp
  have h1 := ownV_below h0 (balloc _ (.cells #[.slice (some ⟨w.heap.size, 0, none⟩) 0 0] 65))
  refine ⟨?_, ?_, h1, ?_, by omega, by simp⟩
  · rw [← hz]; simp
  · rw [← hz]; simp
  · simp [Value.ownBlock]
theorem heapOf_any (A : Option Addr) (c : Nat) (L : List R) (w : World) (h : RunsAt w A L) (hs : Sorted L) (hn : L.length ≤ 1000) :
    Calls Try.prog 20 #[.slice A L.length c] w (RetHeap w L) := by
  have HB0 := Lib.hid (bstep (balloc w (.cells #[] 55)) (balloc _ (.cells #[.slice (some ⟨w.heap.size, 0, none⟩) 0 0] 65)))
  have HA0 := Lib.hid (At.empty w)
  have H := Lib.hid h
  have HSO := Lib.hid hs
  clear h hs
  go_enter Try.func20, Try.ntmps20
  go_wp2
  generalize (w.alloc (.cells #[] 55)).alloc (.cells #[.slice (some ⟨w.heap.size, 0, none⟩) 0 0] 65) = W0 at *
  generalize w.heap.size + 1 = p at *
  go_loopw [10] (fun i wr => ∃ k : Nat, i = .int .i64 k ∧ k ≤ L.length ∧ Hid ((∃ v, At wr p w.heap.size v (L.take k)) ∧ Below w.heap.size w wr)) (fun i _ => L.length - (intOf i).toNat)
  case atStart => exact ⟨0, rfl, Nat.zero_le _, Lib.hid ⟨⟨_, HA0.out⟩, HB0.out⟩⟩
  case round =>
    obtain ⟨k, rfl, hk, HR⟩ := hrel
    rename World => wr
    by_cases hlt : k < L.length
    · obtain ⟨b, o, hA, e0, e1⟩ := (H.out.below HR.out.2).at hlt
      subst hA
      obtain ⟨v, hv⟩ := HR.out.1
      have hpl : p < wr.heap.size := cell_lt hv.c0
      have HV := Lib.hid hv
      have ht : L.take (k + 1) = L.take k ++ [L[k]] := by rw [List.take_succ_eq_append_getElem hlt]
      have hso : Sorted (L.take (k + 1)) := List.Pairwise.sublist (List.take_sublist _ _) HSO.out
      rw [ht] at hso
      have hl : (L.take k).length = k := by rw [List.length_take]; omega
      have HC := Lib.hid (fun W (hw : Below wr.heap.size wr W) => hpush_any p w.heap.size v (L.take k) L[k] W (hv.below hw) hso (by omega) (Nat.le_trans HR.out.2.size hw.size))
      have HT := Lib.hid ht
      clear ht hso hl hv
      unfold val agg box at HC
      go_wp2_with fail
      refine (HC.out _ (balloc _ _)).mono ?_
      rintro e w2 ⟨rfl, hv2, hb2⟩
      rw [← HT.out] at hv2
      have hb3 : Below w.heap.size w w2 := (HR.out.2.trans ((balloc wr _).mono HR.out.2.size)).trans hb2
      have HR2 := Lib.hid (And.intro hv2 hb3)
      clear hv2 hb2 hb3 HC HT HV HR e0 e1
      go_wp2
      go_roundw
      case rel => exact ⟨k + 1, by go_num, by omega, HR2⟩
      case measure => simp [intOf] <;> omega
    · obtain rfl : k = L.length := by omega
      have ht : L.take L.length = L := List.take_length
      obtain ⟨⟨v, hv⟩, hb⟩ := HR.out
      rw [ht] at hv
      have HF : Hid (RetHeap w L (.returned (box p)) wr) := Lib.hid ⟨p, v, rfl, hv, hb⟩
      unfold box at HF
      clear hv hb HR ht
      go_wp2
      go_ret
      exact HF.out
end Go.Proofs.Ytpljdjkmemojmaa.Pile
