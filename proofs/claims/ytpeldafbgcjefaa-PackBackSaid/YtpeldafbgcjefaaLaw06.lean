/- the walks of layer 6's laws -/
import Derived.Test.YtpeldafbgcjefaaActs
import Derived.Test.YtpeldafbgcjefaaR06
import Derived.Test.YtpeldafbgcjefaaPack
import Derived.Test.YtpeldafbgcjefaaR01
import Derived.Lib.SmallJoins
import Derived.IntWalk
import Derived.Deep.QuietTactic
import Derived.BigQuiet
set_option maxRecDepth 100000
namespace Go.Proofs.Ytpeldafbgcjefaa.Law06
open Go.RowKit

def lightB (l : List Act6) : Bool := (l.all fun a => decide (a.b.length ≤ 300)) && decide (l.length ≤ 40)
theorem lightB_iff (l : List Act6) : lightB l = true ↔ (∀ i, (h : i < l.length) → l[i].b.length ≤ 300) ∧ l.length ≤ 40 := by
  unfold lightB
  rw [Bool.and_eq_true, List.all_eq_true, decide_eq_true_eq]
  constructor
  · rintro ⟨h1, h2⟩; exact ⟨fun i hi => by simpa using h1 _ (List.getElem_mem hi), h2⟩
  · rintro ⟨h1, h2⟩
    refine ⟨fun r hr => ?_, h2⟩
    obtain ⟨i, hi, rfl⟩ := List.mem_iff_getElem.1 hr
    simpa using h1 i hi

theorem light_any (A : Option Addr) (l : List Act6) (c : Nat) (w : World) (h : ActsAt w A l) (hl : l.length ≤ 9223372036854775807) :
    Calls Try.prog 6 #[.slice A l.length c] w fun e w' => e = .returned (.bool (lightB l)) ∧ Below w.heap.size w w' := by
  go_enter Try.func6, Try.ntmps6
  go_wp2
  go_loopw [7] (fun i wr => ∃ k : Nat, k ≤ l.length ∧ i = .int .i64 k ∧ (∀ j, (h : j < l.length) → j < k → l[j].b.length ≤ 300) ∧ Below w.heap.size w wr)
    (fun i _ => l.length - (intOf i).toNat)
  case atStart => exact ⟨0, Nat.zero_le _, rfl, fun j _ h => by omega, Below.refl _ _⟩
  case round =>
    obtain ⟨k, hk, rfl, hw, hb⟩ := hrel
    rename World => w0
    have HW := Lib.hid hw
    clear hw
    by_cases hlt : k < l.length
    · obtain ⟨b, o, B, cb, hA, e0, e1, e2, e3, h4, h5, _⟩ := h.below hb k hlt
      subst hA
      have hlx : l[k].b.length ≤ 9223372036854775807 := by unfold maxLen at h5; omega
      have g1 : l[k].b.length ≤ 300 → ∀ j, (h : j < l.length) → j < k + 1 → l[j].b.length ≤ 300 := fun hx j hj hjk => by
        by_cases e : j = k
        · subst e; exact hx
        · exact HW.out j hj (by omega)
      have g2 : 300 < l[k].b.length → lightB l = false := fun hx => by
        rcases hq : lightB l with _ | _
        · rfl
        · have := ((lightB_iff l).1 hq).1 k hlt; omega
      have G1 := Lib.hid g1; have G2 := Lib.hid g2
      clear g1 g2
      by_cases hx : 300 < l[k].b.length
      · have hf := G2.out hx
        have HF := Lib.hid hf
        clear hf
        go_wp2
        go_ret
        exact ⟨ret_bool HF.out.symm, hb.alloc hb.size _⟩
      · have hf := G1.out (by omega)
        have HF := Lib.hid hf
        clear hf
        go_wp2
        go_roundw
        case rel => exact ⟨k + 1, by omega, by go_num, HF.out, hb.alloc hb.size _⟩
        case measure => simp [intOf] <;> omega
    · obtain rfl : k = l.length := by omega
      have hf : lightB l = decide ((l.length : Int) ≤ 40) := by
        rw [Bool.eq_iff_iff, lightB_iff, decide_eq_true_eq]
        constructor
        · rintro ⟨_, h2⟩; omega
        · intro h2; exact ⟨fun i hi => HW.out i hi hi, by omega⟩
      have HF := Lib.hid hf
      clear hf
      go_wp2
      go_ret
      exact ⟨ret_bool HF.out.symm, hb⟩

/-- what a call writes -/
def outL (a : Act6) : List UInt8 := if a.kind = 0 then PackM.numB a.k a.n else if a.kind = 1 then a.b else PackM.textB a.b
def outTo (l : List Act6) (k : Nat) : List UInt8 := (l.take k).flatMap outL
theorem outTo_succ (l : List Act6) (k : Nat) (h : k < l.length) : outTo l (k + 1) = outTo l k ++ outL l[k] := by
  unfold outTo; rw [List.take_succ_eq_append_getElem h, List.flatMap_append]; simp
theorem outL_len (a : Act6) (h : a.b.length ≤ 300) : (outL a).length ≤ 300 := by
  unfold outL
  split
  · rw [PackM.numB_len]; have := (PackM.wid_range a.k).2; omega
  · split
    · exact h
    · rw [PackM.textB_len]; omega
theorem outTo_len (l : List Act6) (h : ∀ i, (hi : i < l.length) → l[i].b.length ≤ 300) (k : Nat) (hk : k ≤ l.length) : (outTo l k).length ≤ 300 * k := by
  induction k with
  | zero => simp [outTo]
  | succ k ih =>
    rw [outTo_succ l k (by omega), List.length_append]
    have h1 := outL_len l[k] (h k (by omega))
    have h2 := ih (by omega)
    omega

theorem alive_any (w : World) : Calls Try.prog 7 #[] w fun e w' => e = .returned (.bool true) ∧ Below w.heap.size w w' := by
  have n1 : [] ++ PackM.numB 2 258 = [1, 2] := by decide +kernel
  have n2 : [1, 2] ++ PackM.textB [97, 98] = [1, 2, 2, 97, 98] := by decide +kernel
  have n3 : PackM.numV [1, 2, 2, 97, 98] ⟨0, false⟩ 2 = 258 := by decide +kernel
  have n4 : PackM.textL [1, 2, 2, 97, 98] (PackM.numS [1, 2, 2, 97, 98] ⟨0, false⟩ 2) = [97, 98] := by decide +kernel
  have n5 : (!(PackM.textS [1, 2, 2, 97, 98] (PackM.numS [1, 2, 2, 97, 98] ⟨0, false⟩ 2)).bad && decide (([1, 2, 2, 97, 98] : List UInt8).length - (PackM.textS [1, 2, 2, 97, 98] (PackM.numS [1, 2, 2, 97, 98] ⟨0, false⟩ 2)).at_ = 0)) = true := by decide +kernel
  have N1 := Lib.hid n1; have N2 := Lib.hid n2; have N3 := Lib.hid n3; have N4 := Lib.hid n4; have N5 := Lib.hid n5
  clear n1 n2 n3 n4 n5
  have kc := fun (w : World) (C : Array Value) (n c : Nat) => Lib.run_convert_bytes_const (P := Try.prog) w 25 5 C n c Try.underlying25 Try.underlying5
  go_enter Try.func7, Try.ntmps7
  go_wp2_with fail
  refine (Pack.wnum_any w.heap.size w.heap.size (.slice none 0 0) [] 2 258 _ (Pack.WAt.start w _) (by simp) (by simp) (by omega)).mono ?_
  rintro e w1 ⟨rfl, v1, h1, q1, p1⟩
  rw [N1.out] at h1
  have hb1 : Below w.heap.size w w1 := Pack.below_w (Pack.WAt.start w 27) (balloc _ _) q1 (Nat.le_refl _) (Nat.le_refl _) (by simp)
  have hz1 := hb1.size
  have hg1 := h1.lt
  have H1 := Lib.hid h1
  clear h1 q1 p1
  go_wp2_with fail
  refine (Pack.wtext_any w.heap.size w.heap.size v1 [1, 2] (some ⟨w1.heap.size, 0, none⟩) [97, 98] 2 (w1.alloc (.cells (cells [97, 98]) 5 (2, 3))) (H1.out.below (balloc _ _)) (by decide) (by simp; omega) (bytes_mark w1 [97, 98] (2, 3) _ rfl) (by decide) (by decide) (by unfold maxLen; omega)
    (fun _ a e => by injection e with e; subst e; exact ⟨by show w1.heap.size ≠ w.heap.size; omega, fun e' => by have := (H1.out.own.lt _ e').2; exact absurd this (by show ¬ w1.heap.size < w1.heap.size; omega)⟩)).mono ?_
  rintro e w2 ⟨rfl, v2, h2, q2, p2⟩
  rw [N2.out] at h2
  have hb2 : Below w.heap.size w w2 := Pack.below_w (H1.out.below (balloc w1 (.cells (cells [97, 98]) 5 (2, 3)))) (hb1.trans ((balloc _ _).mono hz1)) q2 (Nat.le_refl _) (Nat.le_refl _) (by simp; omega)
  have H2 := Lib.hid h2
  have hz2 := hb2.size
  clear h2 q2 p2 H1 hb1 hz1 hg1
  go_wp2_with fail
  refine (Pack.wbytes_any _ _ _ _ _ H2.out (by decide)).mono ?_
  rintro e w9 ⟨A, c, rfl, hc1, hc2, hA, hb9, _⟩
  have H2 := Lib.hid (H2.out.below hb9)
  have HA := Lib.hid hA
  clear hA
  go_wp2_with fail
  refine (Pack.read_any A [1, 2, 2, 97, 98] c w9 HA.out (by decide)).mono ?_
  rintro e w3 ⟨g, A3, rfl, hr3, hb3, hg3, hn3⟩
  have h3 := H2.out.below hb3
  have H3 := Lib.hid h3; have HR := Lib.hid hr3
  clear h3 hr3 H2 HA hn3
  go_wp2_with fail
  refine (Pack.wbytes_any _ _ _ _ _ H3.out (by decide)).mono ?_
  rintro e w8 ⟨A, c, rfl, hc1, hc2, hA, hb8, _⟩
  have HA := Lib.hid hA
  have HR := Lib.hid (HR.out.below hb8)
  clear hA
  go_wp2_with fail
  have C := R01.same_any A (some ⟨w8.heap.size, 0, none⟩) [1, 2, 2, 97, 98] [1, 2, 2, 97, 98] c 5 (w8.alloc (.cells (cells [1, 2, 2, 97, 98]) 5)) (HA.out.alloc _) (Row.new _ _).bytes (by decide) (by decide)
  rw [same_self] at C
  refine C.mono ?_
  clear C
  rintro e w4 ⟨rfl, hq⟩
  have hb4 : Below w8.heap.size w8 w4 := bstep (balloc _ _) (bquiet hq)
  have HR := Lib.hid (HR.out.below hb4)
  clear hq
  go_wp2_with fail
  have C := Pack.rnum_any g A3 [1, 2, 2, 97, 98] ⟨0, false⟩ 2 w4 HR.out (by decide)
  rw [N3.out] at C
  refine C.mono ?_
  clear C
  rintro e w5 ⟨rfl, hr5, hg5⟩
  have HR := Lib.hid hr5; have HG5 := Lib.hid hg5
  clear hr5 hg5
  go_wp2_with fail
  have C := Pack.rtext_any g A3 [1, 2, 2, 97, 98] (PackM.numS [1, 2, 2, 97, 98] ⟨0, false⟩ 2) w5 HR.out (by decide)
  rw [N4.out] at C
  refine C.mono ?_
  clear C
  rintro e w6 ⟨X, d, rfl, hX, hd1, hd2, hXg, hr6, hg6⟩
  have HR := Lib.hid hr6; have HG6 := Lib.hid hg6
  obtain ⟨x, o, hXa, k0⟩ := hX 0 (by decide)
  subst hXa
  obtain ⟨x2, o2, hXa2, k1⟩ := hX 1 (by decide)
  obtain ⟨rfl, rfl⟩ : x = x2 ∧ o = o2 := by injection hXa2 with hA; injection hA with h1 h2; exact ⟨h1, h2⟩
  have k0 : w6.cell? ⟨x, o, none⟩ = some (.int .u8 97) := k0
  have k1 : w6.cell? ⟨x, o + 1, none⟩ = some (.int .u8 98) := k1
  have hconv : (convert 25 9 (.slice (some ⟨x, o, none⟩) 2 d)).run Try.prog w6 = .ok (.string ⟨#[97, 98]⟩) w6 := run_convert_bytes_back (P := Try.prog) w6 25 9 5 ⟨x, o, none⟩ d [97, 98] Try.underlying25 Try.underlying5 Try.underlying9 (fun j hj => by
    obtain ⟨x3, o3, e3, k3⟩ := hX j hj
    obtain ⟨rfl, rfl⟩ : x = x3 ∧ o = o3 := by injection e3 with hA; injection hA with h1 h2; exact ⟨h1, h2⟩
    have hadd : (⟨x, o, none⟩ : Addr).add j = ⟨x, o + j, none⟩ := by unfold Addr.add; split <;> simp_all
    rw [hadd]; exact k3)
  clear hr6 hg6 hX hXg hXa2
  go_wp2_with fail
  clear hconv k0 k1
  have C := Pack.done_any g A3 [1, 2, 2, 97, 98] _ w6 HR.out (by decide)
  rw [N5.out] at C
  refine C.mono ?_
  clear C
  rintro e w7 ⟨rfl, hq⟩
  have hb4' : Below w.heap.size w w4 := bstep hb2 (bstep hb9 (bstep hb3 (bstep hb8 hb4)))
  have hgw : w.heap.size ≤ g := by have := hb2.size; have := hb9.size; omega
  have hb5 := below_grow hb4' HG5.out hgw hb4'.size
  have hb6 := below_grow hb5 HG6.out hgw hb5.size
  have hb7 := bstep hb6 (bquiet hq)
  clear hq hb4' hb5 hb6
  go_wp2
  go_ret
  exact ⟨rfl, hb7⟩

theorem heavy_any (A : Option Addr) (l : List Act6) (c : Nat) (w : World) (h : ActsAt w A l) (hl : l.length ≤ 9223372036854775807) (hb : lightB l = false) :
    Calls Try.prog 6 #[.slice A l.length c] w fun e w' => e = .returned (.bool false) ∧ Below w.heap.size w w' := by
  have C := light_any A l c w h hl
  rw [hb] at C; exact C

/-- a Writer, and a list of the law's own beside it -/
structure Both (w1 : World) (lw lv : List UInt8) (v wv : Value) (wr : World) : Prop where
  wat : Pack.WAt wr w1.heap.size w1.heap.size v lw
  own : Own wr w1.heap.size wv lv
  apart : ∀ b, v.ownBlock = some b → wv.ownBlock ≠ some b
  ne : wv.ownBlock ≠ some w1.heap.size
  below : Below w1.heap.size w1 wr
theorem Both.keep {w1 wr w2 : World} {lw lv : List UInt8} {v wv : Value} (h : Both w1 lw lv v wv wr) (hb : Below wr.heap.size wr w2) : Both w1 lw lv v wv w2 :=
  ⟨h.wat.below hb, h.own.below hb, h.apart, h.ne, bstep h.below hb⟩
theorem Both.write {w1 wr w2 : World} {lw lw' lv : List UInt8} {v v2 wv : Value} (h : Both w1 lw lv v wv wr) (h2 : Pack.WAt w2 w1.heap.size w1.heap.size v2 lw') (q : Keeps (fun b => b = w1.heap.size ∨ v.ownBlock = some b) wr w2)
    (p : v2.ownBlock = v.ownBlock ∨ ∃ k, v2.ownBlock = some k ∧ wr.heap.size ≤ k) : Both w1 lw' lv v2 wv w2 := by
  refine ⟨h2, h.own.keep q (fun k hk hF => ?_), fun b hb hw => ?_, h.ne, Pack.below_w h.wat h.below q (Nat.le_refl _) (Nat.le_refl _) h.below.size⟩
  · rcases hF with rfl | hF
    · exact h.ne hk
    · exact h.apart k hF hk
  · rcases p with p | ⟨k, p, hk⟩
    · exact h.apart b (by rw [← p]; exact hb) hw
    · have := (h.own.lt b hw).2
      rw [hb] at p; injection p with p; omega
theorem Both.add {w1 wr w2 : World} {lw lv lv' : List UInt8} {v wv wv' : Value} (h : Both w1 lw lv v wv wr) (a : Appd wr w1.heap.size wv lv' wv' w2) : Both w1 lw lv' v wv' w2 := by
  have q : Keeps (fun b => wv.ownBlock = some b) wr w2 := ⟨a.grow.os, a.grow.tape, a.grow.output, a.grow.size, fun k hk hn => a.grow.block k hk (fun e => hn e.symm)⟩
  have hg := h.wat.lt
  refine ⟨h.wat.keep q h.ne h.apart, a.own, fun b hb hw => ?_, fun e => ?_, below_keeps h.below q (fun k hk => (h.own.lt k hk).1) h.below.size⟩
  · rcases a.place with p | p
    · exact h.apart b hb (by rw [← p]; exact hw)
    · have := (h.wat.own.lt b hb).2
      rw [hw] at p; injection p with p; omega
  · rcases a.place with p | p
    · exact h.ne (by rw [← p]; exact e)
    · rw [e] at p; injection p with p; omega
theorem Both.start (w1 : World) (t : TypeId) : Both w1 [] [] (.slice none 0 0) (.slice none 0 0) (w1.alloc (.cells #[.slice none 0 0] t)) :=
  ⟨Pack.WAt.start w1 t, Own.nil _ _, fun b h => by simp [Value.ownBlock] at h, by simp [Value.ownBlock], balloc _ _⟩

set_option maxHeartbeats 1000000 in
theorem writes_any (A : Option Addr) (l : List Act6) (c : Nat) (w : World) (h : ActsAt w A l) (hc : l.length ≤ c) (hc2 : c ≤ maxLen) :
    Calls Try.prog 3 #[.slice A l.length c] w fun e w' => e = .returned (.bool true) ∧ Below w.heap.size w w' := by
  have hl : l.length ≤ 9223372036854775807 := by unfold maxLen at hc2; omega
  rcases hlt : lightB l with _ | _
  · have C := heavy_any A l c w h hl hlt
    clear hlt
    go_enter Try.func3, Try.ntmps3
    go_wp2_with fail
    refine C.mono ?_
    clear C
    rintro e w1 ⟨rfl, hb1⟩
    go_wp2_with fail
    refine (alive_any _).mono ?_
    rintro e w2 ⟨rfl, hb2⟩
    go_wp2
    go_ret
    exact ⟨rfl, bstep hb1 hb2⟩
  have C := light_any A l c w h hl
  obtain ⟨hs1, hs2⟩ := (lightB_iff l).1 hlt
  rw [hlt] at C
  have HS := Lib.hid hs1
  clear hlt hs1
  go_enter Try.func3, Try.ntmps3
  go_wp2_with fail
  refine C.mono ?_
  clear C
  rintro e w1 ⟨rfl, hb1⟩
  have H := Lib.hid (h.below hb1)
  clear h
  go_wp2_with fail
  go_loopw [4, 13] (fun wv i wr => ∃ (k : Nat) (v : Value), k ≤ l.length ∧ i = .int .i64 k ∧ Both w1 (outTo l k) (outTo l k) v wv wr)
    (fun _ i _ => l.length - (intOf i).toNat)
  case atStart => exact ⟨0, _, Nat.zero_le _, rfl, Both.start w1 _⟩
  case round =>
    obtain ⟨k, v, hk, rfl, hB⟩ := hrel
    rename World => w0
    have hol := outTo_len l HS.out k hk
    have HOL := Lib.hid hol
    clear hol
    by_cases hlt : k < l.length
    · obtain ⟨b, o, B, cb, hA, e0, e1, e2, e3, h4, h5, h6, h7, h8, h9⟩ := H.out k hlt
      subst hA
      have e0 := (hB.below.cell (p := ⟨b, o + k * 4, none⟩) (cell_lt e0)).trans e0
      have e1 := (hB.below.cell (p := ⟨b, o + k * 4 + 1, none⟩) (cell_lt e1)).trans e1
      have e2 := (hB.below.cell (p := ⟨b, o + k * 4 + 2, none⟩) (cell_lt e2)).trans e2
      have e3 := (hB.below.cell (p := ⟨b, o + k * 4 + 3, none⟩) (cell_lt e3)).trans e3
      have hblt : 0 < l[k].b.length → ∀ x, B = some x → x.block < w1.heap.size := fun h0 => h6.lt h0
      have h6 := h6.below hB.below
      have HLT := Lib.hid hblt
      clear hblt
      have hsu := outTo_succ l k hlt
      have hle := HS.out k hlt
      have HB := Lib.hid hB; have H6 := Lib.hid h6
      clear hB h6
      generalize l[k] = a at *
      have hbx := HB.out.keep (balloc w0 (.cells #[.int .i64 a.kind, .int .i64 a.k, .int .i64 a.n, .slice B a.b.length cb] 29))
      have x1 : (w0.alloc (.cells #[.int .i64 a.kind, .int .i64 a.k, .int .i64 a.n, .slice B a.b.length cb] 29)).cell? ⟨w0.heap.size, 1, none⟩ = some (.int .i64 a.k) := by simp
      have x2 : (w0.alloc (.cells #[.int .i64 a.kind, .int .i64 a.k, .int .i64 a.n, .slice B a.b.length cb] 29)).cell? ⟨w0.heap.size, 2, none⟩ = some (.int .i64 a.n) := by simp
      have x3 : (w0.alloc (.cells #[.int .i64 a.kind, .int .i64 a.k, .int .i64 a.n, .slice B a.b.length cb] 29)).cell? ⟨w0.heap.size, 3, none⟩ = some (.slice B a.b.length cb) := by simp
      have nb : ¬ (w0.heap.size = w1.heap.size ∨ v.ownBlock = some w0.heap.size) := fun e => by
        rcases e with e | e
        · have := HB.out.wat.lt; omega
        · have := (HB.out.wat.own.lt _ e).2; omega
      have hbW := hbx.below.size
      have hBne : 0 < a.b.length → ∀ x, B = some x → x.block ≠ w1.heap.size ∧ v.ownBlock ≠ some x.block := fun h0 x hx => by
        have hx1 := HLT.out h0 x hx
        exact ⟨by omega, fun e => by have := (HB.out.wat.own.lt _ e).1; omega⟩
      have hbz : (outTo l k).length ≤ 1048576 := by have := HOL.out; omega
      have HBX := Lib.hid hbx; have H6' := Lib.hid (H6.out.below (balloc w0 (.cells #[.int .i64 a.kind, .int .i64 a.k, .int .i64 a.n, .slice B a.b.length cb] 29)))
      have X1 := Lib.hid x1; have X2 := Lib.hid x2; have X3 := Lib.hid x3
      clear hbx x1 x2 x3
      obtain ⟨u1, u2⟩ := h8
      obtain ⟨u3, u4⟩ := h9
      by_cases hk0 : a.kind = 0
      · have q0 : (a.kind == 0) = true := by simp [hk0]
        rw [show outL a = PackM.numB a.k a.n from by unfold outL; rw [if_pos hk0]] at hsu
        have HSU := Lib.hid hsu
        clear hsu hk0
        go_wp2_with fail
        refine (Pack.wnum_any w1.heap.size w1.heap.size v (outTo l k) a.k a.n _ HBX.out.wat hbz hbW ⟨u3, u4⟩).mono ?_
        rintro e w2 ⟨rfl, v2, hw2, qq, pp⟩
        have y1 := qq.cell X1.out nb
        have y2 := qq.cell X2.out nb
        have hb2 := HBX.out.write hw2 qq pp
        have HB2 := Lib.hid hb2
        clear hw2 qq pp hb2
        go_wp2_with fail
        refine (R06.num_any a.k a.n w2 ⟨u3, u4⟩).mono ?_
        rintro e w3 ⟨X, d, rfl, hd1, hd2, hX, hb3, _⟩
        have HB3 := Lib.hid (HB2.out.keep hb3); have HX := Lib.hid hX
        clear hX
        have hlen4 : (PackM.numB a.k a.n).length ≤ 4 := by rw [PackM.numB_len]; exact (PackM.wid_range _).2
        go_wp2_with (at_builtin; refine wpList_append_at rfl _ _ rfl w1.heap.size _ (outTo l k) (PackM.numB a.k a.n) rfl HB3.out.own X _ _ rfl rfl HX.out (by omega) HB3.out.below.size ?_; intro wv' w4 ha4)
        go_roundw
        case rel => exact ⟨k + 1, v2, by omega, by go_num, by rw [HSU.out]; exact HB3.out.add ha4⟩
        case measure => simp [intOf] <;> omega
      · have q0 : (a.kind == 0) = false := by simpa using hk0
        by_cases hk1 : a.kind = 1
        · have q1 : (a.kind == 1) = true := by simp [hk1]
          rw [show outL a = a.b from by unfold outL; rw [if_neg hk0, if_pos hk1]] at hsu
          have HSU := Lib.hid hsu
          clear hsu hk0 hk1
          go_wp2_with fail
          refine (Pack.wraw_any w1.heap.size w1.heap.size v (outTo l k) B a.b cb _ HBX.out.wat hbz hbW H6'.out (by omega)).mono ?_
          rintro e w2 ⟨rfl, v2, hw2, qq, pp⟩
          have y3 := qq.cell X3.out nb
          have hb6 : BytesAt w2 B a.b := qq.bytes' H6'.out (fun h0 x hx hF => by
            rcases hF with e | e
            · exact (hBne h0 x hx).1 e
            · exact (hBne h0 x hx).2 e)
          have hb2 := HBX.out.write hw2 qq pp
          have HB2 := Lib.hid hb2; have HX := Lib.hid hb6
          clear hw2 qq pp hb2 hb6
          go_wp2_with (at_builtin; refine wpList_append_at rfl _ _ rfl w1.heap.size _ (outTo l k) a.b rfl HB2.out.own B _ _ rfl rfl HX.out (by omega) HB2.out.below.size ?_; intro wv' w4 ha4)
          go_roundw
          case rel => exact ⟨k + 1, v2, by omega, by go_num, by rw [HSU.out]; exact HB2.out.add ha4⟩
          case measure => simp [intOf] <;> omega
        · have q1 : (a.kind == 1) = false := by simpa using hk1
          rw [show outL a = PackM.textB a.b from by unfold outL; rw [if_neg hk0, if_neg hk1]] at hsu
          have HSU := Lib.hid hsu
          clear hsu hk0 hk1
          go_wp2_with fail
          refine (Pack.wtext_any w1.heap.size w1.heap.size v (outTo l k) B a.b cb _ HBX.out.wat (by have := HOL.out; omega) hbW H6'.out (by omega) h4 h5 hBne).mono ?_
          rintro e w2 ⟨rfl, v2, hw2, qq, pp⟩
          have y3 := qq.cell X3.out nb
          have hb6 : BytesAt w2 B a.b := qq.bytes' H6'.out (fun h0 x hx hF => by
            rcases hF with e | e
            · exact (hBne h0 x hx).1 e
            · exact (hBne h0 x hx).2 e)
          have hb2 := HBX.out.write hw2 qq pp
          have HB2 := Lib.hid hb2; have HX := Lib.hid hb6
          clear hw2 qq pp hb2 hb6
          go_wp2_with fail
          refine (R06.text_any B a.b cb w2 HX.out h4 h5 (by omega)).mono ?_
          rintro e w3 ⟨X, d, rfl, hd1, hd2, hX, hb3, _⟩
          have HB3 := Lib.hid (HB2.out.keep hb3); have HX := Lib.hid hX
          clear hX
          have hlen4 : (PackM.textB a.b).length ≤ 256 := by rw [PackM.textB_len]; omega
          go_wp2_with (at_builtin; refine wpList_append_at rfl _ _ rfl w1.heap.size _ (outTo l k) (PackM.textB a.b) rfl HB3.out.own X _ _ rfl rfl HX.out (by omega) HB3.out.below.size ?_; intro wv' w4 ha4)
          go_roundw
          case rel => exact ⟨k + 1, v2, by omega, by go_num, by rw [HSU.out]; exact HB3.out.add ha4⟩
          case measure => simp [intOf] <;> omega
    · obtain rfl : k = l.length := by omega
      have HB := Lib.hid hB
      clear hB
      go_wp2_with fail
      have hbw := HB.out.below
      have HBW := Lib.hid hbw
      have hwb := HOL.out
      refine (Pack.wbytes_any _ _ _ _ _ HB.out.wat (by omega)).mono ?_
      rintro e w5 ⟨A1, c1, rfl, hc11, hc12, hA1, hb5, _⟩
      obtain ⟨A2, c3, hv2, hc21, hc22, hA2, _⟩ := (HB.out.own.below hb5).new
      subst hv2
      clear hwb hbw
      have m1 : (outTo l l.length).length ≤ maxLen := by have := HOL.out; unfold maxLen; omega
      have HA1 := Lib.hid hA1; have HA2 := Lib.hid hA2; have M1 := Lib.hid m1
      clear hA1 hA2 hc11 hc12 hc21 hc22
      go_wp2_with fail
      have C := R01.same_any A1 A2 (outTo l l.length) (outTo l l.length) c1 c3 w5 HA1.out HA2.out M1.out M1.out
      rw [same_self] at C
      refine C.mono ?_
      clear C
      rintro e w2 ⟨rfl, hq⟩
      have hb2 := bquiet hq
      clear hq
      go_wp2_with fail
      refine (alive_any _).mono ?_
      rintro e w3 ⟨rfl, hb3⟩
      go_wp2
      go_ret
      exact ⟨rfl, bstep hb1 (bstep HBW.out (bstep hb5 (bstep hb2 hb3)))⟩

/-! the two readers -/
theorem rawL_le (b : List UInt8) (s : PackM.St) (n : Int) : (PackM.rawL b s n).length ≤ b.length := by
  unfold PackM.rawL; split
  · simp
  · simp; omega
theorem textL_le (b : List UInt8) (s : PackM.St) : (PackM.textL b s).length ≤ b.length := rawL_le _ _ _
theorem RAt_keep {F : Nat → Prop} {w w' : World} {g : Nat} {A : Option Addr} {c : Nat} {b : List UInt8} {s : PackM.St} (h : R06.RAt w g A c b s) (q : Keeps F w w') (hg : ¬ F g) (hA : 0 < b.length → ∀ a, A = some a → ¬ F a.block) : R06.RAt w' g A c b s :=
  ⟨q.cell h.cb hg, q.cell h.ca hg, q.cell h.cd hg, q.frozen h.ca hg h.f1, q.frozen h.cd hg h.f2, q.bytes' h.bytes hA, h.ne, h.ok, h.cap, h.cap2⟩
/-- the program's reader and the document's, of the same bytes, which lie ahead of both -/
structure Two (w1 : World) (g1 g2 : Nat) (A1 A : Option Addr) (c : Nat) (b : List UInt8) (s1 s2 : PackM.St) (wr : World) : Prop where
  rd : Pack.RdAt wr g1 A1 b s1
  ra : R06.RAt wr g2 A c b s2
  old : 0 < b.length → ∀ a, A = some a → a.block < w1.heap.size
  n1 : w1.heap.size ≤ g1
  n2 : w1.heap.size ≤ g2
  ne : g1 ≠ g2
  own : 0 < b.length → ∀ a, A1 = some a → a.block ≠ g2
  below : Below w1.heap.size w1 wr
theorem Two.keep {w1 wr w2 : World} {g1 g2 : Nat} {A1 A : Option Addr} {c : Nat} {b : List UInt8} {s1 s2 : PackM.St} (h : Two w1 g1 g2 A1 A c b s1 s2 wr) (hb : Below wr.heap.size wr w2) : Two w1 g1 g2 A1 A c b s1 s2 w2 :=
  ⟨h.rd.below hb, h.ra.below hb, h.old, h.n1, h.n2, h.ne, h.own, bstep h.below hb⟩
theorem Two.first {w1 wr w2 : World} {g1 g2 : Nat} {A1 A : Option Addr} {c : Nat} {b : List UInt8} {s1 s2 s3 : PackM.St} (h : Two w1 g1 g2 A1 A c b s1 s2 wr) (hr : Pack.RdAt w2 g1 A1 b s3) (hg : wr.grownBy w2 (some g1)) : Two w1 g1 g2 A1 A c b s3 s2 w2 :=
  ⟨hr, RAt_keep h.ra (Keeps.grow (F := fun x => x = g1) hg rfl) (Ne.symm h.ne) (fun h0 a e e' => by have := h.old h0 a e; have := h.n1; omega), h.old, h.n1, h.n2, h.ne, h.own, below_grow h.below hg h.n1 h.below.size⟩
theorem Two.second {w1 wr w2 : World} {g1 g2 : Nat} {A1 A : Option Addr} {c : Nat} {b : List UInt8} {s1 s2 s3 : PackM.St} (h : Two w1 g1 g2 A1 A c b s1 s2 wr) (hr : R06.RAt w2 g2 A c b s3) (hg : wr.grownBy w2 (some g2)) : Two w1 g1 g2 A1 A c b s1 s3 w2 :=
  ⟨h.rd.keep (Keeps.grow (F := fun x => x = g2) hg rfl) h.ne h.own, hr, h.old, h.n1, h.n2, h.ne, h.own, below_grow h.below hg h.n2 h.below.size⟩

theorem Two.drewN {w1 wr : World} {g1 g2 : Nat} {A1 A : Option Addr} {c : Nat} {b : List UInt8} {s1 s2 : PackM.St} (h : Two w1 g1 g2 A1 A c b s1 s2 wr) (n : Nat) : Two w1 g1 g2 A1 A c b s1 s2 (wr.drewN n) := h.keep (bdraw _ _)
theorem Two.start {w1 w2 : World} {g1 : Nat} {A1 A : Option Addr} {c : Nat} {b : List UInt8} (hA : BytesAt w1 A b) (hc : b.length ≤ c) (hc2 : c ≤ maxLen) (hr : Pack.RdAt w2 g1 A1 b ⟨0, false⟩) (hb : Below w1.heap.size w1 w2) (hg : w1.heap.size ≤ g1) (t : TypeId) :
    Two w1 g1 w2.heap.size A1 A c b ⟨0, false⟩ ⟨0, false⟩ (w2.alloc (.cells #[.slice A b.length c, .int .i64 0, .bool false] t)) := by
  refine ⟨hr.below (balloc _ _), ⟨by simp, by simp, by simp, by simp, by simp, (hA.below hb).alloc _, fun h0 a e => by have := hA.lt h0 a e; have := hb.size; omega, Nat.zero_le _, hc, hc2⟩, fun h0 => hA.lt h0, hg, hb.size, by have := hr.lt; omega, fun h0 a e => by have := hr.bytes.lt h0 a e; omega, bstep hb (balloc _ _)⟩
/-- what the program's reader has told is still there behind the document's call -/
theorem Two.told {w1 wr w5 w6 : World} {g1 g2 : Nat} {A1 A X : Option Addr} {c : Nat} {b l : List UInt8} {s1 s2 : PackM.St} (h : Two w1 g1 g2 A1 A c b s1 s2 wr) (hX : BytesAt w5 X l) (hs : wr.heap.size ≤ w5.heap.size)
    (hn : 0 < l.length → ∀ a, X = some a → (∃ a0, A1 = some a0 ∧ a.block = a0.block) ∨ wr.heap.size ≤ a.block) (hl : l.length ≤ b.length) (hg : w5.grownBy w6 (some g2)) : BytesAt w6 X l :=
  (Keeps.grow (F := fun x => x = g2) hg rfl).bytes' hX fun h0 a e e' => by
    have h2 := cell_lt h.ra.cb
    simp only at h2
    rcases hn h0 a e with ⟨a0, e1, e2⟩ | e1
    · have := h.own (by omega) a0 e1; omega
    · omega

set_option maxRecDepth 100000 in
set_option maxHeartbeats 2000000 in
theorem reads_any (A0 : Option Addr) (b : List UInt8) (c0 : Nat) (A : Option Addr) (l : List Act6) (c : Nat) (w : World) (hb0 : BytesAt w A0 b) (k0 : b.length ≤ c0) (m0 : c0 ≤ maxLen) (h : ActsAt w A l) (hc : l.length ≤ c) (hc2 : c ≤ maxLen) :
    Calls Try.prog 4 #[.slice A0 b.length c0, .slice A l.length c] w fun e w' => e = .returned (.bool true) ∧ Below w.heap.size w w' := by
  have M0 := Lib.hid m0
  have hl : l.length ≤ 9223372036854775807 := by unfold maxLen at hc2; omega
  unfold maxLen at m0
  by_cases hbl : 300 < b.length
  · go_enter Try.func4, Try.ntmps4
    go_wp2_with fail
    refine (alive_any _).mono ?_
    rintro e w2 ⟨rfl, hb2⟩
    go_wp2
    go_ret
    exact ⟨rfl, hb2⟩
  rcases hlt : lightB l with _ | _
  · have C := heavy_any A l c w h hl hlt
    clear hlt
    go_enter Try.func4, Try.ntmps4
    go_wp2_with fail
    refine C.mono ?_
    clear C
    rintro e w1 ⟨rfl, hb1⟩
    go_wp2_with fail
    refine (alive_any _).mono ?_
    rintro e w2 ⟨rfl, hb2⟩
    go_wp2
    go_ret
    exact ⟨rfl, bstep hb1 hb2⟩
  have C := light_any A l c w h hl
  obtain ⟨hs1, hs2⟩ := (lightB_iff l).1 hlt
  rw [hlt] at C
  have HS := Lib.hid hs1; have HB0 := Lib.hid hb0
  clear hlt hs1
  go_enter Try.func4, Try.ntmps4
  go_wp2_with fail
  refine C.mono ?_
  clear C
  rintro e w1 ⟨rfl, hb1⟩
  have H := Lib.hid (h.below hb1); have HB1 := Lib.hid (hb0.below hb1)
  clear h hb0
  go_wp2_with fail
  refine (Pack.read_any A0 b c0 w1 HB1.out (by omega)).mono ?_
  rintro e w2 ⟨g1, A1, rfl, hr2, hb2, hg2, _⟩
  have HR := Lib.hid hr2
  clear hr2
  go_wp2_with fail
  have hb3 : b.length ≤ 1048576 := by omega
  have HTW := Lib.hid (Two.start HB1.out k0 M0.out HR.out hb2 hg2 40)
  clear HR HB1 HB0
  go_loopw [27] (fun i wr => ∃ (k : Nat) (s : PackM.St), k ≤ l.length ∧ i = .int .i64 k ∧ Two w1 g1 w2.heap.size A1 A0 c0 b s s wr)
    (fun i _ => l.length - (intOf i).toNat)
  case atStart => exact ⟨0, _, Nat.zero_le _, rfl, HTW.out⟩
  case round =>
    obtain ⟨k, s, hk, rfl, hB⟩ := hrel
    clear HTW
    rename World => w0
    by_cases hlt : k < l.length
    · obtain ⟨x, o, B, cb, hA, e0, e1, e2, e3, h4, h5, h6, h7, h8, h9⟩ := H.out.below hB.below k hlt
      subst hA
      have HB := Lib.hid hB
      clear hB h6
      generalize l[k] = a at *
      have x1 : (w0.alloc (.cells #[.int .i64 a.kind, .int .i64 a.k, .int .i64 a.n, .slice B a.b.length cb] 29)).cell? ⟨w0.heap.size, 1, none⟩ = some (.int .i64 a.k) := by simp
      have x2 : (w0.alloc (.cells #[.int .i64 a.kind, .int .i64 a.k, .int .i64 a.n, .slice B a.b.length cb] 29)).cell? ⟨w0.heap.size, 2, none⟩ = some (.int .i64 a.n) := by simp
      have hbx := HB.out.keep (balloc w0 (.cells #[.int .i64 a.kind, .int .i64 a.k, .int .i64 a.n, .slice B a.b.length cb] 29))
      have HBX := Lib.hid hbx; have X1 := Lib.hid x1; have X2 := Lib.hid x2
      have hn1 : w0.heap.size ≠ g1 := by have := HB.out.rd.lt; omega
      have hn2 : w0.heap.size ≠ w2.heap.size := by have := cell_lt HB.out.ra.cb; simp only at this; omega
      clear hbx x1 x2
      obtain ⟨u1, u2⟩ := h8
      obtain ⟨u3, u4⟩ := h9
      by_cases hk0 : a.kind = 0
      · have q0 : (a.kind == 0) = true := by simp [hk0]
        clear hk0
        go_wp2
        generalize w0.alloc (.cells #[.int .i64 a.kind, .int .i64 a.k, .int .i64 a.n, .slice B a.b.length cb] 29) = W at HBX X1 X2 ⊢
        have x1 := X1.out
        go_region_held3 (fun w' => w'.cell? ⟨w0.heap.size, 1, none⟩ = some (.int .i64 a.k)) (first | (exact x1c) | (exact x1b) | (exact x1) | go_keep) ((first
          | (go_simp; go_at_call 16; refine (Pack.rnum_any g1 A1 b s a.k _ (HBX.out.drewN _).rd hb3).mono ?_; rintro e w5 ⟨rfl, hr5, hg5⟩; have t5 := (HBX.out.drewN _).first hr5 hg5; have x1b := (Keeps.grow (F := fun y => y = g1) hg5 rfl).cell (p := ⟨w0.heap.size, 1, none⟩) X1.out hn1; have T5 := Lib.hid t5; clear t5 hr5 hg5)
          | (go_simp; go_at_call 17; refine (R06.rnum_any w2.heap.size A0 c0 b s a.k _ T5.out.ra (by omega)).mono ?_; rintro e w6 ⟨rfl, hr6, hg6⟩; have t6 := T5.out.second hr6 hg6; have x1c := (Keeps.grow (F := fun y => y = w2.heap.size) hg6 rfl).cell (p := ⟨w0.heap.size, 1, none⟩) x1b hn2; have HT2 := Lib.hid t6; clear t6 hr6 hg6)))
        all_goals
          generalize PackM.numS b s a.k = s2 at HT2
          generalize PackM.numV b s a.k = v1
          obtain ⟨at2, bad2⟩ := s2
          have hok2 : at2 ≤ b.length := HT2.out.ra.ok
          have z1 := HT2.out.ra.ca
          have z2 := HT2.out.ra.cd
          have i1 : IntKind.i64.wrap ((b.length : Int) - at2) = (b.length : Int) - at2 := IntWalk.i64_in _ (by omega)
          cases bad2
          · by_cases hz : b.length - at2 = 0
            · have q5 : (((b.length : Int) - at2) == 0) = true := by rw [beq_iff_eq]; omega
              have D := fun W h => Pack.done_any g1 A1 b ⟨at2, false⟩ W h hb3
              rw [show (!(⟨at2, false⟩ : PackM.St).bad && decide (b.length - (⟨at2, false⟩ : PackM.St).at_ = 0)) = true from by simp [hz]] at D
              have HD := Lib.hid D
              clear D hz
              go_wp2
              go_quiet (first
                | (go_at_call 22; exact Calls.quiet_of (Pack.left_any g1 A1 b ⟨at2, false⟩ _ (HT2.out.drewN _).rd hb3))
                | (go_at_call 23; exact Calls.quiet_of (Pack.good_any g1 A1 b ⟨at2, false⟩ _ (HT2.out.drewN _).rd))
                | (go_at_call 24; exact Calls.quiet_of (HD.out _ (HT2.out.drewN _).rd)))
              go_wp2
              go_roundw
              case rel => exact ⟨k + 1, ⟨at2, false⟩, by omega, by go_num, HT2.out.drewN _⟩
              case measure => simp [intOf] <;> omega
            · have q5 : (((b.length : Int) - at2) == 0) = false := by rw [beq_eq_false_iff_ne]; omega
              have D := fun W h => Pack.done_any g1 A1 b ⟨at2, false⟩ W h hb3
              rw [show (!(⟨at2, false⟩ : PackM.St).bad && decide (b.length - (⟨at2, false⟩ : PackM.St).at_ = 0)) = false from by simp [hz]] at D
              have HD := Lib.hid D
              clear D hz
              go_wp2
              go_quiet (first
                | (go_at_call 22; exact Calls.quiet_of (Pack.left_any g1 A1 b ⟨at2, false⟩ _ (HT2.out.drewN _).rd hb3))
                | (go_at_call 23; exact Calls.quiet_of (Pack.good_any g1 A1 b ⟨at2, false⟩ _ (HT2.out.drewN _).rd))
                | (go_at_call 24; exact Calls.quiet_of (HD.out _ (HT2.out.drewN _).rd)))
              go_wp2
              go_roundw
              case rel => exact ⟨k + 1, ⟨at2, false⟩, by omega, by go_num, HT2.out.drewN _⟩
              case measure => simp [intOf] <;> omega
          · have HD := Lib.hid fun W h => Pack.done_any g1 A1 b ⟨at2, true⟩ W h hb3
            go_wp2
            go_quiet (first
              | (go_at_call 22; exact Calls.quiet_of (Pack.left_any g1 A1 b ⟨at2, true⟩ _ (HT2.out.drewN _).rd hb3))
              | (go_at_call 23; exact Calls.quiet_of (Pack.good_any g1 A1 b ⟨at2, true⟩ _ (HT2.out.drewN _).rd))
              | (go_at_call 24; exact Calls.quiet_of (HD.out _ (HT2.out.drewN _).rd)))
            go_wp2
            go_roundw
            case rel => exact ⟨k + 1, ⟨at2, true⟩, by omega, by go_num, HT2.out.drewN _⟩
            case measure => simp [intOf] <;> omega
      · have q0 : (a.kind == 0) = false := by simpa using hk0
        by_cases hk1 : a.kind = 1
        · have q1 : (a.kind == 1) = true := by simp [hk1]
          clear hk1 hk0
          have hml : (PackM.rawL b s a.n).length ≤ maxLen := by have := rawL_le b s a.n; unfold maxLen; omega
          have hml2 := rawL_le b s a.n
          have HML := Lib.hid hml
          go_wp2
          generalize w0.alloc (.cells #[.int .i64 a.kind, .int .i64 a.k, .int .i64 a.n, .slice B a.b.length cb] 29) = W at HBX X1 X2 ⊢
          have x1 := X2.out
          go_region_held3 (fun w' => w'.cell? ⟨w0.heap.size, 2, none⟩ = some (.int .i64 a.n)) (first | (exact x1d) | (exact x1c) | (exact x1b) | (exact x1) | go_keep) ((first
            | (go_simp; go_at_call 18; refine (Pack.rraw_any g1 A1 b s a.n _ (HBX.out.drewN _).rd ⟨u3, u4⟩ hb3).mono ?_; rintro e w5 ⟨Y1, d1, rfl, hY1, _, _, hn5, hr5, hg5⟩; have t5 := (HBX.out.drewN _).first hr5 hg5; have x1b := (Keeps.grow (F := fun y => y = g1) hg5 rfl).cell (p := ⟨w0.heap.size, 2, none⟩) X2.out hn1; have T5 := Lib.hid t5; have HY1 := Lib.hid hY1; have HN5 := Lib.hid hn5; have hs5 := hg5.size; clear t5 hr5 hg5 hY1 hn5)
            | (go_simp; go_at_call 19; refine (R06.raw_any w2.heap.size A0 c0 b s a.n _ T5.out.ra ⟨u3, u4⟩ (by omega)).mono ?_; rintro e w6 ⟨Y2, d2, rfl, hY2, _, _, _, hr6, hg6⟩; have t6 := T5.out.second hr6 hg6; have x1c := (Keeps.grow (F := fun y => y = w2.heap.size) hg6 rfl).cell (p := ⟨w0.heap.size, 2, none⟩) x1b hn2; have hY3 := (HBX.out.drewN _).told HY1.out hs5 HN5.out hml2 hg6; have T6 := Lib.hid t6; have HY2 := Lib.hid hY2; have HY3 := Lib.hid hY3; clear t6 hr6 hg6 hY2 hY3)
            | (go_simp; go_at_call 13; have C := R01.same_any Y1 Y2 (PackM.rawL b s a.n) (PackM.rawL b s a.n) d1 d2 w6 HY3.out HY2.out HML.out HML.out; rw [same_self] at C; refine C.mono ?_; clear C; rintro e w7 ⟨rfl, hq⟩; have hb7 := bquiet hq; have x1d := (hb7.cell (p := ⟨w0.heap.size, 2, none⟩) (cell_lt x1c)).trans x1c; have HT2 := Lib.hid (T6.out.keep hb7); clear hq)))
          all_goals
            generalize PackM.rawS b s a.n = s2 at HT2
            obtain ⟨at2, bad2⟩ := s2
            have hok2 : at2 ≤ b.length := HT2.out.ra.ok
            have z1 := HT2.out.ra.ca
            have z2 := HT2.out.ra.cd
            have i1 : IntKind.i64.wrap ((b.length : Int) - at2) = (b.length : Int) - at2 := IntWalk.i64_in _ (by omega)
            cases bad2
            · by_cases hz : b.length - at2 = 0
              · have q5 : (((b.length : Int) - at2) == 0) = true := by rw [beq_iff_eq]; omega
                have D := fun W h => Pack.done_any g1 A1 b ⟨at2, false⟩ W h hb3
                rw [show (!(⟨at2, false⟩ : PackM.St).bad && decide (b.length - (⟨at2, false⟩ : PackM.St).at_ = 0)) = true from by simp [hz]] at D
                have HD := Lib.hid D
                clear D hz
                go_wp2
                go_quiet (first
                  | (go_at_call 22; exact Calls.quiet_of (Pack.left_any g1 A1 b ⟨at2, false⟩ _ (HT2.out.drewN _).rd hb3))
                  | (go_at_call 23; exact Calls.quiet_of (Pack.good_any g1 A1 b ⟨at2, false⟩ _ (HT2.out.drewN _).rd))
                  | (go_at_call 24; exact Calls.quiet_of (HD.out _ (HT2.out.drewN _).rd)))
                go_wp2
                go_roundw
                case rel => exact ⟨k + 1, ⟨at2, false⟩, by omega, by go_num, HT2.out.drewN _⟩
                case measure => simp [intOf] <;> omega
              · have q5 : (((b.length : Int) - at2) == 0) = false := by rw [beq_eq_false_iff_ne]; omega
                have D := fun W h => Pack.done_any g1 A1 b ⟨at2, false⟩ W h hb3
                rw [show (!(⟨at2, false⟩ : PackM.St).bad && decide (b.length - (⟨at2, false⟩ : PackM.St).at_ = 0)) = false from by simp [hz]] at D
                have HD := Lib.hid D
                clear D hz
                go_wp2
                go_quiet (first
                  | (go_at_call 22; exact Calls.quiet_of (Pack.left_any g1 A1 b ⟨at2, false⟩ _ (HT2.out.drewN _).rd hb3))
                  | (go_at_call 23; exact Calls.quiet_of (Pack.good_any g1 A1 b ⟨at2, false⟩ _ (HT2.out.drewN _).rd))
                  | (go_at_call 24; exact Calls.quiet_of (HD.out _ (HT2.out.drewN _).rd)))
                go_wp2
                go_roundw
                case rel => exact ⟨k + 1, ⟨at2, false⟩, by omega, by go_num, HT2.out.drewN _⟩
                case measure => simp [intOf] <;> omega
            · have HD := Lib.hid fun W h => Pack.done_any g1 A1 b ⟨at2, true⟩ W h hb3
              go_wp2
              go_quiet (first
                | (go_at_call 22; exact Calls.quiet_of (Pack.left_any g1 A1 b ⟨at2, true⟩ _ (HT2.out.drewN _).rd hb3))
                | (go_at_call 23; exact Calls.quiet_of (Pack.good_any g1 A1 b ⟨at2, true⟩ _ (HT2.out.drewN _).rd))
                | (go_at_call 24; exact Calls.quiet_of (HD.out _ (HT2.out.drewN _).rd)))
              go_wp2
              go_roundw
              case rel => exact ⟨k + 1, ⟨at2, true⟩, by omega, by go_num, HT2.out.drewN _⟩
              case measure => simp [intOf] <;> omega
        · have q1 : (a.kind == 1) = false := by simpa using hk1
          clear hk1 hk0
          have hml : (PackM.textL b s).length ≤ maxLen := by have := textL_le b s; unfold maxLen; omega
          have hml2 := textL_le b s
          have HML := Lib.hid hml
          go_wp2_with fail
          generalize w0.alloc (.cells #[.int .i64 a.kind, .int .i64 a.k, .int .i64 a.n, .slice B a.b.length cb] 29) = W at HBX X1 X2 ⊢
          refine (Pack.rtext_any g1 A1 b s W HBX.out.rd hb3).mono ?_
          rintro e w5 ⟨Y1, d1, rfl, hY1, _, _, hn5, hr5, hg5⟩
          have T5 := Lib.hid (HBX.out.first hr5 hg5)
          have hs5 := hg5.size
          have HY1 := Lib.hid hY1; have HN5 := Lib.hid hn5
          clear hr5 hg5 hY1 hn5
          go_wp2_with fail
          refine (R06.rtext_any w2.heap.size A0 c0 b s w5 T5.out.ra (by omega)).mono ?_
          rintro e w6 ⟨Y2, d2, rfl, hY2, _, _, _, hr6, hg6⟩
          have T6 := Lib.hid (T5.out.second hr6 hg6)
          have HY3 := Lib.hid (HBX.out.told HY1.out hs5 HN5.out hml2 hg6)
          have HY2 := Lib.hid hY2
          clear hr6 hg6 hY2
          go_wp2_with fail
          have C := R01.same_any Y1 Y2 (PackM.textL b s) (PackM.textL b s) d1 d2 w6 HY3.out HY2.out HML.out HML.out
          rw [same_self] at C
          refine C.mono ?_
          clear C
          rintro e w7 ⟨rfl, hq⟩
          have HT2 := Lib.hid (T6.out.keep (bquiet hq))
          clear hq
          generalize PackM.textS b s = s2 at HT2
          obtain ⟨at2, bad2⟩ := s2
          have hok2 : at2 ≤ b.length := HT2.out.ra.ok
          have z1 := HT2.out.ra.ca
          have z2 := HT2.out.ra.cd
          have i1 : IntKind.i64.wrap ((b.length : Int) - at2) = (b.length : Int) - at2 := IntWalk.i64_in _ (by omega)
          cases bad2
          · by_cases hz : b.length - at2 = 0
            · have q5 : (((b.length : Int) - at2) == 0) = true := by rw [beq_iff_eq]; omega
              have D := fun W h => Pack.done_any g1 A1 b ⟨at2, false⟩ W h hb3
              rw [show (!(⟨at2, false⟩ : PackM.St).bad && decide (b.length - (⟨at2, false⟩ : PackM.St).at_ = 0)) = true from by simp [hz]] at D
              have HD := Lib.hid D
              clear D hz
              go_wp2
              go_quiet (first
                | (go_at_call 22; exact Calls.quiet_of (Pack.left_any g1 A1 b ⟨at2, false⟩ _ (HT2.out.drewN _).rd hb3))
                | (go_at_call 23; exact Calls.quiet_of (Pack.good_any g1 A1 b ⟨at2, false⟩ _ (HT2.out.drewN _).rd))
                | (go_at_call 24; exact Calls.quiet_of (HD.out _ (HT2.out.drewN _).rd)))
              go_wp2
              go_roundw
              case rel => exact ⟨k + 1, ⟨at2, false⟩, by omega, by go_num, HT2.out.drewN _⟩
              case measure => simp [intOf] <;> omega
            · have q5 : (((b.length : Int) - at2) == 0) = false := by rw [beq_eq_false_iff_ne]; omega
              have D := fun W h => Pack.done_any g1 A1 b ⟨at2, false⟩ W h hb3
              rw [show (!(⟨at2, false⟩ : PackM.St).bad && decide (b.length - (⟨at2, false⟩ : PackM.St).at_ = 0)) = false from by simp [hz]] at D
              have HD := Lib.hid D
              clear D hz
              go_wp2
              go_quiet (first
                | (go_at_call 22; exact Calls.quiet_of (Pack.left_any g1 A1 b ⟨at2, false⟩ _ (HT2.out.drewN _).rd hb3))
                | (go_at_call 23; exact Calls.quiet_of (Pack.good_any g1 A1 b ⟨at2, false⟩ _ (HT2.out.drewN _).rd))
                | (go_at_call 24; exact Calls.quiet_of (HD.out _ (HT2.out.drewN _).rd)))
              go_wp2
              go_roundw
              case rel => exact ⟨k + 1, ⟨at2, false⟩, by omega, by go_num, HT2.out.drewN _⟩
              case measure => simp [intOf] <;> omega
          · have HD := Lib.hid fun W h => Pack.done_any g1 A1 b ⟨at2, true⟩ W h hb3
            go_wp2
            go_quiet (first
              | (go_at_call 22; exact Calls.quiet_of (Pack.left_any g1 A1 b ⟨at2, true⟩ _ (HT2.out.drewN _).rd hb3))
              | (go_at_call 23; exact Calls.quiet_of (Pack.good_any g1 A1 b ⟨at2, true⟩ _ (HT2.out.drewN _).rd))
              | (go_at_call 24; exact Calls.quiet_of (HD.out _ (HT2.out.drewN _).rd)))
            go_wp2
            go_roundw
            case rel => exact ⟨k + 1, ⟨at2, true⟩, by omega, by go_num, HT2.out.drewN _⟩
            case measure => simp [intOf] <;> omega
    · obtain rfl : k = l.length := by omega
      have hbw := hB.below
      have HBW := Lib.hid hbw
      clear hB hbw
      go_wp2_with fail
      refine (Pack.rnum_nil 2 w0).mono ?_
      rintro e w4 ⟨rfl, hq⟩
      have hb4 := bquiet hq
      clear hq
      go_wp2_with fail
      refine (Pack.rraw_nil 3 w4).mono ?_
      rintro e w5 ⟨⟨cn, rfl⟩, hq⟩
      have hb5 := bquiet hq
      clear hq
      go_wp2_with fail
      refine (Pack.left_nil w5).mono ?_
      rintro e w6 ⟨rfl, hq⟩
      have hb6 := bquiet hq
      clear hq
      go_wp2_with fail
      refine (Pack.good_nil w6).mono ?_
      rintro e w7 ⟨rfl, hq⟩
      have hb7 := bquiet hq
      clear hq
      go_wp2_with fail
      refine (Pack.done_nil w7).mono ?_
      rintro e w8 ⟨rfl, hq⟩
      have hb8 := bquiet hq
      clear hq
      go_wp2_with fail
      refine (alive_any w8).mono ?_
      rintro e w9 ⟨rfl, hb9⟩
      go_wp2
      go_ret
      exact ⟨rfl, bstep hb1 (bstep HBW.out (bstep hb4 (bstep hb5 (bstep hb6 (bstep hb7 (bstep hb8 hb9))))))⟩
end Go.Proofs.Ytpeldafbgcjefaa.Law06
