/- package super: what bytes say -/
import Derived.Test.YtmpkcnbphlfdcaaSupA
set_option maxRecDepth 100000
namespace Go.Proofs.Ytmpkcnbphlfdcaa.Super
open Go.RowKit SupM

/-- where it lies and may be written -/
structure SpW (w : World) (g : Nat) (F D S : Int) : Prop where
  sp : SpAt w g F D S
  f0 : w.frozen? ⟨g, 0, none⟩ = false
  f1 : w.frozen? ⟨g, 1, none⟩ = false
  f2 : w.frozen? ⟨g, 2, none⟩ = false
theorem SpW.keep {K : Nat → Prop} {w w' : World} {g : Nat} {F D S : Int} (h : SpW w g F D S) (q : Keeps K w w') (hg : ¬ K g) : SpW w' g F D S :=
  ⟨h.sp.keep q hg, q.frozen h.sp.c0 hg h.f0, q.frozen h.sp.c1 hg h.f1, q.frozen h.sp.c2 hg h.f2⟩
theorem SpW.below {w w' : World} {g : Nat} {F D S : Int} (h : SpW w g F D S) (hb : Below w.heap.size w w') : SpW w' g F D S := h.keep (F := F) (.of_below (fun _ => False) hb) id
theorem SpW.new (w : World) (F D S : Int) (t : TypeId) : SpW (w.alloc (.cells #[.int .i64 F, .int .i64 D, .int .i64 S] t)) w.heap.size F D S :=
  ⟨SpAt.new w F D S t, by simp, by simp, by simp⟩
theorem SpW.set0 {w : World} {g : Nat} {F D S : Int} (h : SpW w g F D S) (x : Int) : SpW (w.setCell ⟨g, 0, none⟩ (.int .i64 x)) g x D S :=
  ⟨⟨by rw [cell_store h.sp.c0]; rfl, by rw [cell_store h.sp.c1]; rfl, by rw [cell_store h.sp.c2]; rfl⟩, by rw [World.frozen?_setCell]; exact h.f0, by rw [World.frozen?_setCell]; exact h.f1, by rw [World.frozen?_setCell]; exact h.f2⟩
theorem SpW.set1 {w : World} {g : Nat} {F D S : Int} (h : SpW w g F D S) (x : Int) : SpW (w.setCell ⟨g, 1, none⟩ (.int .i64 x)) g F x S :=
  ⟨⟨by rw [cell_store h.sp.c0]; rfl, by rw [cell_store h.sp.c1]; rfl, by rw [cell_store h.sp.c2]; rfl⟩, by rw [World.frozen?_setCell]; exact h.f0, by rw [World.frozen?_setCell]; exact h.f1, by rw [World.frozen?_setCell]; exact h.f2⟩
theorem SpW.set2 {w : World} {g : Nat} {F D S : Int} (h : SpW w g F D S) (x : Int) : SpW (w.setCell ⟨g, 2, none⟩ (.int .i64 x)) g F D x :=
  ⟨⟨by rw [cell_store h.sp.c0]; rfl, by rw [cell_store h.sp.c1]; rfl, by rw [cell_store h.sp.c2]; rfl⟩, by rw [World.frozen?_setCell]; exact h.f0, by rw [World.frozen?_setCell]; exact h.f1, by rw [World.frozen?_setCell]; exact h.f2⟩
/-- the whole of it stored -/
def put3 (w : World) (g : Nat) (x y z : Int) : World := ((w.setCell ⟨g, 0, none⟩ (.int .i64 x)).setCell ⟨g, 1, none⟩ (.int .i64 y)).setCell ⟨g, 2, none⟩ (.int .i64 z)
theorem SpW.set {w : World} {g : Nat} {F D S : Int} (h : SpW w g F D S) (x y z : Int) : SpW (put3 w g x y z) g x y z := ((h.set0 x).set1 y).set2 z

theorem put3_keeps (w : World) (g : Nat) (x y z : Int) : Keeps (fun k => k = g) w (put3 w g x y z) := .trans (.trans (.set _ _ ⟨g, 0, none⟩ (.int .i64 x) rfl) (.set _ _ ⟨g, 1, none⟩ (.int .i64 y) rfl)) (.set _ _ ⟨g, 2, none⟩ (.int .i64 z) rfl)
/-- between a Reader's calls: where it is, what has been told, and the result's block -/
structure Rdr (w0 w : World) (g p q : Nat) (A : Option Addr) (b : List UInt8) (s : PackM.St) (F D S : Int) : Prop where
  rd : Pack.RdAt w g A b s
  below : Below w0.heap.size w0 w
  first : w0.heap.size ≤ q
  ne : q < p
  ne2 : p < g
  nb : 0 < b.length → ∀ a, A = some a → p < a.block
  sp : SpW w p F D S
  rs : SpW w q 0 0 0
theorem Rdr.grown {w0 w w' : World} {g p q : Nat} {A : Option Addr} {b : List UInt8} {s s' : PackM.St} {F D S : Int} (h : Rdr w0 w g p q A b s F D S) (r : Pack.RdAt w' g A b s') (k : w.grownBy w' (some g)) : Rdr w0 w' g p q A b s' F D S := by
  have hn := h.ne; have hn2 := h.ne2; have hf := h.first
  have q1 : Keeps (fun x => x = g) w w' := .grow k rfl
  exact ⟨r, below_keeps h.below q1 (fun x e => by omega) h.below.size, hf, hn, hn2, h.nb, h.sp.keep q1 (by omega), h.rs.keep q1 (by omega)⟩
theorem Rdr.stored {w0 w w' : World} {g p q : Nat} {A : Option Addr} {b : List UInt8} {s : PackM.St} {F D S F' D' S' : Int} (h : Rdr w0 w g p q A b s F D S) (k : Keeps (fun x => x = p) w w') (r : SpW w' p F' D' S') : Rdr w0 w' g p q A b s F' D' S' := by
  have hn := h.ne; have hn2 := h.ne2; have hf := h.first
  exact ⟨h.rd.keep k (by omega) (fun h0 a e => by have := h.nb h0 a e; omega), below_keeps h.below k (fun x e => by omega) h.below.size, hf, hn, hn2, h.nb, r, h.rs.keep k (by omega)⟩
theorem said_any (A : Option Addr) (b : List UInt8) (c : Nat) (w : World) (h : BytesAt w A b) (hbl : b.length ≤ 1048576) :
    Calls Try.prog 20 #[.slice A b.length c] w fun e w' => e = .returned (.agg #[.int .i64 (saidOf b).F, .int .i64 (saidOf b).D, .int .i64 (saidOf b).S]) ∧ Below w.heap.size w w' := by
  have C0 := Lib.hid (fun W h => Pack.read_any A b c W h hbl)
  have C1 := Lib.hid (fun W g X h => Pack.rraw_any g X b st0 1 W h (by omega) hbl)
  have C2 := Lib.hid (fun W g X h => Pack.rnum_any g X b (st1 b) 1 W h hbl)
  have C3 := Lib.hid (fun W g X h => Pack.rnum_any g X b (st2 b) 4 W h hbl)
  have C4 := Lib.hid (fun W g X h => Pack.rnum_any g X b (st3 b) 4 W h hbl)
  have e0 : (⟨0, false⟩ : PackM.St) = st0 := rfl
  have e1 : PackM.rawS b st0 1 = st1 b := rfl
  have e2 : PackM.numS b (st1 b) 1 = st2 b := rfl
  have e3 : PackM.numS b (st2 b) 4 = st3 b := rfl
  have e4 : PackM.numS b (st3 b) 4 = st4 b := rfl
  have v1 : (saidOf b).F = (PackM.numV b (st2 b) 4 : Nat) := rfl
  have v2 : (saidOf b).D = (PackM.numV b (st3 b) 4 : Nat) := rfl
  have v3 : (saidOf b).S = (PackM.numV b (st1 b) 1 : Nat) := rfl
  rw [e0] at C0; rw [e1] at C1; rw [e2] at C2; rw [e3] at C3; rw [e4] at C4; rw [v1, v2, v3]
  have H := Lib.hid h
  clear e0 e1 e2 e3 e4 v1 v2 v3 h
  generalize PackM.numV b (st1 b) 1 = v1 at *
  generalize PackM.numV b (st2 b) 4 = v2 at *
  generalize PackM.numV b (st3 b) 4 = v3 at *
  generalize st1 b = s1 at *
  generalize st2 b = s2 at *
  generalize st3 b = s3 at *
  generalize st4 b = s4 at *
  generalize st0 = s0 at *
  go_enter Try.func20, Try.ntmps20
  go_wp2_with fail
  have hq0 := (SpW.new w 0 0 0 23).below (balloc _ (.cells #[.int .i64 0, .int .i64 0, .int .i64 0] 23))
  have hp0 := SpW.new (w.alloc (.cells #[.int .i64 0, .int .i64 0, .int .i64 0] 23)) 0 0 0 23
  have e : (w.alloc (.cells #[.int .i64 0, .int .i64 0, .int .i64 0] 23)).heap.size = w.heap.size + 1 := by simp
  have e2 : ((w.alloc (.cells #[.int .i64 0, .int .i64 0, .int .i64 0] 23)).alloc (.cells #[.int .i64 0, .int .i64 0, .int .i64 0] 23)).heap.size = w.heap.size + 2 := by simp
  have hb0 := bstep (balloc w (.cells #[.int .i64 0, .int .i64 0, .int .i64 0] 23)) (balloc _ (.cells #[.int .i64 0, .int .i64 0, .int .i64 0] 23))
  rw [e] at hp0
  obtain ⟨p, hp⟩ : ∃ p, p = w.heap.size + 1 := ⟨_, rfl⟩
  obtain ⟨q, hq⟩ : ∃ q, q = w.heap.size := ⟨_, rfl⟩
  rw [← hp] at hp0 ⊢
  rw [← hq] at hq0 ⊢
  generalize (w.alloc (.cells #[.int .i64 0, .int .i64 0, .int .i64 0] 23)).alloc (.cells #[.int .i64 0, .int .i64 0, .int .i64 0] 23) = w1 at *
  have HP := Lib.hid hp; have HQ := Lib.hid hq; have HE := Lib.hid e2
  have SP := Lib.hid hp0; have SQ := Lib.hid hq0; have HB := Lib.hid hb0
  clear hp hq hp0 hq0 hb0 e e2
  refine (C0.out w1 (H.out.below HB.out)).mono ?_
  rintro e w2 ⟨g, A', rfl, hr, hb, hg, hn⟩
  have R2 : Hid (Rdr w w2 g p q A' b s0 0 0 0) := Lib.hid (by
    have h1 := HP.out; have h2 := HQ.out; have h3 := HE.out
    exact ⟨hr, bstep HB.out hb, by omega, by omega, by omega, fun h0 a ea => by have := hn a ea; omega, SP.out.below hb, SQ.out.below hb⟩)
  clear hr hb hg hn HP HQ HE SP SQ HB C0 H
  go_wp2_with fail
  refine (C1.out w2 g A' R2.out.rd).mono ?_
  rintro e w3 ⟨X, d, rfl, -, -, -, -, k1, k2⟩
  have R3 := Lib.hid (R2.out.grown k1 k2)
  clear k1 k2 R2 C1
  go_wp2_with fail
  refine (C2.out w3 g A' R3.out.rd).mono ?_
  rintro e w4 ⟨rfl, k1, k2⟩
  have R4 := Lib.hid (R3.out.grown k1 k2)
  have c2 := R4.out.sp.sp.c2; have f2 := R4.out.sp.f2
  have R5 := Lib.hid (R4.out.stored (.set (fun x => x = p) _ ⟨p, 2, none⟩ (.int .i64 v1) rfl) (R4.out.sp.set2 v1))
  clear k1 k2 R3 C2 R4
  go_wp2_with fail
  refine (C3.out _ g A' R5.out.rd).mono ?_
  rintro e w5 ⟨rfl, k1, k2⟩
  have R6 := Lib.hid (R5.out.grown k1 k2)
  have c0 := R6.out.sp.sp.c0; have f0 := R6.out.sp.f0
  have R7 := Lib.hid (R6.out.stored (.set (fun x => x = p) _ ⟨p, 0, none⟩ (.int .i64 v2) rfl) (R6.out.sp.set0 v2))
  clear k1 k2 R5 C3 R6 c2 f2
  go_wp2_with fail
  refine (C4.out _ g A' R7.out.rd).mono ?_
  rintro e w6 ⟨rfl, k1, k2⟩
  have R8 := Lib.hid (R7.out.grown k1 k2)
  have c0 := R8.out.sp.sp.c0; have c1 := R8.out.sp.sp.c1; have c2 := R8.out.sp.sp.c2; have f1 := R8.out.sp.f1
  have d0 := R8.out.rs.sp.c0; have d1 := R8.out.rs.sp.c1; have d2 := R8.out.rs.sp.c2; have g0 := R8.out.rs.f0; have g1 := R8.out.rs.f1; have g2 := R8.out.rs.f2
  have n1 : ¬ p = q := by have := R8.out.ne; omega
  have n2 : ¬ q = p := fun e => n1 e.symm
  have R9 := Lib.hid (R8.out.stored (.set (fun x => x = p) _ ⟨p, 1, none⟩ (.int .i64 v3) rfl) (R8.out.sp.set1 v3))
  clear k1 k2 R7 C4 R8 f0
  go_wp2_with fail
  have hs := (R9.out.rs.set v2 v3 v1).sp
  have hb := below_keeps R9.out.below (put3_keeps _ q v2 v3 v1) (fun x e => by have := R9.out.first; omega) R9.out.below.size
  exact Go.bodyPost_ret (results_sup1 rfl _ _ q v2 v3 v1 rfl hs) rfl ⟨rfl, hb⟩
end Go.Proofs.Ytmpkcnbphlfdcaa.Super
