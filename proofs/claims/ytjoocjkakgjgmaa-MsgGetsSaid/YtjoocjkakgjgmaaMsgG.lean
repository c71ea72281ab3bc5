/- package msg: said -/
import Derived.Test.YtjoocjkakgjgmaaMsgF
set_option maxRecDepth 100000
set_option maxHeartbeats 20000000
namespace Go.Proofs.Ytjoocjkakgjgmaa.Msg
open Go.RowKit MsgM
open R07 (StrsAt Sane)

theorem keeps_set {F : Nat → Prop} {w0 w w' : World} {p : Nat} (k : Keeps F w0 w) (q : Keeps (fun i => i = p) w w') (hp : w0.heap.size ≤ p) : Keeps F w0 w' :=
  ⟨q.os.trans k.os, q.tape.trans k.tape, q.output.trans k.output, Nat.le_trans k.size q.size, fun i hi hf => (q.block i (Nat.lt_of_lt_of_le hi k.size) (fun e => by have : i = p := e; omega)).trans (k.block i hi hf)⟩
theorem rawL_le (b : List UInt8) (s : PackM.St) (n : Int) : (PackM.rawL b s n).length ≤ b.length := by
  unfold PackM.rawL
  split
  · exact Nat.zero_le _
  · rw [List.length_take, List.length_drop]; omega
/-- between a Reader's calls: where it is, what has been told, and the result's block -/
structure Rdr (w0 w : World) (g f1 f2 q p : Nat) (A : Option Addr) (b : List UInt8) (s : PackM.St) (x : Mv) : Prop where
  rd : Pack.RdAt w g A b s
  keep : Keeps (fun k => k = g) w0 w
  gl : g < w0.heap.size
  n0 : w0.heap.size ≤ f1
  n1 : f1 < f2
  n2 : f2 < q
  n3 : q < p
  nb : 0 < b.length → ∀ a, A = some a → a.block < w0.heap.size
  c1 : w.cell? ⟨f1, 0, none⟩ = some (.func (.func 63) #[.pointer (some ⟨g, 0, none⟩)] #[])
  c2 : w.cell? ⟨f2, 0, none⟩ = some (.func (.func 64) #[.pointer (some ⟨g, 0, none⟩)] #[])
  rc : MsB w p x
  rs : MsB w q mv0
section
variable {w0 w w' : World} {g f1 f2 q p : Nat} {A : Option Addr} {b : List UInt8} {s s' : PackM.St} {x x' : Mv}
theorem Rdr.kept (k : Rdr w0 w g f1 f2 q p A b s x) (r : Pack.RdAt w' g A b s') (q1 : Keeps (fun i => i = g) w w') : Rdr w0 w' g f1 f2 q p A b s' x := by
  have h0 := k.gl; have h1 := k.n0; have h2 := k.n1; have h3 := k.n2; have h4 := k.n3
  exact ⟨r, k.keep.trans q1, h0, h1, h2, h3, h4, k.nb, q1.cell k.c1 (by show ¬ f1 = g; omega), q1.cell k.c2 (by show ¬ f2 = g; omega), k.rc.keep q1 (by omega), k.rs.keep q1 (by omega)⟩
theorem Rdr.grown (k : Rdr w0 w g f1 f2 q p A b s x) (r : Pack.RdAt w' g A b s') (kg : w.grownBy w' (some g)) : Rdr w0 w' g f1 f2 q p A b s' x := k.kept r (.grow kg rfl)
theorem Rdr.stored (k : Rdr w0 w g f1 f2 q p A b s x) (q1 : Keeps (fun i => i = p) w w') (r : MsB w' p x') : Rdr w0 w' g f1 f2 q p A b s x' := by
  have h0 := k.gl; have h1 := k.n0; have h2 := k.n1; have h3 := k.n2; have h4 := k.n3
  exact ⟨k.rd.keep q1 (by omega) (fun h a e => by have := k.nb h a e; omega), keeps_set k.keep q1 (by omega), h0, h1, h2, h3, h4, k.nb, q1.cell k.c1 (by show ¬ f1 = p; omega), q1.cell k.c2 (by show ¬ f2 = p; omega), r, k.rs.keep q1 (by omega)⟩
end
theorem Lies.keep {F : Nat → Prop} {w w' : World} {x : Mv} (h : Lies w x) (q : Keeps F w w') (h1 : 0 < x.m.who.length → ∀ a, x.P = some a → ¬ F a.block) (h2 : 0 < x.m.names.length → ∀ a, x.Q = some a → ¬ F a.block) (h3 : 0 < x.m.data.length → ∀ a, x.D = some a → ¬ F a.block) : Lies w' x :=
  ⟨CellsAt.keep h.who q (by rw [intV_len]; exact h1), CellsAt.keep h.names q (by rw [LabM.strV_len]; exact h2), q.bytes' h.data h3, h.p, h.q, h.d, h.p2, h.q2, h.d2⟩
/-- its lists lie from block N on -/
def From (N : Nat) (y : Mv) : Prop := (∀ a, y.P = some a → N ≤ a.block) ∧ (∀ a, y.Q = some a → N ≤ a.block) ∧ (0 < y.m.data.length → ∀ a, y.D = some a → N ≤ a.block)
def RetSaid (w : World) (g : Nat) (A : Option Addr) (b : List UInt8) (e : Ending) (w' : World) : Prop :=
  ∃ y : Mv, y.m = said b ∧ e = .returned (.agg #[.int .i64 y.m.K, .int .i64 y.m.F, .int .i64 y.m.T, .int .i64 y.m.B, .string y.m.s, .int .i64 y.m.A, .int .i64 y.m.E, .int .i64 y.m.M, .int .i64 y.m.S, .int .i64 y.m.W, .slice y.P y.m.who.length y.p, .slice y.Q y.m.names.length y.q, .slice y.D y.m.data.length y.d]) ∧ Lies w' y ∧ Keeps (fun k => k = g) w w' ∧ ∀ N, N ≤ w.heap.size → (0 < b.length → ∀ a, A = some a → N ≤ a.block) → From N y
theorem saidBy_any (g : Nat) (A : Option Addr) (b : List UInt8) (w : World) (h : Pack.RdAt w g A b ⟨0, false⟩) (hbl : b.length ≤ 1048576) (hA : 0 < b.length → ∀ a, A = some a → a.block < w.heap.size) :
    Calls Try.prog 62 #[.func (.func 63) #[.pointer (some ⟨g, 0, none⟩)] #[], .func (.func 64) #[.pointer (some ⟨g, 0, none⟩)] #[]] w (RetSaid w g A b) := by
  have hgl := h.lt
  have C0 := Lib.hid (fun W h => Pack.rnum_any g A b o0 1 W h hbl)
  rw [show PackM.numS b o0 1 = o1 b from rfl] at C0
  have C1 := Lib.hid (fun W h => Pack.rnum_any g A b (o1 b) 1 W h hbl)
  rw [show PackM.numS b (o1 b) 1 = o2 b from rfl] at C1
  have C2 := Lib.hid (fun W h => Pack.rnum_any g A b (o2 b) 2 W h hbl)
  rw [show PackM.numS b (o2 b) 2 = o3 b from rfl] at C2
  have C3 := Lib.hid (fun W h => Pack.rnum_any g A b (o3 b) 2 W h hbl)
  rw [show PackM.numS b (o3 b) 2 = o4 b from rfl] at C3
  have C4 := Lib.hid (fun W h => Pack.rnum_any g A b (o4 b) 4 W h hbl)
  rw [show PackM.numS b (o4 b) 4 = o5 b from rfl] at C4
  have C6 := Lib.hid (fun W h => Pack.rnum_any g A b (o6 b) 4 W h hbl)
  rw [show PackM.numS b (o6 b) 4 = o7 b from rfl] at C6
  have C7 := Lib.hid (fun W h => Pack.rnum_any g A b (o7 b) 4 W h hbl)
  rw [show PackM.numS b (o7 b) 4 = o8 b from rfl] at C7
  have C8 := Lib.hid (fun W h => Pack.rnum_any g A b (o8 b) 4 W h hbl)
  rw [show PackM.numS b (o8 b) 4 = o9 b from rfl] at C8
  have C9 := Lib.hid (fun W h => Pack.rnum_any g A b (o9 b) 2 W h hbl)
  rw [show PackM.numS b (o9 b) 2 = o10 b from rfl] at C9
  have C10 := Lib.hid (fun W h => Pack.rnum_any g A b (o10 b) 1 W h hbl)
  rw [show PackM.numS b (o10 b) 1 = o11 b from rfl] at C10
  have C5 := Lib.hid (fun W h => Pack.rtext_any g A b (o5 b) W h hbl)
  rw [show PackM.textS b (o5 b) = o6 b from rfl] at C5
  have C11 := Lib.hid (fun f W h hA hfg hc => readInts_any g f A b (o11 b) W h hbl hA hfg hc)
  rw [show PackM.numS b (o11 b) 1 = o12 b from rfl, show PackM.numV b (o11 b) 1 = whoN b from rfl, show (numsTo b (o12 b) (whoN b)).2 = o13 b from rfl] at C11
  have C12 := Lib.hid (fun f W h hA hfg hc => readStrs_any g f A b (o13 b) W h hbl hA hfg hc)
  rw [show PackM.numS b (o13 b) 1 = o14 b from rfl, show PackM.numV b (o13 b) 1 = namesN b from rfl, show (textsTo b (o14 b) (namesN b)).2 = o15 b from rfl] at C12
  have C13 := Lib.hid (fun W h => Pack.rtext_any g A b (o15 b) W h hbl)
  rw [show PackM.textS b (o15 b) = o16 b from rfl] at C13
  have hle : (PackM.textL b (o15 b)).length ≤ b.length := rawL_le _ _ _
  have hw : (numsTo b (o12 b) (whoN b)).1.length = whoN b := numsTo_len _ _ _
  have hn : (textsTo b (o14 b) (namesN b)).1.length = namesN b := textsTo_len _ _ _
  have ve : said b = ⟨(PackM.numV b (o1 b) 1 : Nat), (PackM.numV b (o2 b) 2 : Nat), (PackM.numV b (o3 b) 2 : Nat), (PackM.numV b (o4 b) 4 : Nat), txt (PackM.textL b (o5 b)), (PackM.numV b (o6 b) 4 : Nat), (PackM.numV b (o7 b) 4 : Nat), (PackM.numV b (o8 b) 4 : Nat), (PackM.numV b (o9 b) 2 : Nat), (PackM.numV b (o10 b) 1 : Nat), (numsTo b (o12 b) (whoN b)).1, (textsTo b (o14 b) (namesN b)).1, PackM.textL b (o15 b)⟩ := rfl
  unfold RetSaid
  rw [ve]
  clear ve
  generalize (numsTo b (o12 b) (whoN b)).1 = WL at *
  generalize (textsTo b (o14 b) (namesN b)).1 = NL at *
  rw [← hw] at C11
  rw [← hn] at C12
  clear hw hn
  have CV : Hid (∀ (X : Option Addr) (d : Nat) (V : World), BytesAt V X (PackM.textL b (o5 b)) → (convert 24 9 (.slice X (PackM.textL b (o5 b)).length d)).run Try.prog V = .ok (.string (txt (PackM.textL b (o5 b)))) V) := Lib.hid fun X d V hX => hX.convert d
  generalize PackM.numV b (o1 b) 1 = v1 at *
  generalize PackM.numV b (o2 b) 2 = v2 at *
  generalize PackM.numV b (o3 b) 2 = v3 at *
  generalize PackM.numV b (o4 b) 4 = v4 at *
  generalize txt (PackM.textL b (o5 b)) = v5 at *
  generalize PackM.textL b (o5 b) = vt at *
  generalize PackM.numV b (o6 b) 4 = v6 at *
  generalize PackM.numV b (o7 b) 4 = v7 at *
  generalize PackM.numV b (o8 b) 4 = v8 at *
  generalize PackM.numV b (o9 b) 2 = v9 at *
  generalize PackM.numV b (o10 b) 1 = v10 at *
  generalize PackM.textL b (o15 b) = DL at *
  generalize PackM.numV b o0 1 = z0 at *
  generalize o1 b = s1 at *
  generalize o2 b = s2 at *
  generalize o3 b = s3 at *
  generalize o4 b = s4 at *
  generalize o5 b = s5 at *
  generalize o6 b = s6 at *
  generalize o7 b = s7 at *
  generalize o8 b = s8 at *
  generalize o9 b = s9 at *
  generalize o10 b = s10 at *
  generalize o11 b = s11 at *
  generalize o12 b = s12 at *
  generalize o13 b = s13 at *
  generalize o14 b = s14 at *
  generalize o15 b = s15 at *
  generalize o16 b = s16 at *
  rw [show (⟨0, false⟩ : PackM.St) = o0 from rfl] at h
  generalize o0 = s0 at *
  have HH := Lib.hid h; have HLE := Lib.hid hle
  clear h hle
  have H4 : Hid (∀ W0, W0 = (((w.alloc (.cells #[.func (.func 63) #[.pointer (some ⟨g, 0, none⟩)] #[]] 65)).alloc (.cells #[.func (.func 64) #[.pointer (some ⟨g, 0, none⟩)] #[]] 66)).alloc (.cells #[.int .i64 0, .int .i64 0, .int .i64 0, .int .i64 0, .string ⟨#[]⟩, .int .i64 0, .int .i64 0, .int .i64 0, .int .i64 0, .int .i64 0, .slice none 0 0, .slice none 0 0, .slice none 0 0] 26)).alloc (.cells #[.int .i64 0, .int .i64 0, .int .i64 0, .int .i64 0, .string ⟨#[]⟩, .int .i64 0, .int .i64 0, .int .i64 0, .int .i64 0, .int .i64 0, .slice none 0 0, .slice none 0 0, .slice none 0 0] 26) → Rdr w W0 g w.heap.size (w.heap.size + 1) (w.heap.size + 1 + 1) (w.heap.size + 1 + 1 + 1) A b s0 mv0) := Lib.hid fun W0 hW => by
    have b1 := balloc w (.cells #[.func (.func 63) #[.pointer (some ⟨g, 0, none⟩)] #[]] 65)
    have z1 : (w.alloc (.cells #[.func (.func 63) #[.pointer (some ⟨g, 0, none⟩)] #[]] 65)).heap.size = w.heap.size + 1 := by simp
    have d1 : (w.alloc (.cells #[.func (.func 63) #[.pointer (some ⟨g, 0, none⟩)] #[]] 65)).cell? ⟨w.heap.size, 0, none⟩ = some (.func (.func 63) #[.pointer (some ⟨g, 0, none⟩)] #[]) := by rw [World.cell?_alloc_new]; rfl
    generalize w.alloc (.cells #[.func (.func 63) #[.pointer (some ⟨g, 0, none⟩)] #[]] 65) = w1 at *
    have b2 := balloc w1 (.cells #[.func (.func 64) #[.pointer (some ⟨g, 0, none⟩)] #[]] 66)
    have z2 : (w1.alloc (.cells #[.func (.func 64) #[.pointer (some ⟨g, 0, none⟩)] #[]] 66)).heap.size = w.heap.size + 1 + 1 := by simp [z1]
    have d2 : (w1.alloc (.cells #[.func (.func 64) #[.pointer (some ⟨g, 0, none⟩)] #[]] 66)).cell? ⟨w.heap.size + 1, 0, none⟩ = some (.func (.func 64) #[.pointer (some ⟨g, 0, none⟩)] #[]) := by rw [← z1, World.cell?_alloc_new]; rfl
    generalize w1.alloc (.cells #[.func (.func 64) #[.pointer (some ⟨g, 0, none⟩)] #[]] 66) = w2 at *
    have b3 := balloc w2 (.cells #[.int .i64 0, .int .i64 0, .int .i64 0, .int .i64 0, .string ⟨#[]⟩, .int .i64 0, .int .i64 0, .int .i64 0, .int .i64 0, .int .i64 0, .slice none 0 0, .slice none 0 0, .slice none 0 0] 26)
    have z3 : (w2.alloc (.cells #[.int .i64 0, .int .i64 0, .int .i64 0, .int .i64 0, .string ⟨#[]⟩, .int .i64 0, .int .i64 0, .int .i64 0, .int .i64 0, .int .i64 0, .slice none 0 0, .slice none 0 0, .slice none 0 0] 26)).heap.size = w.heap.size + 1 + 1 + 1 := by simp [z2]
    have d3 : MsB (w2.alloc (.cells #[.int .i64 0, .int .i64 0, .int .i64 0, .int .i64 0, .string ⟨#[]⟩, .int .i64 0, .int .i64 0, .int .i64 0, .int .i64 0, .int .i64 0, .slice none 0 0, .slice none 0 0, .slice none 0 0] 26)) (w.heap.size + 1 + 1) mv0 := by rw [← z2]; exact MsB.new w2 mv0
    generalize w2.alloc (.cells #[.int .i64 0, .int .i64 0, .int .i64 0, .int .i64 0, .string ⟨#[]⟩, .int .i64 0, .int .i64 0, .int .i64 0, .int .i64 0, .int .i64 0, .slice none 0 0, .slice none 0 0, .slice none 0 0] 26) = w3 at *
    have b4 := balloc w3 (.cells #[.int .i64 0, .int .i64 0, .int .i64 0, .int .i64 0, .string ⟨#[]⟩, .int .i64 0, .int .i64 0, .int .i64 0, .int .i64 0, .int .i64 0, .slice none 0 0, .slice none 0 0, .slice none 0 0] 26)
    have d4 : MsB (w3.alloc (.cells #[.int .i64 0, .int .i64 0, .int .i64 0, .int .i64 0, .string ⟨#[]⟩, .int .i64 0, .int .i64 0, .int .i64 0, .int .i64 0, .int .i64 0, .slice none 0 0, .slice none 0 0, .slice none 0 0] 26)) (w.heap.size + 1 + 1 + 1) mv0 := by rw [← z3]; exact MsB.new w3 mv0
    rw [← hW] at b4 d4
    have c11 := (b2.cell (p := ⟨w.heap.size, 0, none⟩) (cell_lt d1)).trans d1
    have c12 := (b3.cell (p := ⟨w.heap.size, 0, none⟩) (cell_lt c11)).trans c11
    have c13 := (b4.cell (p := ⟨w.heap.size, 0, none⟩) (cell_lt c12)).trans c12
    have c21 := (b3.cell (p := ⟨w.heap.size + 1, 0, none⟩) (cell_lt d2)).trans d2
    have c22 := (b4.cell (p := ⟨w.heap.size + 1, 0, none⟩) (cell_lt c21)).trans c21
    have bb : Below w.heap.size w W0 := bstep (bstep (bstep b1 b2) b3) b4
    exact ⟨HH.out.below bb, .of_below _ bb, hgl, Nat.le_refl _, by omega, by omega, by omega, hA, c13, c22, d4, d3.below b4⟩
  clear HH
  go_enter Try.func62, Try.ntmps62
  go_wp2_with fail
  obtain ⟨W0, hW0⟩ : ∃ W0, W0 = (((w.alloc (.cells #[.func (.func 63) #[.pointer (some ⟨g, 0, none⟩)] #[]] 65)).alloc (.cells #[.func (.func 64) #[.pointer (some ⟨g, 0, none⟩)] #[]] 66)).alloc (.cells #[.int .i64 0, .int .i64 0, .int .i64 0, .int .i64 0, .string ⟨#[]⟩, .int .i64 0, .int .i64 0, .int .i64 0, .int .i64 0, .int .i64 0, .slice none 0 0, .slice none 0 0, .slice none 0 0] 26)).alloc (.cells #[.int .i64 0, .int .i64 0, .int .i64 0, .int .i64 0, .string ⟨#[]⟩, .int .i64 0, .int .i64 0, .int .i64 0, .int .i64 0, .int .i64 0, .slice none 0 0, .slice none 0 0, .slice none 0 0] 26) := ⟨_, rfl⟩
  have R0 := Lib.hid (H4.out W0 hW0)
  rw [← hW0]
  clear hW0 H4
  obtain ⟨f1, hf1⟩ : ∃ f1, f1 = w.heap.size := ⟨_, rfl⟩
  obtain ⟨f2, hf2⟩ : ∃ f2, f2 = w.heap.size + 1 := ⟨_, rfl⟩
  obtain ⟨q, hq⟩ : ∃ q, q = w.heap.size + 1 + 1 := ⟨_, rfl⟩
  obtain ⟨p, hp⟩ : ∃ p, p = w.heap.size + 1 + 1 + 1 := ⟨_, rfl⟩
  have HF1 := Lib.hid hf1
  rw [← hp, ← hq, ← hf2] at R0 ⊢
  rw [← hf1] at R0 ⊢
  clear hf1 hf2 hq hp
  have m1 : ¬ f1 = p := by have := R0.out.n1; have := R0.out.n2; have := R0.out.n3; omega
  have m2 : ¬ f2 = p := by have := R0.out.n2; have := R0.out.n3; omega
  have m3 : ¬ p = f1 := fun e => m1 e.symm
  have m4 : ¬ p = f2 := fun e => m2 e.symm
  refine (C0.out W0 R0.out.rd).mono ?_
  rintro e w1 ⟨rfl, k1, k2⟩
  have R1 := Lib.hid (R0.out.grown k1 k2)
  have cf := R1.out.c1
  clear k1 k2 R0 C0
  go_wp2_with fail
  refine (C1.out _ R1.out.rd).mono ?_
  rintro e w2 ⟨rfl, k1, k2⟩
  have R2 := Lib.hid (R1.out.grown k1 k2)
  have cc1 := R2.out.rc.c0; have ff1 := R2.out.rc.fr 0
  have R3 : Hid (Rdr w (w2.setCell ⟨p, 0, none⟩ (.int .i64 (v1 : Nat))) g f1 f2 q p A b s2 ⟨⟨(v1 : Nat), 0, 0, 0, ⟨#[]⟩, 0, 0, 0, 0, 0, [], [], []⟩, none, 0, none, 0, none, 0⟩) := Lib.hid (R2.out.stored (.set (fun i => i = p) _ ⟨p, 0, none⟩ (.int .i64 (v1 : Nat)) rfl) (MsB.set R2.out.rc 0 (.int .i64 (v1 : Nat))))
  clear cf
  have cf := R3.out.c1
  have cg := R2.out.c1
  clear k1 k2 R1 C1 R2
  go_wp2_with fail
  refine (C2.out _ R3.out.rd).mono ?_
  rintro e w3 ⟨rfl, k1, k2⟩
  have R4 := Lib.hid (R3.out.grown k1 k2)
  have cc2 := R4.out.rc.c1; have ff2 := R4.out.rc.fr 1
  have R5 : Hid (Rdr w (w3.setCell ⟨p, 1, none⟩ (.int .i64 (v2 : Nat))) g f1 f2 q p A b s3 ⟨⟨(v1 : Nat), (v2 : Nat), 0, 0, ⟨#[]⟩, 0, 0, 0, 0, 0, [], [], []⟩, none, 0, none, 0, none, 0⟩) := Lib.hid (R4.out.stored (.set (fun i => i = p) _ ⟨p, 1, none⟩ (.int .i64 (v2 : Nat)) rfl) (MsB.set R4.out.rc 1 (.int .i64 (v2 : Nat))))
  clear cf cg cc1 ff1
  have cf := R5.out.c1
  have cg := R4.out.c1
  clear k1 k2 R3 C2 R4
  go_wp2_with fail
  refine (C3.out _ R5.out.rd).mono ?_
  rintro e w4 ⟨rfl, k1, k2⟩
  have R6 := Lib.hid (R5.out.grown k1 k2)
  have cc3 := R6.out.rc.c2; have ff3 := R6.out.rc.fr 2
  have R7 : Hid (Rdr w (w4.setCell ⟨p, 2, none⟩ (.int .i64 (v3 : Nat))) g f1 f2 q p A b s4 ⟨⟨(v1 : Nat), (v2 : Nat), (v3 : Nat), 0, ⟨#[]⟩, 0, 0, 0, 0, 0, [], [], []⟩, none, 0, none, 0, none, 0⟩) := Lib.hid (R6.out.stored (.set (fun i => i = p) _ ⟨p, 2, none⟩ (.int .i64 (v3 : Nat)) rfl) (MsB.set R6.out.rc 2 (.int .i64 (v3 : Nat))))
  clear cf cg cc2 ff2
  have cf := R7.out.c1
  have cg := R6.out.c1
  clear k1 k2 R5 C3 R6
  go_wp2_with fail
  refine (C4.out _ R7.out.rd).mono ?_
  rintro e w5 ⟨rfl, k1, k2⟩
  have R8 := Lib.hid (R7.out.grown k1 k2)
  have cc4 := R8.out.rc.c3; have ff4 := R8.out.rc.fr 3
  have R9 : Hid (Rdr w (w5.setCell ⟨p, 3, none⟩ (.int .i64 (v4 : Nat))) g f1 f2 q p A b s5 ⟨⟨(v1 : Nat), (v2 : Nat), (v3 : Nat), (v4 : Nat), ⟨#[]⟩, 0, 0, 0, 0, 0, [], [], []⟩, none, 0, none, 0, none, 0⟩) := Lib.hid (R8.out.stored (.set (fun i => i = p) _ ⟨p, 3, none⟩ (.int .i64 (v4 : Nat)) rfl) (MsB.set R8.out.rc 3 (.int .i64 (v4 : Nat))))
  clear cf cg cc3 ff3
  have cf := R9.out.c2
  have cg := R8.out.c2
  clear k1 k2 R7 C4 R8
  go_wp2_with fail
  refine (C5.out _ R9.out.rd).mono ?_
  rintro e w6 ⟨X, d, rfl, hX, hd1, hd2, -, k1, k2⟩
  have hcv := CV.out X d w6 hX
  clear hX hd1 hd2 CV
  generalize vt.length = vn at *
  have R10 := Lib.hid (R9.out.grown k1 k2)
  have cc5 := R10.out.rc.c4; have ff5 := R10.out.rc.fr 4
  have R11 : Hid (Rdr w (w6.setCell ⟨p, 4, none⟩ (.string v5)) g f1 f2 q p A b s6 ⟨⟨(v1 : Nat), (v2 : Nat), (v3 : Nat), (v4 : Nat), v5, 0, 0, 0, 0, 0, [], [], []⟩, none, 0, none, 0, none, 0⟩) := Lib.hid (R10.out.stored (.set (fun i => i = p) _ ⟨p, 4, none⟩ (.string v5) rfl) (MsB.set R10.out.rc 4 (.string v5)))
  clear cf cg cc4 ff4
  have cf := R11.out.c1
  have cg := R10.out.c1
  clear k1 k2 R9 C5 R10
  go_wp2_with fail
  refine (C6.out _ R11.out.rd).mono ?_
  rintro e w7 ⟨rfl, k1, k2⟩
  have R12 := Lib.hid (R11.out.grown k1 k2)
  have cc6 := R12.out.rc.c5; have ff6 := R12.out.rc.fr 5
  have R13 : Hid (Rdr w (w7.setCell ⟨p, 5, none⟩ (.int .i64 (v6 : Nat))) g f1 f2 q p A b s7 ⟨⟨(v1 : Nat), (v2 : Nat), (v3 : Nat), (v4 : Nat), v5, (v6 : Nat), 0, 0, 0, 0, [], [], []⟩, none, 0, none, 0, none, 0⟩) := Lib.hid (R12.out.stored (.set (fun i => i = p) _ ⟨p, 5, none⟩ (.int .i64 (v6 : Nat)) rfl) (MsB.set R12.out.rc 5 (.int .i64 (v6 : Nat))))
  clear cf cg cc5 ff5 hcv
  have cf := R13.out.c1
  have cg := R12.out.c1
  clear k1 k2 R11 C6 R12
  go_wp2_with fail
  refine (C7.out _ R13.out.rd).mono ?_
  rintro e w8 ⟨rfl, k1, k2⟩
  have R14 := Lib.hid (R13.out.grown k1 k2)
  have cc7 := R14.out.rc.c6; have ff7 := R14.out.rc.fr 6
  have R15 : Hid (Rdr w (w8.setCell ⟨p, 6, none⟩ (.int .i64 (v7 : Nat))) g f1 f2 q p A b s8 ⟨⟨(v1 : Nat), (v2 : Nat), (v3 : Nat), (v4 : Nat), v5, (v6 : Nat), (v7 : Nat), 0, 0, 0, [], [], []⟩, none, 0, none, 0, none, 0⟩) := Lib.hid (R14.out.stored (.set (fun i => i = p) _ ⟨p, 6, none⟩ (.int .i64 (v7 : Nat)) rfl) (MsB.set R14.out.rc 6 (.int .i64 (v7 : Nat))))
  clear cf cg cc6 ff6
  have cf := R15.out.c1
  have cg := R14.out.c1
  clear k1 k2 R13 C7 R14
  go_wp2_with fail
  refine (C8.out _ R15.out.rd).mono ?_
  rintro e w9 ⟨rfl, k1, k2⟩
  have R16 := Lib.hid (R15.out.grown k1 k2)
  have cc8 := R16.out.rc.c7; have ff8 := R16.out.rc.fr 7
  have R17 : Hid (Rdr w (w9.setCell ⟨p, 7, none⟩ (.int .i64 (v8 : Nat))) g f1 f2 q p A b s9 ⟨⟨(v1 : Nat), (v2 : Nat), (v3 : Nat), (v4 : Nat), v5, (v6 : Nat), (v7 : Nat), (v8 : Nat), 0, 0, [], [], []⟩, none, 0, none, 0, none, 0⟩) := Lib.hid (R16.out.stored (.set (fun i => i = p) _ ⟨p, 7, none⟩ (.int .i64 (v8 : Nat)) rfl) (MsB.set R16.out.rc 7 (.int .i64 (v8 : Nat))))
  clear cf cg cc7 ff7
  have cf := R17.out.c1
  have cg := R16.out.c1
  clear k1 k2 R15 C8 R16
  go_wp2_with fail
  refine (C9.out _ R17.out.rd).mono ?_
  rintro e w10 ⟨rfl, k1, k2⟩
  have R18 := Lib.hid (R17.out.grown k1 k2)
  have cc9 := R18.out.rc.c8; have ff9 := R18.out.rc.fr 8
  have R19 : Hid (Rdr w (w10.setCell ⟨p, 8, none⟩ (.int .i64 (v9 : Nat))) g f1 f2 q p A b s10 ⟨⟨(v1 : Nat), (v2 : Nat), (v3 : Nat), (v4 : Nat), v5, (v6 : Nat), (v7 : Nat), (v8 : Nat), (v9 : Nat), 0, [], [], []⟩, none, 0, none, 0, none, 0⟩) := Lib.hid (R18.out.stored (.set (fun i => i = p) _ ⟨p, 8, none⟩ (.int .i64 (v9 : Nat)) rfl) (MsB.set R18.out.rc 8 (.int .i64 (v9 : Nat))))
  clear cf cg cc8 ff8
  have cf := R19.out.c1
  have cg := R18.out.c1
  clear k1 k2 R17 C9 R18
  go_wp2_with fail
  refine (C10.out _ R19.out.rd).mono ?_
  rintro e w11 ⟨rfl, k1, k2⟩
  have R20 := Lib.hid (R19.out.grown k1 k2)
  have cc10 := R20.out.rc.c9; have ff10 := R20.out.rc.fr 9
  have R21 : Hid (Rdr w (w11.setCell ⟨p, 9, none⟩ (.int .i64 (v10 : Nat))) g f1 f2 q p A b s11 ⟨⟨(v1 : Nat), (v2 : Nat), (v3 : Nat), (v4 : Nat), v5, (v6 : Nat), (v7 : Nat), (v8 : Nat), (v9 : Nat), (v10 : Nat), [], [], []⟩, none, 0, none, 0, none, 0⟩) := Lib.hid (R20.out.stored (.set (fun i => i = p) _ ⟨p, 9, none⟩ (.int .i64 (v10 : Nat)) rfl) (MsB.set R20.out.rc 9 (.int .i64 (v10 : Nat))))
  clear cf cg cc9 ff9
  have cf := R21.out.c1
  have cg := R20.out.c1
  clear k1 k2 R19 C10 R20
  go_wp2_with fail
  have HS12 : Hid (p < (w11.setCell ⟨p, 9, none⟩ (.int .i64 (v10 : Nat))).heap.size) := Lib.hid R21.out.rc.lt
  refine (C11.out f1 _ R21.out.rd (fun h a e => Nat.lt_of_lt_of_le (R21.out.nb h a e) R21.out.keep.size) (by have := R21.out.gl; have := R21.out.n0; omega) R21.out.c1).mono ?_
  rintro e w12 ⟨XW, dw, rfl, hw1, hw2, hw3, hw4, k1, k2⟩
  have HW := Lib.hid hw3
  have HWN : Hid (∀ a, XW = some a → p < a.block) := Lib.hid fun a e => Nat.lt_of_lt_of_le HS12.out (hw4 a e)
  have HWD := Lib.hid (And.intro hw1 hw2)
  have R22 := Lib.hid (R21.out.kept k1 k2)
  have cc11 := R22.out.rc.c10; have ff11 := R22.out.rc.fr 10
  have R23 : Hid (Rdr w (w12.setCell ⟨p, 10, none⟩ (.slice XW WL.length dw)) g f1 f2 q p A b s13 ⟨⟨(v1 : Nat), (v2 : Nat), (v3 : Nat), (v4 : Nat), v5, (v6 : Nat), (v7 : Nat), (v8 : Nat), (v9 : Nat), (v10 : Nat), WL, [], []⟩, XW, dw, none, 0, none, 0⟩) := Lib.hid (R22.out.stored (.set (fun i => i = p) _ ⟨p, 10, none⟩ (.slice XW WL.length dw) rfl) (MsB.set R22.out.rc 10 (.slice XW WL.length dw)))
  have HW2 : Hid (IntsAt (w12.setCell ⟨p, 10, none⟩ (.slice XW WL.length dw)) XW WL) := Lib.hid (CellsAt.keep HW.out (.set (fun i => i = p) _ ⟨p, 10, none⟩ (.slice XW WL.length dw) rfl) (fun _ a e => by have := HWN.out a e; omega))
  clear cf cg cc10 ff10 hw1 hw2 hw3 hw4 HS12 HW
  have cf := R23.out.c1
  have cg := R22.out.c1
  clear k1 k2 R21 C11 R22
  go_wp2_with fail
  have HS13 : Hid (p < (w12.setCell ⟨p, 10, none⟩ (.slice XW WL.length dw)).heap.size) := Lib.hid R23.out.rc.lt
  refine (C12.out f2 _ R23.out.rd (fun h a e => Nat.lt_of_lt_of_le (R23.out.nb h a e) R23.out.keep.size) (by have := R23.out.gl; have := R23.out.n0; have := R23.out.n1; omega) R23.out.c2).mono ?_
  rintro e w13 ⟨XN, dn, rfl, hw1, hw2, hw3, hw4, k1, k2⟩
  have HN := Lib.hid hw3
  have HNN : Hid (∀ a, XN = some a → p < a.block) := Lib.hid fun a e => Nat.lt_of_lt_of_le HS13.out (hw4 a e)
  have HND := Lib.hid (And.intro hw1 hw2)
  have R24 := Lib.hid (R23.out.kept k1 k2)
  have HW3 : Hid (IntsAt w13 XW WL) := Lib.hid (CellsAt.keep HW2.out k2 (fun _ a e => by have := HWN.out a e; have := R23.out.gl; have := R23.out.n0; have := R23.out.n1; have := R23.out.n2; have := R23.out.n3; omega))
  have cc12 := R24.out.rc.c11; have ff12 := R24.out.rc.fr 11
  have R25 : Hid (Rdr w (w13.setCell ⟨p, 11, none⟩ (.slice XN NL.length dn)) g f1 f2 q p A b s15 ⟨⟨(v1 : Nat), (v2 : Nat), (v3 : Nat), (v4 : Nat), v5, (v6 : Nat), (v7 : Nat), (v8 : Nat), (v9 : Nat), (v10 : Nat), WL, NL, []⟩, XW, dw, XN, dn, none, 0⟩) := Lib.hid (R24.out.stored (.set (fun i => i = p) _ ⟨p, 11, none⟩ (.slice XN NL.length dn) rfl) (MsB.set R24.out.rc 11 (.slice XN NL.length dn)))
  have HN2 : Hid (StrsAt (w13.setCell ⟨p, 11, none⟩ (.slice XN NL.length dn)) XN NL) := Lib.hid (CellsAt.keep HN.out (.set (fun i => i = p) _ ⟨p, 11, none⟩ (.slice XN NL.length dn) rfl) (fun _ a e => by have := HNN.out a e; omega))
  have HW4 : Hid (IntsAt (w13.setCell ⟨p, 11, none⟩ (.slice XN NL.length dn)) XW WL) := Lib.hid (CellsAt.keep HW3.out (.set (fun i => i = p) _ ⟨p, 11, none⟩ (.slice XN NL.length dn) rfl) (fun _ a e => by have := HWN.out a e; omega))
  clear cf cg cc11 ff11 hw1 hw2 hw3 hw4 HS13 HN HW3 HW2
  have cf := R25.out.c2
  have cg := R24.out.c2
  clear k1 k2 R23 C12 R24
  go_wp2_with fail
  have HS14 : Hid (p < (w13.setCell ⟨p, 11, none⟩ (.slice XN NL.length dn)).heap.size) := Lib.hid R25.out.rc.lt
  refine (C13.out _ R25.out.rd).mono ?_
  rintro e w14 ⟨XD, dd, rfl, hX, hd1, hd2, hn4, k1, k2⟩
  have HD := Lib.hid hX
  have HDN : Hid (0 < DL.length → ∀ a, XD = some a → a.block ≠ p ∧ a.block ≠ q) := Lib.hid fun h0 a e => by
    have h1 := R25.out.gl; have h2 := R25.out.n0; have h3 := R25.out.n1; have h4 := R25.out.n2; have h5 := R25.out.n3
    rcases hn4 h0 a e with ⟨a0, e0, e1⟩ | h6
    · have h7 := R25.out.nb (by have := HLE.out; omega) a0 e0
      omega
    · have := HS14.out; omega
  have HDA : Hid (0 < DL.length → ∀ a, XD = some a → (∃ a0, A = some a0 ∧ a.block = a0.block) ∨ p < a.block) := Lib.hid fun h0 a e => by
    rcases hn4 h0 a e with h | h
    · exact .inl h
    · exact .inr (by have := HS14.out; omega)
  have HDD := Lib.hid (And.intro hd1 hd2)
  have R26 := Lib.hid (R25.out.grown k1 k2)
  have HGP : Hid (¬ g = p ∧ g < p ∧ q < p) := Lib.hid (by have h1 := R25.out.gl; have h2 := R25.out.n0; have h3 := R25.out.n1; have h4 := R25.out.n2; have h5 := R25.out.n3; omega)
  have HLI : Hid (Lies (w14.setCell ⟨p, 12, none⟩ (.slice XD DL.length dd)) ⟨⟨(v1 : Nat), (v2 : Nat), (v3 : Nat), (v4 : Nat), v5, (v6 : Nat), (v7 : Nat), (v8 : Nat), (v9 : Nat), (v10 : Nat), WL, NL, DL⟩, XW, dw, XN, dn, XD, dd⟩) := Lib.hid (
    Lies.keep (F := fun i => i = p) (w := w14) ⟨CellsAt.keep (F := fun i => i = g) HW4.out (.grow k2 rfl) (fun _ a e => by have := HWN.out a e; have := HGP.out; omega), CellsAt.keep (F := fun i => i = g) HN2.out (.grow k2 rfl) (fun _ a e => by have := HNN.out a e; have := HGP.out; omega), HD.out, HWD.out.1, HND.out.1, HDD.out.1, HWD.out.2, HND.out.2, HDD.out.2⟩
      (.set (fun i => i = p) _ ⟨p, 12, none⟩ (.slice XD DL.length dd) rfl) (fun _ a e => by have := HWN.out a e; omega) (fun _ a e => by have := HNN.out a e; omega) (fun h0 a e => (HDN.out h0 a e).1))
  have cc13 := R26.out.rc.c12; have ff13 := R26.out.rc.fr 12
  have R27 : Hid (Rdr w (w14.setCell ⟨p, 12, none⟩ (.slice XD DL.length dd)) g f1 f2 q p A b s16 ⟨⟨(v1 : Nat), (v2 : Nat), (v3 : Nat), (v4 : Nat), v5, (v6 : Nat), (v7 : Nat), (v8 : Nat), (v9 : Nat), (v10 : Nat), WL, NL, DL⟩, XW, dw, XN, dn, XD, dd⟩) := Lib.hid (R26.out.stored (.set (fun i => i = p) _ ⟨p, 12, none⟩ (.slice XD DL.length dd) rfl) (MsB.set R26.out.rc 12 (.slice XD DL.length dd)))
  clear cf cg cc12 ff12 hX hd1 hd2 hn4 HS14 HD HW4 HN2 k1 k2 R25 C13 R26
  go_wp2_with (first
    | (refine wpList_load_ms rfl _ rfl p rfl ⟨⟨(v1 : Nat), (v2 : Nat), (v3 : Nat), (v4 : Nat), v5, (v6 : Nat), (v7 : Nat), (v8 : Nat), (v9 : Nat), (v10 : Nat), WL, NL, DL⟩, XW, dw, XN, dn, XD, dd⟩ R27.out.rc ?_)
    | (refine wpList_store_ms rfl _ _ rfl q ⟨⟨(v1 : Nat), (v2 : Nat), (v3 : Nat), (v4 : Nat), v5, (v6 : Nat), (v7 : Nat), (v8 : Nat), (v9 : Nat), (v10 : Nat), WL, NL, DL⟩, XW, dw, XN, dn, XD, dd⟩ rfl rfl mv0 R27.out.rs ?_; intro w15 hr15 hk15; have HR15 := Lib.hid hr15; have HK15 := Lib.hid hk15; clear hr15 hk15))
  have hgp := HGP.out
  refine Go.bodyPost_ret (results_ms1 rfl _ _ q ⟨⟨(v1 : Nat), (v2 : Nat), (v3 : Nat), (v4 : Nat), v5, (v6 : Nat), (v7 : Nat), (v8 : Nat), (v9 : Nat), (v10 : Nat), WL, NL, DL⟩, XW, dw, XN, dn, XD, dd⟩ rfl HR15.out) rfl ⟨⟨⟨(v1 : Nat), (v2 : Nat), (v3 : Nat), (v4 : Nat), v5, (v6 : Nat), (v7 : Nat), (v8 : Nat), (v9 : Nat), (v10 : Nat), WL, NL, DL⟩, XW, dw, XN, dn, XD, dd⟩, rfl, rfl, Lies.keep (F := fun k => k = q) HLI.out HK15.out (fun _ a e => by have := HWN.out a e; omega) (fun _ a e => by have := HNN.out a e; omega) (fun h0 a e => (HDN.out h0 a e).2), keeps_set R27.out.keep HK15.out (by have h2 := R27.out.n0; have h3 := R27.out.n1; have h4 := R27.out.n2; omega), fun N hN hA => ?_⟩
  have h2 := R27.out.n0; have h3 := R27.out.n1; have h4 := R27.out.n2; have h5 := R27.out.n3
  refine ⟨fun a e => by have := HWN.out a e; omega, fun a e => by have := HNN.out a e; omega, fun h0 a e => ?_⟩
  rcases HDA.out h0 a e with ⟨a0, e0, e1⟩ | h6
  · have := hA (by have := HLE.out; have h0 : 0 < DL.length := h0; omega) a0 e0; omega
  · omega
end Go.Proofs.Ytjoocjkakgjgmaa.Msg
