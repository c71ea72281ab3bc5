/- the document's own answers of layer 25: Put -/
import Derived.Test.YtjoocjkakgjgmaaR25A
import Derived.Test.YtjoocjkakgjgmaaLabelB
import Derived.Test.YtjoocjkakgjgmaaR05
import Derived.Test.YtjoocjkakgjgmaaR06
set_option maxRecDepth 100000
set_option maxHeartbeats 20000000
namespace Go.Proofs.Ytjoocjkakgjgmaa.R25
open Go.RowKit MsgM Msg
open R07 (StrsAt Sane)

theorem own_row {w : World} {g base : Nat} {l : List UInt8} (h : Row w g l) (hb : base ≤ g) (hl : l.length ≤ maxLen) : Own w base (.slice (some ⟨g, 0, none⟩) l.length l.length) l :=
  ⟨by rw [vals_len]; omega, .inr ⟨g, l.length, cells l, rfl, hb, h, Nat.le_refl _, hl, by rw [cells_size, Nat.mul_one], by rw [Nat.mul_one, show (cells l).toList = vals l from rfl, List.take_of_length_le (by rw [vals_len]; omega)]⟩⟩
theorem own_lit2 (w : World) (B : Nat) (hB : B ≤ w.heap.size) (x y : UInt8) (X Y : Int) (hx : (x.toNat : Int) = X) (hy : (y.toNat : Int) = Y) : Own (w.alloc (.cells #[.int .u8 X, .int .u8 Y] 5)) B (.slice (some ⟨w.heap.size, 0, none⟩) 2 2) [x, y] := by
  subst hx hy; exact own_row (Row.new w [x, y]) hB (by simp [maxLen])
theorem bytes_lit2 (w : World) (x y : UInt8) (X Y : Int) (hx : (x.toNat : Int) = X) (hy : (y.toNat : Int) = Y) : BytesAt (w.alloc (.cells #[.int .u8 X, .int .u8 Y] 5)) (some ⟨w.heap.size, 0, none⟩) [x, y] := by
  subst hx hy; exact (Row.new w [x, y]).bytes
theorem bytes_lit1 (w : World) (x : UInt8) (X : Int) (hx : (x.toNat : Int) = X) : BytesAt (w.alloc (.cells #[.int .u8 X] 5)) (some ⟨w.heap.size, 0, none⟩) [x] := by
  subst hx; exact (Row.new w [x]).bytes
theorem byte_is (n : Int) (h : 0 ≤ n ∧ n ≤ 255) : ((UInt8.ofNat n.toNat).toNat : Int) = n ∧ PackM.numB 1 n = [UInt8.ofNat n.toNat] ∧ IntKind.u8.wrap n = n := by
  refine ⟨?_, ?_, IntWalk.u8_in _ (by omega)⟩
  · rw [UInt8.toNat_ofNat_of_lt' (by simp only [UInt8.size]; omega)]; omega
  · show [UInt8.ofNat (n.toNat % 256)] = _
    rw [Nat.mod_eq_of_lt (by omega)]
/-- what is gathered, and that nothing else was written -/
structure Gth (w0 w : World) (p : Nat) (x : Mv) (v : Value) (l : List UInt8) : Prop where
  own : Own w (p + 1) v l
  below : Below w0.heap.size w0 w
  hp : p = w0.heap.size
  rc : MsB w p x
theorem Gth.next {w0 w w' : World} {p : Nat} {x : Mv} {v : Value} {l : List UInt8} (h : Gth w0 w p x v l) (hb : Below w.heap.size w w') : Gth w0 w' p x v l := ⟨h.own.below hb, bstep h.below hb, h.hp, h.rc.below hb⟩
theorem Gth.lt {w0 w : World} {p : Nat} {x : Mv} {v : Value} {l : List UInt8} (h : Gth w0 w p x v l) : p + 1 ≤ w.heap.size := h.rc.lt
theorem Gth.app {w0 w w' : World} {p : Nat} {x : Mv} {v v' : Value} {l l' : List UInt8} (h : Gth w0 w p x v l) (a : Appd w (p + 1) v l' v' w') : Gth w0 w' p x v' l' :=
  ⟨a.own, h.below.grown a.grow h.below.size (fun k hk => by have := (h.own.lt k hk).1; have := h.hp; omega), h.hp,
    h.rc.keep (F := fun i => v.ownBlock = some i) ⟨a.grow.os, a.grow.tape, a.grow.output, a.grow.size, fun i hi hf => a.grow.block i hi (fun e => hf e.symm)⟩ (fun e => by have := (h.own.lt _ e).1; omega)⟩
theorem Gth.slice {w0 w : World} {p : Nat} {x : Mv} {v : Value} {l : List UInt8} (h : Gth w0 w p x v l) : ∃ A c, v = .slice A l.length c := by
  obtain ⟨A, c, hv, _⟩ := h.own.bytes; exact ⟨A, c, hv⟩
theorem put_any (x : Mv) (hf : Fits x.m) (hm : x.m.May) (w : World) (hx : Lies w x) :
    Calls Try.prog 18 #[.agg #[.int .i64 x.m.K, .int .i64 x.m.F, .int .i64 x.m.T, .int .i64 x.m.B, .string x.m.s, .int .i64 x.m.A, .int .i64 x.m.E, .int .i64 x.m.M, .int .i64 x.m.S, .int .i64 x.m.W, .slice x.P x.m.who.length x.p, .slice x.Q x.m.names.length x.q, .slice x.D x.m.data.length x.d]] w (RetNew w x.m.put) := by
  have HX := Lib.hid hx
  have W1 : PackM.wid 1 = 1 := rfl
  have W2 : PackM.wid 2 = 2 := rfl
  have W4 : PackM.wid 4 = 4 := rfl
  have hs16 : x.m.s.size ≤ 16 := by
    rcases hm.nm with e | e
    · omega
    · exact (nam_size e).2
  have hsl : x.m.s.data.toList.length = x.m.s.size := rfl
  have htl := textsB_len_may x.m.names hm.namess
  have hwl := hm.who
  have hnl := hm.names
  have hdl := hm.data
  have hk := hm.k
  have hww := hm.w
  obtain ⟨kk1, kk2, kk3⟩ := byte_is x.m.K (by omega)
  obtain ⟨wk1, wk2, wk3⟩ := byte_is x.m.W (by omega)
  obtain ⟨ok1, ok2, ok3⟩ := byte_is (x.m.who.length : Nat) (by omega)
  obtain ⟨nk1, nk2, nk3⟩ := byte_is (x.m.names.length : Nat) (by omega)
  have HKK := Lib.hid kk1; have HWK := Lib.hid wk1; have HOK := Lib.hid ok1; have HNK := Lib.hid nk1
  obtain ⟨L1, hL1⟩ : ∃ L, L = [(77 : UInt8), UInt8.ofNat x.m.K.toNat] := ⟨_, rfl⟩
  obtain ⟨P1, hP1⟩ : ∃ L, L = PackM.numB 2 x.m.F := ⟨_, rfl⟩
  obtain ⟨L2, hL2⟩ : ∃ L, L = L1 ++ P1 := ⟨_, rfl⟩
  obtain ⟨P2, hP2⟩ : ∃ L, L = PackM.numB 2 x.m.T := ⟨_, rfl⟩
  obtain ⟨L3, hL3⟩ : ∃ L, L = L2 ++ P2 := ⟨_, rfl⟩
  obtain ⟨P3, hP3⟩ : ∃ L, L = PackM.numB 4 x.m.B := ⟨_, rfl⟩
  obtain ⟨L4, hL4⟩ : ∃ L, L = L3 ++ P3 := ⟨_, rfl⟩
  obtain ⟨P4, hP4⟩ : ∃ L, L = PackM.textB x.m.s.data.toList := ⟨_, rfl⟩
  obtain ⟨L5, hL5⟩ : ∃ L, L = L4 ++ P4 := ⟨_, rfl⟩
  obtain ⟨P5, hP5⟩ : ∃ L, L = PackM.numB 4 x.m.A := ⟨_, rfl⟩
  obtain ⟨L6, hL6⟩ : ∃ L, L = L5 ++ P5 := ⟨_, rfl⟩
  obtain ⟨P6, hP6⟩ : ∃ L, L = PackM.numB 4 x.m.E := ⟨_, rfl⟩
  obtain ⟨L7, hL7⟩ : ∃ L, L = L6 ++ P6 := ⟨_, rfl⟩
  obtain ⟨P7, hP7⟩ : ∃ L, L = PackM.numB 4 x.m.M := ⟨_, rfl⟩
  obtain ⟨L8, hL8⟩ : ∃ L, L = L7 ++ P7 := ⟨_, rfl⟩
  obtain ⟨P8, hP8⟩ : ∃ L, L = PackM.numB 2 x.m.S := ⟨_, rfl⟩
  obtain ⟨L9, hL9⟩ : ∃ L, L = L8 ++ P8 := ⟨_, rfl⟩
  obtain ⟨L10, hL10⟩ : ∃ L, L = L9 ++ [UInt8.ofNat x.m.W.toNat, UInt8.ofNat ((x.m.who.length : Nat) : Int).toNat] := ⟨_, rfl⟩
  obtain ⟨L11, hL11⟩ : ∃ L : Nat → List UInt8, L = fun k => L10 ++ numsB (x.m.who.take k) := ⟨_, rfl⟩
  obtain ⟨L12, hL12⟩ : ∃ L, L = L11 x.m.who.length ++ [UInt8.ofNat ((x.m.names.length : Nat) : Int).toNat] := ⟨_, rfl⟩
  obtain ⟨L13, hL13⟩ : ∃ L : Nat → List UInt8, L = fun k => L12 ++ textsB (x.m.names.take k) := ⟨_, rfl⟩
  obtain ⟨P14, hP14⟩ : ∃ L, L = PackM.textB x.m.data := ⟨_, rfl⟩
  obtain ⟨L14, hL14⟩ : ∃ L, L = L13 x.m.names.length ++ P14 := ⟨_, rfl⟩
  have hT : x.m.text = L14 := by
    rw [hL14, hL13, hL12, hL11, hL10, hL9, hL8, hL7, hL6, hL5, hL4, hL3, hL2, hL1, hP14, hP8, hP7, hP6, hP5, hP4, hP3, hP2, hP1]
    unfold Ms.text
    rw [kk2, wk2, ok2, nk2, show PackM.numB 1 77 = [77] from rfl]
    simp only [List.append_assoc, List.cons_append, List.nil_append, List.take_length]
  have l1 : L1.length ≤ 2 := by rw [hL1]; simp
  have q1 : P1.length ≤ 4 := by rw [hP1, PackM.numB_len]; omega
  have l2 : L2.length ≤ 6 := by rw [hL2, List.length_append]; omega
  have q2 : P2.length ≤ 4 := by rw [hP2, PackM.numB_len]; omega
  have l3 : L3.length ≤ 10 := by rw [hL3, List.length_append]; omega
  have q3 : P3.length ≤ 4 := by rw [hP3, PackM.numB_len]; omega
  have l4 : L4.length ≤ 14 := by rw [hL4, List.length_append]; omega
  have q4 : P4.length ≤ 17 := by rw [hP4, PackM.textB_len]; omega
  have l5 : L5.length ≤ 31 := by rw [hL5, List.length_append]; omega
  have q5 : P5.length ≤ 4 := by rw [hP5, PackM.numB_len]; omega
  have l6 : L6.length ≤ 35 := by rw [hL6, List.length_append]; omega
  have q6 : P6.length ≤ 4 := by rw [hP6, PackM.numB_len]; omega
  have l7 : L7.length ≤ 39 := by rw [hL7, List.length_append]; omega
  have q7 : P7.length ≤ 4 := by rw [hP7, PackM.numB_len]; omega
  have l8 : L8.length ≤ 43 := by rw [hL8, List.length_append]; omega
  have q8 : P8.length ≤ 4 := by rw [hP8, PackM.numB_len]; omega
  have l9 : L9.length ≤ 47 := by rw [hL9, List.length_append]; omega
  have l10 : L10.length ≤ 49 := by rw [hL10, List.length_append]; simp; omega
  have HL11 : Hid (∀ k, (L11 k).length ≤ 1069) := Lib.hid fun k => by rw [hL11]; show (L10 ++ numsB (x.m.who.take k)).length ≤ _; rw [List.length_append, numsB_len, List.length_take]; omega
  have l12 : L12.length ≤ 1070 := by rw [hL12, List.length_append]; have := HL11.out x.m.who.length; simp; omega
  have HL13 : Hid (∀ k, (L13 k).length ≤ 1070 + 2048) := Lib.hid fun k => by
    rw [hL13]
    show (L12 ++ textsB (x.m.names.take k)).length ≤ _
    have h1 := textsB_len (x.m.names.take k)
    have h2 : (x.m.names.take k).length ≤ x.m.names.length := by rw [List.length_take]; omega
    rw [List.length_append]
    omega
  have q14 : P14.length ≤ 256 := by rw [hP14, PackM.textB_len]; omega
  have l14 : L14.length ≤ 1070 + 2048 + 256 := by rw [hL14, List.length_append]; have := HL13.out x.m.names.length; omega
  have HK11 : Hid (∀ k (h : k < x.m.who.length), L11 (k + 1) = L11 k ++ PackM.numB 4 x.m.who[k]) := Lib.hid fun k h => by rw [hL11]; show L10 ++ numsB (x.m.who.take (k + 1)) = L10 ++ numsB (x.m.who.take k) ++ _; rw [numsB_take _ k h, List.append_assoc]
  have H110 : Hid (L11 0 = L10) := Lib.hid (by rw [hL11]; show L10 ++ numsB (x.m.who.take 0) = L10; rw [List.take_zero]; exact List.append_nil _)
  have HK13 : Hid (∀ k (h : k < x.m.names.length), L13 (k + 1) = L13 k ++ PackM.textB x.m.names[k].data.toList) := Lib.hid fun k h => by rw [hL13]; show L12 ++ textsB (x.m.names.take (k + 1)) = L12 ++ textsB (x.m.names.take k) ++ _; rw [textsB_take _ k h, List.append_assoc]
  have H130 : Hid (L13 0 = L12) := Lib.hid (by rw [hL13]; show L12 ++ textsB (x.m.names.take 0) = L12; rw [List.take_zero]; exact List.append_nil _)
  have hput : x.m.put = CrcM.seal_ L14 := by show CrcM.seal_ x.m.text = _; rw [hT]
  rw [hput]
  have CS := Lib.hid (fun W X d h => R05.seal_any X L14 d W h (by omega))
  have HL10 := Lib.hid hL10; have HL12 := Lib.hid hL12; have HL14 := Lib.hid hL14
  have C1 := Lib.hid (fun W => R06.num_any 2 x.m.F W hf.f)
  rw [← hP1] at C1
  have C2 := Lib.hid (fun W => R06.num_any 2 x.m.T W hf.t)
  rw [← hP2] at C2
  have C3 := Lib.hid (fun W => R06.num_any 4 x.m.B W hf.b)
  rw [← hP3] at C3
  have C5 := Lib.hid (fun W => R06.num_any 4 x.m.A W hf.a)
  rw [← hP5] at C5
  have C6 := Lib.hid (fun W => R06.num_any 4 x.m.E W hf.e)
  rw [← hP6] at C6
  have C7 := Lib.hid (fun W => R06.num_any 4 x.m.M W hf.mm)
  rw [← hP7] at C7
  have C8 := Lib.hid (fun W => R06.num_any 2 x.m.S W hf.s)
  rw [← hP8] at C8
  have hcv := fun W => Label.conv_any x.m.s W (by omega)
  have HCV := Lib.hid hcv
  have CT : Hid (∀ W X d, BytesAt W X x.m.s.data.toList → x.m.s.size ≤ d → d ≤ maxLen → Calls Try.prog 40 #[.slice X x.m.s.size d] W (RetNew W P4)) := Lib.hid fun W X d h h1 h2 => by rw [hP4]; exact R06.text_any X x.m.s.data.toList d W h h1 h2 (by omega)
  have CD := Lib.hid (fun W h => R06.text_any x.D x.m.data x.d W h hx.d hx.d2 (by omega))
  rw [← hP14] at CD
  have CW := Lib.hid (fun k (hk : k < x.m.who.length) W => R06.num_any 4 x.m.who[k] W (hf.who _ (List.getElem_mem hk)))
  have CN : Hid (∀ k (hk : k < x.m.names.length) W X d, BytesAt W X x.m.names[k].data.toList → x.m.names[k].size ≤ d → d ≤ maxLen → Calls Try.prog 40 #[.slice X x.m.names[k].size d] W (RetNew W (PackM.textB x.m.names[k].data.toList))) := Lib.hid fun k hk W X d h h1 h2 => R06.text_any X x.m.names[k].data.toList d W h h1 h2 (by have h3 := nam_size (hm.namess _ (List.getElem_mem hk)); have h4 : x.m.names[k].data.toList.length = x.m.names[k].size := rfl; omega)
  have HNC := Lib.hid (fun k (hk : k < x.m.names.length) W => Label.conv_any x.m.names[k] W (by have h3 := nam_size (hm.namess _ (List.getElem_mem hk)); omega))
  have HWLN := Lib.hid (And.intro hwl hnl)
  have HKW := Lib.hid kk3; have HWW := Lib.hid wk3; have HOW := Lib.hid ok3; have HNW := Lib.hid nk3
  have HR0 : Hid (Gth w ((w.alloc (.cells #[.int .i64 x.m.K, .int .i64 x.m.F, .int .i64 x.m.T, .int .i64 x.m.B, .string x.m.s, .int .i64 x.m.A, .int .i64 x.m.E, .int .i64 x.m.M, .int .i64 x.m.S, .int .i64 x.m.W, .slice x.P x.m.who.length x.p, .slice x.Q x.m.names.length x.q, .slice x.D x.m.data.length x.d] 26)).alloc (.cells #[.int .u8 77, .int .u8 x.m.K] 5)) w.heap.size x (.slice (some ⟨w.heap.size + 1, 0, none⟩) 2 2) L1) := Lib.hid (by
    have e1 : (w.alloc (.cells #[.int .i64 x.m.K, .int .i64 x.m.F, .int .i64 x.m.T, .int .i64 x.m.B, .string x.m.s, .int .i64 x.m.A, .int .i64 x.m.E, .int .i64 x.m.M, .int .i64 x.m.S, .int .i64 x.m.W, .slice x.P x.m.who.length x.p, .slice x.Q x.m.names.length x.q, .slice x.D x.m.data.length x.d] 26)).heap.size = w.heap.size + 1 := by simp
    have h1 := own_lit2 (w.alloc (.cells #[.int .i64 x.m.K, .int .i64 x.m.F, .int .i64 x.m.T, .int .i64 x.m.B, .string x.m.s, .int .i64 x.m.A, .int .i64 x.m.E, .int .i64 x.m.M, .int .i64 x.m.S, .int .i64 x.m.W, .slice x.P x.m.who.length x.p, .slice x.Q x.m.names.length x.q, .slice x.D x.m.data.length x.d] 26)) (w.heap.size + 1) (by omega) 77 (UInt8.ofNat x.m.K.toNat) 77 x.m.K rfl kk1
    rw [e1, ← hL1] at h1
    exact ⟨h1, bstep (balloc w _) (balloc _ _), rfl, (MsB.new w x).below (balloc _ _)⟩)
  have HR0 := HR0
  have HLE2 := Lib.hid hL2
  have HLE3 := Lib.hid hL3
  have HLE4 := Lib.hid hL4
  have HLE5 := Lib.hid hL5
  have HLE6 := Lib.hid hL6
  have HLE7 := Lib.hid hL7
  have HLE8 := Lib.hid hL8
  have HLE9 := Lib.hid hL9
  clear hx hf hm W1 W2 W4 hs16 hsl htl hwl hnl hdl hk hww kk1 kk2 wk1 wk2 wk3 ok1 ok2 ok3 nk1 nk2 nk3 hT hput hcv hL1 hP1 hL2 hP2 hL3 hP3 hL4 hP4 hL5 hP5 hL6 hP6 hL7 hP7 hL8 hP8 hL9 hL10 hL11 hL12 hL13 hP14 hL14
  generalize UInt8.ofNat x.m.K.toNat = kb at *
  generalize UInt8.ofNat x.m.W.toNat = wb at *
  generalize UInt8.ofNat ((x.m.who.length : Nat) : Int).toNat = ob at *
  generalize UInt8.ofNat ((x.m.names.length : Nat) : Int).toNat = nb at *
  go_enter Try.func18, Try.ntmps18
  go_wp2_with fail
  clear kk3
  obtain ⟨w1, hw1⟩ : ∃ w1, w1 = (w.alloc (.cells #[.int .i64 x.m.K, .int .i64 x.m.F, .int .i64 x.m.T, .int .i64 x.m.B, .string x.m.s, .int .i64 x.m.A, .int .i64 x.m.E, .int .i64 x.m.M, .int .i64 x.m.S, .int .i64 x.m.W, .slice x.P x.m.who.length x.p, .slice x.Q x.m.names.length x.q, .slice x.D x.m.data.length x.d] 26)).alloc (.cells #[.int .u8 77, .int .u8 x.m.K] 5) := ⟨_, rfl⟩
  rw [← hw1] at HR0 ⊢
  clear hw1
  obtain ⟨p, hp⟩ : ∃ p, p = w.heap.size := ⟨_, rfl⟩
  rw [← hp] at HR0 ⊢
  clear hp
  have G1 := HR0
  refine (C1.out _).mono ?_
  rintro e w1x ⟨X, d, rfl, x1, x2, x3, hb, -⟩
  have HXX := Lib.hid x3
  have GX := Lib.hid (G1.out.next hb)
  clear hb x3 x1 x2 C1 G1
  go_wp2_with (at_builtin; refine wpList_append_at rfl _ _ rfl (p + 1) _ L1 P1 rfl GX.out.own X _ _ rfl rfl HXX.out (by omega) GX.out.lt ?_; intro v2 w2 ha; have G2 : Hid (Gth w w2 p x v2 L2) := Lib.hid (by rw [HLE2.out]; exact GX.out.app ha); obtain ⟨A2, e2, hv⟩ := G2.out.slice; subst hv; clear ha HXX GX; have cc := G2.out.rc.c2)
  refine (C2.out _).mono ?_
  rintro e w2x ⟨X, d, rfl, x1, x2, x3, hb, -⟩
  have HXX := Lib.hid x3
  have GX := Lib.hid (G2.out.next hb)
  clear hb x3 x1 x2 C2 G2 cc
  go_wp2_with (at_builtin; refine wpList_append_at rfl _ _ rfl (p + 1) _ L2 P2 rfl GX.out.own X _ _ rfl rfl HXX.out (by omega) GX.out.lt ?_; intro v3 w3 ha; have G3 : Hid (Gth w w3 p x v3 L3) := Lib.hid (by rw [HLE3.out]; exact GX.out.app ha); obtain ⟨A3, e3, hv⟩ := G3.out.slice; subst hv; clear ha HXX GX; have cc := G3.out.rc.c3)
  refine (C3.out _).mono ?_
  rintro e w3x ⟨X, d, rfl, x1, x2, x3, hb, -⟩
  have HXX := Lib.hid x3
  have GX := Lib.hid (G3.out.next hb)
  clear hb x3 x1 x2 C3 G3 cc
  go_wp2_with (at_builtin; refine wpList_append_at rfl _ _ rfl (p + 1) _ L3 P3 rfl GX.out.own X _ _ rfl rfl HXX.out (by omega) GX.out.lt ?_; intro v4 w4 ha; have G4 : Hid (Gth w w4 p x v4 L4) := Lib.hid (by rw [HLE4.out]; exact GX.out.app ha); obtain ⟨A4, e4, hv⟩ := G4.out.slice; subst hv; clear ha HXX GX; have cc := G4.out.rc.c4; obtain ⟨V4, cv4, hcv, hcc1, hcc2, hcb, hbV⟩ := HCV.out w4; have G4V := Lib.hid (G4.out.next hbV); clear hbV G4 HCV)
  refine (CT.out V4 _ _ hcb hcc1 hcc2).mono ?_
  rintro e w4x ⟨X, d, rfl, x1, x2, x3, hb, -⟩
  have HXX := Lib.hid x3
  have GX := Lib.hid (G4V.out.next hb)
  clear hb x3 x1 x2 G4V CT hcb hcc1 hcc2 hcv cc
  go_wp2_with (at_builtin; refine wpList_append_at rfl _ _ rfl (p + 1) _ L4 P4 rfl GX.out.own X _ _ rfl rfl HXX.out (by omega) GX.out.lt ?_; intro v5 w5 ha; have G5 : Hid (Gth w w5 p x v5 L5) := Lib.hid (by rw [HLE5.out]; exact GX.out.app ha); obtain ⟨A5, e5, hv⟩ := G5.out.slice; subst hv; clear ha HXX GX; have cc := G5.out.rc.c5)
  refine (C5.out _).mono ?_
  rintro e w5x ⟨X, d, rfl, x1, x2, x3, hb, -⟩
  have HXX := Lib.hid x3
  have GX := Lib.hid (G5.out.next hb)
  clear hb x3 x1 x2 C5 G5 cc
  go_wp2_with (at_builtin; refine wpList_append_at rfl _ _ rfl (p + 1) _ L5 P5 rfl GX.out.own X _ _ rfl rfl HXX.out (by omega) GX.out.lt ?_; intro v6 w6 ha; have G6 : Hid (Gth w w6 p x v6 L6) := Lib.hid (by rw [HLE6.out]; exact GX.out.app ha); obtain ⟨A6, e6, hv⟩ := G6.out.slice; subst hv; clear ha HXX GX; have cc := G6.out.rc.c6)
  refine (C6.out _).mono ?_
  rintro e w6x ⟨X, d, rfl, x1, x2, x3, hb, -⟩
  have HXX := Lib.hid x3
  have GX := Lib.hid (G6.out.next hb)
  clear hb x3 x1 x2 C6 G6 cc
  go_wp2_with (at_builtin; refine wpList_append_at rfl _ _ rfl (p + 1) _ L6 P6 rfl GX.out.own X _ _ rfl rfl HXX.out (by omega) GX.out.lt ?_; intro v7 w7 ha; have G7 : Hid (Gth w w7 p x v7 L7) := Lib.hid (by rw [HLE7.out]; exact GX.out.app ha); obtain ⟨A7, e7, hv⟩ := G7.out.slice; subst hv; clear ha HXX GX; have cc := G7.out.rc.c7)
  refine (C7.out _).mono ?_
  rintro e w7x ⟨X, d, rfl, x1, x2, x3, hb, -⟩
  have HXX := Lib.hid x3
  have GX := Lib.hid (G7.out.next hb)
  clear hb x3 x1 x2 C7 G7 cc
  go_wp2_with (at_builtin; refine wpList_append_at rfl _ _ rfl (p + 1) _ L7 P7 rfl GX.out.own X _ _ rfl rfl HXX.out (by omega) GX.out.lt ?_; intro v8 w8 ha; have G8 : Hid (Gth w w8 p x v8 L8) := Lib.hid (by rw [HLE8.out]; exact GX.out.app ha); obtain ⟨A8, e8, hv⟩ := G8.out.slice; subst hv; clear ha HXX GX; have cc := G8.out.rc.c8)
  refine (C8.out _).mono ?_
  rintro e w8x ⟨X, d, rfl, x1, x2, x3, hb, -⟩
  have HXX := Lib.hid x3
  have GX := Lib.hid (G8.out.next hb)
  clear hb x3 x1 x2 C8 G8 cc
  go_wp2_with (first
    | (at_builtin; refine wpList_append_at rfl _ _ rfl (p + 1) _ L8 P8 rfl GX.out.own X _ _ rfl rfl HXX.out (by omega) GX.out.lt ?_; intro v9 w9 ha; have G9 : Hid (Gth w w9 p x v9 L9) := Lib.hid (by rw [HLE9.out]; exact GX.out.app ha); obtain ⟨A9, e9, hv⟩ := G9.out.slice; subst hv; clear ha HXX GX; have cc := G9.out.rc.c9; have c10 := G9.out.rc.c10; have hwwk := HWW.out; have howk := HOW.out)
    | (at_builtin; refine wpList_append_at rfl _ _ rfl (p + 1) _ L9 [wb, ob] rfl (G9.out.own.below (balloc w9 (.cells #[.int .u8 x.m.W, .int .u8 (x.m.who.length : Nat)] 5))) (some ⟨w9.heap.size, 0, none⟩) _ _ rfl rfl (bytes_lit2 w9 wb ob x.m.W (x.m.who.length : Nat) HWK.out HOK.out) (by simp; omega) (G9.out.next (balloc w9 (.cells #[.int .u8 x.m.W, .int .u8 (x.m.who.length : Nat)] 5))).lt ?_; intro v10 w10 ha; have G10 : Hid (Gth w w10 p x v10 L10) := Lib.hid (by have h := (G9.out.next (balloc w9 (.cells #[.int .u8 x.m.W, .int .u8 (x.m.who.length : Nat)] 5))).app ha; rw [← HL10.out] at h; exact h); obtain ⟨A10, e10, hv⟩ := G10.out.slice; subst hv; clear ha G9 cc c10 hwwk howk))
  go_loopw [3, 4] (fun v i wr => ∃ (v0 : Value) (k : Nat), v0 = v ∧ k ≤ x.m.who.length ∧ i = .int .i64 k ∧ Hid (Gth w wr p x v0 (L11 k)))
    (fun _ i _ => x.m.who.length - (intOf i).toNat)
  case atStart => exact ⟨_, 0, rfl, Nat.zero_le _, rfl, Lib.hid (by rw [H110.out]; exact G10.out)⟩
  case round =>
    clear G10
    obtain ⟨v0, k, hv0, hk, rfl, HJ⟩ := hrel
    subst hv0
    rename World => wr
    have c10 := HJ.out.rc.c10
    have hwl := HWLN.out.1
    by_cases hlt : k < x.m.who.length
    · obtain ⟨b, o, hP, e0⟩ := (HX.out.who.below HJ.out.below : IntsAt _ _ _).at hlt
      have C := Lib.hid (CW.out k hlt)
      have HK := Lib.hid (HK11.out k hlt)
      obtain ⟨u, hu⟩ : ∃ u, u = x.m.who[k] := ⟨_, rfl⟩
      rw [← hu] at C HK e0
      rw [hP] at c10
      clear hP hu
      go_wp2_with fail
      refine (C.out _).mono ?_
      rintro e w2 ⟨X, d, rfl, x1, x2, x3, hb, -⟩
      have HXX := Lib.hid x3
      have GX := Lib.hid (HJ.out.next hb)
      have hl1 := HL11.out k
      have hl2 : (PackM.numB 4 u).length = 4 := PackM.numB_len _ _
      clear hb x3 x1 x2 C HJ c10 e0
      go_wp2_with (at_builtin; refine wpList_append_at rfl _ _ rfl (p + 1) _ (L11 k) (PackM.numB 4 u) rfl GX.out.own X _ _ rfl rfl HXX.out (by omega) GX.out.lt ?_; intro v3 w3 ha; have G3 : Hid (Gth w w3 p x v3 (L11 (k + 1))) := Lib.hid (by rw [HK.out]; exact GX.out.app ha); clear ha HXX GX)
      go_roundw
      case rel => exact ⟨_, k + 1, rfl, by omega, by go_num, G3⟩
      case measure => simp [intOf] <;> omega
    · obtain rfl : k = x.m.who.length := by omega
      have c11 := HJ.out.rc.c11
      have hnwk := HNW.out
      have hl1 := HL11.out x.m.who.length
      clear CW HK11 HL11 H110
      go_wp2_with (at_builtin; refine wpList_append_at rfl _ _ rfl (p + 1) _ (L11 x.m.who.length) [nb] rfl (HJ.out.own.below (balloc wr (.cells #[.int .u8 (x.m.names.length : Nat)] 5))) (some ⟨wr.heap.size, 0, none⟩) _ _ rfl rfl (bytes_lit1 wr nb (x.m.names.length : Nat) HNK.out) (by simp; omega) (HJ.out.next (balloc wr (.cells #[.int .u8 (x.m.names.length : Nat)] 5))).lt ?_; intro v12 w12 ha; have G12 : Hid (Gth w w12 p x v12 L12) := Lib.hid (by have h := (HJ.out.next (balloc wr (.cells #[.int .u8 (x.m.names.length : Nat)] 5))).app ha; rw [← HL12.out] at h; exact h); clear ha HJ c10 c11 hnwk)
      go_loopw [3, 5] (fun v i wr => ∃ (v0 : Value) (k : Nat), v0 = v ∧ k ≤ x.m.names.length ∧ i = .int .i64 k ∧ Hid (Gth w wr p x v0 (L13 k)))
        (fun _ i _ => x.m.names.length - (intOf i).toNat)
      case atStart => exact ⟨_, 0, rfl, Nat.zero_le _, rfl, Lib.hid (by rw [H130.out]; exact G12.out)⟩
      case round =>
        clear G12
        obtain ⟨v0, k, hv0, hk, rfl, HJ⟩ := hrel
        subst hv0
        rename World => wr
        have c11 := HJ.out.rc.c11
        have hnl := HWLN.out.2
        by_cases hlt : k < x.m.names.length
        · obtain ⟨b, o, hP, e0⟩ := (HX.out.names.below HJ.out.below : StrsAt _ _ _).at hlt
          obtain ⟨V, cv, hcv, hc1, hc2, hcb, hbV⟩ := HNC.out k hlt wr
          have C := Lib.hid (CN.out k hlt V _ cv hcb hc1 hc2)
          have HK := Lib.hid (HK13.out k hlt)
          have GV := Lib.hid (HJ.out.next hbV)
          clear hcb hc1 hc2 hbV
          obtain ⟨u, hu⟩ : ∃ u, u = x.m.names[k] := ⟨_, rfl⟩
          rw [← hu] at C HK e0 hcv
          rw [hP] at c11
          clear hP hu HJ
          go_wp2_with fail
          refine C.out.mono ?_
          rintro e w2 ⟨X, d, rfl, x1, x2, x3, hb, -⟩
          have HXX := Lib.hid x3
          have GX := Lib.hid (GV.out.next hb)
          have hl1 := HL13.out k
          have hl2 : (PackM.textB u.data.toList).length ≤ 256 := by rw [PackM.textB_len]; omega
          clear hb x3 x1 x2 C GV c11 e0 hcv
          go_wp2_with (at_builtin; refine wpList_append_at rfl _ _ rfl (p + 1) _ (L13 k) (PackM.textB u.data.toList) rfl GX.out.own X _ _ rfl rfl HXX.out (by omega) GX.out.lt ?_; intro v3 w3 ha; have G3 : Hid (Gth w w3 p x v3 (L13 (k + 1))) := Lib.hid (by rw [HK.out]; exact GX.out.app ha); clear ha HXX GX)
          go_roundw
          case rel => exact ⟨_, k + 1, rfl, by omega, by go_num, G3⟩
          case measure => simp [intOf] <;> omega
        · obtain rfl : k = x.m.names.length := by omega
          have c12 := HJ.out.rc.c12
          have hl1 := HL13.out x.m.names.length
          clear CN HK13 HL13 H130 HNC
          go_wp2_with fail
          refine (CD.out _ (HX.out.data.below HJ.out.below)).mono ?_
          rintro e w2 ⟨X, d, rfl, x1, x2, x3, hb, -⟩
          have HXX := Lib.hid x3
          have GX := Lib.hid (HJ.out.next hb)
          clear hb x3 x1 x2 CD HJ c11 c12
          go_wp2_with (at_builtin; refine wpList_append_at rfl _ _ rfl (p + 1) _ (L13 x.m.names.length) P14 rfl GX.out.own X _ _ rfl rfl HXX.out (by omega) GX.out.lt ?_; intro v14 w14 ha; have G14 : Hid (Gth w w14 p x v14 L14) := Lib.hid (by rw [HL14.out]; exact GX.out.app ha); obtain ⟨A14, e14, hv⟩ := G14.out.slice; subst hv; clear ha HXX GX)
          obtain ⟨A15, e15, hv, _, _, hbx⟩ := G14.out.own.bytes
          injection hv with hv1 hv2 hv3
          subst hv1
          have HBX := Lib.hid hbx
          have HBB := Lib.hid G14.out.below
          clear hv2 hv3 hbx G14
          refine (CS.out _ _ _ HBX.out).mono ?_
          rintro e w15 ⟨X, d, rfl, x1, x2, x3, hb, hn⟩
          have HXX := Lib.hid x3; have HN := Lib.hid hn
          have HB := Lib.hid (bstep HBB.out hb)
          clear x3 hn hb CS HBX
          go_wp2
          go_ret
          exact ⟨X, d, rfl, x1, x2, HXX.out, HB.out, HN.out.mono HBB.out.size⟩
end Go.Proofs.Ytjoocjkakgjgmaa.R25
