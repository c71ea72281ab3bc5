/- package msg: written -/
import Derived.Test.YtjoocjkakgjgmaaMsgA
import Derived.Test.YtjoocjkakgjgmaaLabelB
import Derived.Test.YtjoocjkakgjgmaaPack
set_option maxRecDepth 100000
set_option maxHeartbeats 2000000
namespace Go.Proofs.Ytjoocjkakgjgmaa.Msg
open Go.RowKit MsgM
open R07 (StrsAt Sane RetStrs)

theorem text1_any (g base : Nat) (v : Value) (l : List UInt8) (s : ByteArray) (w : World) (h : Pack.WAt w g base v l) (hl : l.length ≤ 1000000) (hb : base ≤ w.heap.size) (hs : s.size ≤ 1048576) :
    Calls Try.prog 49 #[.string s, .pointer (some ⟨g, 0, none⟩)] w (Pack.WPost w g base v (l ++ PackM.textB s.data.toList)) := by
  obtain ⟨V, c, hconv, hc1, hc2, hBT, hbV⟩ := Label.conv_any s w hs
  have C := Pack.wtext_any g base v l (some ⟨w.heap.size, 0, none⟩) s.data.toList c V (h.below hbV) hl (by have := hbV.size; omega) hBT hs hc1 hc2 (fun h0 a ea => by
      injection ea with ea; subst ea
      have h1 := h.lt
      refine ⟨by show w.heap.size ≠ g; omega, fun h2 => ?_⟩
      have := (h.own.lt _ h2).2
      exact absurd this (by show ¬ w.heap.size < w.heap.size; omega))
  have C : Calls Try.prog 50 #[.pointer (some ⟨g, 0, none⟩), .slice (some ⟨w.heap.size, 0, none⟩) s.size c] V (Pack.WPost V g base v (l ++ PackM.textB s.data.toList)) := C
  have HC := Lib.hid C; have HB := Lib.hid hbV
  clear C hbV hBT hc1 hc2 h hs
  generalize s.size = n at *
  go_enter Try.func49, Try.ntmps49
  go_wp2_with fail
  refine HC.out.mono ?_
  rintro e w2 hp
  obtain ⟨rfl, _⟩ := id hp
  have HP := Lib.hid (Pack.WPost.after HB.out hp)
  clear hp HC HB hconv
  go_wp2
  go_end0
  exact HP.out
theorem num2_any (g base : Nat) (v : Value) (l : List UInt8) (n : Int) (w : World) (h : Pack.WAt w g base v l) (hl : l.length ≤ 1000000) (hb : base ≤ w.heap.size) (hn : -9223372036854775808 ≤ n ∧ n ≤ 9223372036854775807) :
    Calls Try.prog 53 #[.int .i64 n, .pointer (some ⟨g, 0, none⟩)] w (Pack.WPost w g base v (l ++ PackM.numB 4 n)) := by
  have C := Pack.wnum_any g base v l 4 n w h (by omega) hb hn
  have HC := Lib.hid C
  clear C h hn
  go_enter Try.func53, Try.ntmps53
  go_wp2_with fail
  refine HC.out.mono ?_
  rintro e w2 hp
  obtain ⟨rfl, _⟩ := id hp
  have HP := Lib.hid hp
  clear hp HC
  go_wp2
  go_end0
  exact HP.out
theorem wpost_refl {w : World} {g base : Nat} {v : Value} {l : List UInt8} (h : Pack.WAt w g base v l) : Pack.WPost w g base v l (.returned (.tuple #[])) w := ⟨rfl, v, h, .refl _ _, .inl rfl⟩

theorem eachInt_any (g base : Nat) (v : Value) (L : List UInt8) (A : Option Addr) (l : List Int) (c : Nat) (w : World) (h : Pack.WAt w g base v L) (hL : L.length ≤ 2000) (hb : base ≤ w.heap.size) (hA : IntsAt w A l) (hl : l.length ≤ 255) (hok : ∀ n ∈ l, -9223372036854775808 ≤ n ∧ n ≤ 9223372036854775807)
    (hne : 0 < l.length → ∀ a, A = some a → a.block ≠ g ∧ v.ownBlock ≠ some a.block) :
    Calls Try.prog 52 #[.func (.func 51) #[.pointer (some ⟨g, 0, none⟩)] #[], .slice A l.length c, .func (.func 53) #[] #[.pointer (some ⟨g, 0, none⟩)]] w (Pack.WPost w g base v (L ++ PackM.numB 1 (l.length : Nat) ++ numsB l)) := by
  have C0 := Lib.hid (Pack.wnum_any g base v L 1 (l.length : Nat) w h (by omega) hb (by omega))
  have hn1 : (PackM.numB 1 (l.length : Nat)).length = 1 := by rw [PackM.numB_len]; rfl
  have HL : Hid (∀ k, (L ++ PackM.numB 1 (l.length : Nat) ++ numsB (l.take k)).length ≤ 1000000) := Lib.hid fun k => by
    have h2 : (numsB (l.take k)).length ≤ 256 * (l.take k).length := (by rw [numsB_len]; omega)
    have h3 : (l.take k).length ≤ l.length := by rw [List.length_take]; omega
    rw [List.length_append, List.length_append, hn1]
    omega
  have HK : Hid (∀ k (h : k < l.length), L ++ PackM.numB 1 (l.length : Nat) ++ numsB (l.take (k + 1)) = (L ++ PackM.numB 1 (l.length : Nat) ++ numsB (l.take k)) ++ PackM.numB 4 l[k]) := Lib.hid fun k h => by
    rw [numsB_take l k h, List.append_assoc (L ++ _)]
  have H0 : Hid (L ++ PackM.numB 1 (l.length : Nat) ++ numsB (l.take 0) = L ++ PackM.numB 1 (l.length : Nat)) := Lib.hid (by rw [List.take_zero]; exact List.append_nil _)
  have HE : Hid (L ++ PackM.numB 1 (l.length : Nat) ++ numsB (l.take l.length) = L ++ PackM.numB 1 (l.length : Nat) ++ numsB l) := Lib.hid (by rw [List.take_length])
  obtain ⟨T, hT⟩ : ∃ T : Nat → List UInt8, T = fun k => L ++ PackM.numB 1 (l.length : Nat) ++ numsB (l.take k) := ⟨_, rfl⟩
  have HL : Hid (∀ k, (T k).length ≤ 1000000) := Lib.hid (by rw [hT]; exact HL.out)
  have HK : Hid (∀ k (h : k < l.length), T (k + 1) = T k ++ PackM.numB 4 l[k]) := Lib.hid (by rw [hT]; exact HK.out)
  have H0 : Hid (T 0 = L ++ PackM.numB 1 (l.length : Nat)) := Lib.hid (by rw [hT]; exact H0.out)
  have HE : Hid (T l.length = L ++ PackM.numB 1 (l.length : Nat) ++ numsB l) := Lib.hid (by rw [hT]; exact HE.out)
  have C1 : Hid (Calls Try.prog 51 #[.pointer (some ⟨g, 0, none⟩), .int .i64 1, .int .i64 (l.length : Nat)] w (Pack.WPost w g base v (T 0))) := Lib.hid (by rw [H0.out]; exact C0.out)
  rw [← HE.out]
  have HA : Hid (∀ V, Keeps (fun b => b = g ∨ v.ownBlock = some b) w V → IntsAt V A l) := Lib.hid fun V q => CellsAt.keep hA q (fun h0 a e hf => by
    have h1 := hne (by simpa [intV, LabM.strV] using h0) a e
    rcases hf with hf | hf
    · exact h1.1 hf
    · exact h1.2 hf)
  have HOK := Lib.hid hok
  have HH := Lib.hid h
  clear hT h hA hne hok hn1 C0 H0 HE hL
  have C2 := Lib.hid (fun (k : Nat) (hk : k < l.length) (v1 : Value) (W : World) (q : Pack.WAt W g base v1 (T k)) (hb : base ≤ W.heap.size) => num2_any g base v1 (T k) l[k] W q (HL.out k) hb (HOK.out _ (List.getElem_mem hk)))
  go_enter Try.func52, Try.ntmps52
  go_wp2_with fail
  refine C1.out.mono ?_
  rintro e w1 hp
  obtain ⟨rfl, _⟩ := id hp
  have HP := Lib.hid hp
  clear hp C1 HH
  go_wp2_with fail
  go_loopw [7, 14] (fun _ i wr => ∃ k : Nat, k ≤ l.length ∧ i = .int .i64 k ∧ Hid (Pack.WPost w g base v (T k) (.returned (.tuple #[])) wr))
    (fun _ i _ => l.length - (intOf i).toNat)
  case atStart => exact ⟨0, Nat.zero_le _, rfl, HP⟩
  case round =>
    clear HP
    obtain ⟨k, hk, rfl, HW⟩ := hrel
    rename World => wr
    by_cases hlt : k < l.length
    · obtain ⟨_, v1, h1, q1, p1⟩ := HW.out
      obtain ⟨b, o, rfl, e0⟩ := (HA.out wr q1).at hlt
      have C := C2.out k hlt v1 wr h1 (by have := q1.size; omega)
      rw [← HK.out k hlt] at C
      have HC := Lib.hid C; have Q1 := Lib.hid q1; have P1 := Lib.hid p1
      clear C h1 q1 p1 HW
      go_wp2_with fail
      refine HC.out.mono ?_
      rintro e w2 hp
      obtain ⟨rfl, _⟩ := id hp
      have HP := Lib.hid (Label.WPost.trans Q1.out P1.out hp)
      clear hp HC Q1 P1
      go_wp2
      go_roundw
      case rel => exact ⟨k + 1, by omega, by go_num, HP⟩
      case measure => simp [intOf] <;> omega
    · have hkl : l.length = k := by omega
      rw [hkl]
      have HW2 := HW
      clear HW hkl
      go_wp2
      go_end0
      exact HW2.out

theorem eachByteArray_any (g base : Nat) (v : Value) (L : List UInt8) (A : Option Addr) (l : List ByteArray) (c : Nat) (w : World) (h : Pack.WAt w g base v L) (hL : L.length ≤ 2000) (hb : base ≤ w.heap.size) (hA : StrsAt w A l) (hl : l.length ≤ 255) (hok : ∀ n ∈ l, n.size ≤ 1048576)
    (hne : 0 < l.length → ∀ a, A = some a → a.block ≠ g ∧ v.ownBlock ≠ some a.block) :
    Calls Try.prog 54 #[.func (.func 51) #[.pointer (some ⟨g, 0, none⟩)] #[], .slice A l.length c, .func (.func 49) #[] #[.pointer (some ⟨g, 0, none⟩)]] w (Pack.WPost w g base v (L ++ PackM.numB 1 (l.length : Nat) ++ textsB l)) := by
  have C0 := Lib.hid (Pack.wnum_any g base v L 1 (l.length : Nat) w h (by omega) hb (by omega))
  have hn1 : (PackM.numB 1 (l.length : Nat)).length = 1 := by rw [PackM.numB_len]; rfl
  have HL : Hid (∀ k, (L ++ PackM.numB 1 (l.length : Nat) ++ textsB (l.take k)).length ≤ 1000000) := Lib.hid fun k => by
    have h2 : (textsB (l.take k)).length ≤ 256 * (l.take k).length := textsB_len _
    have h3 : (l.take k).length ≤ l.length := by rw [List.length_take]; omega
    rw [List.length_append, List.length_append, hn1]
    omega
  have HK : Hid (∀ k (h : k < l.length), L ++ PackM.numB 1 (l.length : Nat) ++ textsB (l.take (k + 1)) = (L ++ PackM.numB 1 (l.length : Nat) ++ textsB (l.take k)) ++ PackM.textB l[k].data.toList) := Lib.hid fun k h => by
    rw [textsB_take l k h, List.append_assoc (L ++ _)]
  have H0 : Hid (L ++ PackM.numB 1 (l.length : Nat) ++ textsB (l.take 0) = L ++ PackM.numB 1 (l.length : Nat)) := Lib.hid (by rw [List.take_zero]; exact List.append_nil _)
  have HE : Hid (L ++ PackM.numB 1 (l.length : Nat) ++ textsB (l.take l.length) = L ++ PackM.numB 1 (l.length : Nat) ++ textsB l) := Lib.hid (by rw [List.take_length])
  obtain ⟨T, hT⟩ : ∃ T : Nat → List UInt8, T = fun k => L ++ PackM.numB 1 (l.length : Nat) ++ textsB (l.take k) := ⟨_, rfl⟩
  have HL : Hid (∀ k, (T k).length ≤ 1000000) := Lib.hid (by rw [hT]; exact HL.out)
  have HK : Hid (∀ k (h : k < l.length), T (k + 1) = T k ++ PackM.textB l[k].data.toList) := Lib.hid (by rw [hT]; exact HK.out)
  have H0 : Hid (T 0 = L ++ PackM.numB 1 (l.length : Nat)) := Lib.hid (by rw [hT]; exact H0.out)
  have HE : Hid (T l.length = L ++ PackM.numB 1 (l.length : Nat) ++ textsB l) := Lib.hid (by rw [hT]; exact HE.out)
  have C1 : Hid (Calls Try.prog 51 #[.pointer (some ⟨g, 0, none⟩), .int .i64 1, .int .i64 (l.length : Nat)] w (Pack.WPost w g base v (T 0))) := Lib.hid (by rw [H0.out]; exact C0.out)
  rw [← HE.out]
  have HA : Hid (∀ V, Keeps (fun b => b = g ∨ v.ownBlock = some b) w V → StrsAt V A l) := Lib.hid fun V q => CellsAt.keep hA q (fun h0 a e hf => by
    have h1 := hne (by simpa [intV, LabM.strV] using h0) a e
    rcases hf with hf | hf
    · exact h1.1 hf
    · exact h1.2 hf)
  have HOK := Lib.hid hok
  have HH := Lib.hid h
  clear hT h hA hne hok hn1 C0 H0 HE hL
  have C2 := Lib.hid (fun (k : Nat) (hk : k < l.length) (v1 : Value) (W : World) (q : Pack.WAt W g base v1 (T k)) (hb : base ≤ W.heap.size) => text1_any g base v1 (T k) l[k] W q (HL.out k) hb (HOK.out _ (List.getElem_mem hk)))
  go_enter Try.func54, Try.ntmps54
  go_wp2_with fail
  refine C1.out.mono ?_
  rintro e w1 hp
  obtain ⟨rfl, _⟩ := id hp
  have HP := Lib.hid hp
  clear hp C1 HH
  go_wp2_with fail
  go_loopw [7, 14] (fun _ i wr => ∃ k : Nat, k ≤ l.length ∧ i = .int .i64 k ∧ Hid (Pack.WPost w g base v (T k) (.returned (.tuple #[])) wr))
    (fun _ i _ => l.length - (intOf i).toNat)
  case atStart => exact ⟨0, Nat.zero_le _, rfl, HP⟩
  case round =>
    clear HP
    obtain ⟨k, hk, rfl, HW⟩ := hrel
    rename World => wr
    by_cases hlt : k < l.length
    · obtain ⟨_, v1, h1, q1, p1⟩ := HW.out
      obtain ⟨b, o, rfl, e0⟩ := (HA.out wr q1).at hlt
      have C := C2.out k hlt v1 wr h1 (by have := q1.size; omega)
      rw [← HK.out k hlt] at C
      have HC := Lib.hid C; have Q1 := Lib.hid q1; have P1 := Lib.hid p1
      clear C h1 q1 p1 HW
      go_wp2_with fail
      refine HC.out.mono ?_
      rintro e w2 hp
      obtain ⟨rfl, _⟩ := id hp
      have HP := Lib.hid (Label.WPost.trans Q1.out P1.out hp)
      clear hp HC Q1 P1
      go_wp2
      go_roundw
      case rel => exact ⟨k + 1, by omega, by go_num, HP⟩
      case measure => simp [intOf] <;> omega
    · have hkl : l.length = k := by omega
      rw [hkl]
      have HW2 := HW
      clear HW hkl
      go_wp2
      go_end0
      exact HW2.out

/-- ahead of a Writer's next call: what it holds, and that nothing else was written -/
structure Wrt (w0 w : World) (g p : Nat) (x : Mv) (v : Value) (l : List UInt8) : Prop where
  at_ : Pack.WAt w g g v l
  below : Below w0.heap.size w0 w
  first : w0.heap.size ≤ p
  ne : p < g
  rc : MsB w p x
theorem Wrt.lt {w0 w : World} {g p : Nat} {x : Mv} {v : Value} {l : List UInt8} (k : Wrt w0 w g p x v l) : g ≤ w.heap.size := by have := k.at_.lt; omega
theorem Wrt.next {w0 w w' : World} {g p : Nat} {x : Mv} {v : Value} {l m : List UInt8} {e : Ending} (q : Wrt w0 w g p x v l) (k : Pack.WPost w g g v m e w') : e = .returned (.tuple #[]) ∧ ∃ v', Wrt w0 w' g p x v' m := by
  obtain ⟨he, v', h1, q1, _⟩ := k
  have hf := q.first; have hn := q.ne
  exact ⟨he, v', h1, Pack.below_w q.at_ q.below q1 (by omega) (by omega) q.below.size, hf, hn, q.rc.keep q1 (fun hk => by
    rcases hk with rfl | hk
    · omega
    · have := (q.at_.own.lt _ hk).1; omega)⟩
theorem Wrt.start (w : World) (x : Mv) (u : TypeId) : Wrt w ((w.alloc (.cells #[.int .i64 x.m.K, .int .i64 x.m.F, .int .i64 x.m.T, .int .i64 x.m.B, .string x.m.s, .int .i64 x.m.A, .int .i64 x.m.E, .int .i64 x.m.M, .int .i64 x.m.S, .int .i64 x.m.W, .slice x.P x.m.who.length x.p, .slice x.Q x.m.names.length x.q, .slice x.D x.m.data.length x.d] 26)).alloc (.cells #[.slice none 0 0] u)) (w.heap.size + 1) w.heap.size x (.slice none 0 0) [] := by
  have h1 := Pack.WAt.start (w.alloc (.cells #[.int .i64 x.m.K, .int .i64 x.m.F, .int .i64 x.m.T, .int .i64 x.m.B, .string x.m.s, .int .i64 x.m.A, .int .i64 x.m.E, .int .i64 x.m.M, .int .i64 x.m.S, .int .i64 x.m.W, .slice x.P x.m.who.length x.p, .slice x.Q x.m.names.length x.q, .slice x.D x.m.data.length x.d] 26)) u
  have e : (w.alloc (.cells #[.int .i64 x.m.K, .int .i64 x.m.F, .int .i64 x.m.T, .int .i64 x.m.B, .string x.m.s, .int .i64 x.m.A, .int .i64 x.m.E, .int .i64 x.m.M, .int .i64 x.m.S, .int .i64 x.m.W, .slice x.P x.m.who.length x.p, .slice x.Q x.m.names.length x.q, .slice x.D x.m.data.length x.d] 26)).heap.size = w.heap.size + 1 := by simp
  rw [e] at h1
  exact ⟨h1, bstep (balloc w _) (balloc _ _), Nat.le_refl _, by omega, (MsB.new w x).below (balloc _ _)⟩
/-- what lies in memory of before is not the Writer's -/
theorem Wrt.farB {w0 w : World} {g p : Nat} {x : Mv} {v : Value} {l : List UInt8} (q : Wrt w0 w g p x v l) {b : Nat} (h1 : b < w0.heap.size) : b ≠ g ∧ v.ownBlock ≠ some b := by
  have hf := q.first; have hn := q.ne
  exact ⟨by omega, fun e2 => by have := (q.at_.own.lt _ e2).1; omega⟩
theorem written_any (x : Mv) (hf : Fits x.m) (hm : x.m.May) (w : World) (hx : Lies w x) :
    Calls Try.prog 25 #[.agg #[.int .i64 x.m.K, .int .i64 x.m.F, .int .i64 x.m.T, .int .i64 x.m.B, .string x.m.s, .int .i64 x.m.A, .int .i64 x.m.E, .int .i64 x.m.M, .int .i64 x.m.S, .int .i64 x.m.W, .slice x.P x.m.who.length x.p, .slice x.Q x.m.names.length x.q, .slice x.D x.m.data.length x.d]] w (RetNew w x.m.text) := by
  have HX := Lib.hid hx
  have W1 : PackM.wid 1 = 1 := rfl
  have W2 : PackM.wid 2 = 2 := rfl
  have W4 : PackM.wid 4 = 4 := rfl
  have hs16 : x.m.s.size ≤ 16 := by
    rcases hm.nm with e | e
    · omega
    · exact (nam_size e).2
  have hsl : x.m.s.data.toList.length = x.m.s.size := rfl
  have htl := textsB_len_may x.m.names hm.namess
  have hwl := hm.who
  have hnl := hm.names
  have hdl := hm.data
  obtain ⟨L1, hL1⟩ : ∃ L, L = PackM.numB 1 77 := ⟨_, rfl⟩
  obtain ⟨L2, hL2⟩ : ∃ L, L = L1 ++ PackM.numB 1 x.m.K := ⟨_, rfl⟩
  obtain ⟨L3, hL3⟩ : ∃ L, L = L2 ++ PackM.numB 2 x.m.F := ⟨_, rfl⟩
  obtain ⟨L4, hL4⟩ : ∃ L, L = L3 ++ PackM.numB 2 x.m.T := ⟨_, rfl⟩
  obtain ⟨L5, hL5⟩ : ∃ L, L = L4 ++ PackM.numB 4 x.m.B := ⟨_, rfl⟩
  obtain ⟨L6, hL6⟩ : ∃ L, L = L5 ++ PackM.textB x.m.s.data.toList := ⟨_, rfl⟩
  obtain ⟨L7, hL7⟩ : ∃ L, L = L6 ++ PackM.numB 4 x.m.A := ⟨_, rfl⟩
  obtain ⟨L8, hL8⟩ : ∃ L, L = L7 ++ PackM.numB 4 x.m.E := ⟨_, rfl⟩
  obtain ⟨L9, hL9⟩ : ∃ L, L = L8 ++ PackM.numB 4 x.m.M := ⟨_, rfl⟩
  obtain ⟨L10, hL10⟩ : ∃ L, L = L9 ++ PackM.numB 2 x.m.S := ⟨_, rfl⟩
  obtain ⟨L11, hL11⟩ : ∃ L, L = L10 ++ PackM.numB 1 x.m.W := ⟨_, rfl⟩
  obtain ⟨L12, hL12⟩ : ∃ L, L = L11 ++ PackM.numB 1 (x.m.who.length : Nat) ++ numsB x.m.who := ⟨_, rfl⟩
  obtain ⟨L13, hL13⟩ : ∃ L, L = L12 ++ PackM.numB 1 (x.m.names.length : Nat) ++ textsB x.m.names := ⟨_, rfl⟩
  obtain ⟨L14, hL14⟩ : ∃ L, L = L13 ++ PackM.textB x.m.data := ⟨_, rfl⟩
  have l1 : L1.length ≤ 4 := by rw [hL1, PackM.numB_len, W1]; omega
  have l2 : L2.length ≤ 8 := by rw [hL2, List.length_append, PackM.numB_len]; omega
  have l3 : L3.length ≤ 12 := by rw [hL3, List.length_append, PackM.numB_len]; omega
  have l4 : L4.length ≤ 16 := by rw [hL4, List.length_append, PackM.numB_len]; omega
  have l5 : L5.length ≤ 20 := by rw [hL5, List.length_append, PackM.numB_len]; omega
  have l6 : L6.length ≤ 37 := by rw [hL6, List.length_append, PackM.textB_len]; omega
  have l7 : L7.length ≤ 41 := by rw [hL7, List.length_append, PackM.numB_len]; omega
  have l8 : L8.length ≤ 45 := by rw [hL8, List.length_append, PackM.numB_len]; omega
  have l9 : L9.length ≤ 49 := by rw [hL9, List.length_append, PackM.numB_len]; omega
  have l10 : L10.length ≤ 53 := by rw [hL10, List.length_append, PackM.numB_len]; omega
  have l11 : L11.length ≤ 57 := by rw [hL11, List.length_append, PackM.numB_len]; omega
  have l12 : L12.length ≤ 1078 := by rw [hL12, List.length_append, List.length_append, PackM.numB_len, numsB_len]; omega
  have l13 : L13.length ≤ 1215 := by rw [hL13, List.length_append, List.length_append, PackM.numB_len]; omega
  have l14 : L14.length ≤ 1456 := by rw [hL14, List.length_append, PackM.textB_len]; omega
  have hT : x.m.text = L14 := by
    rw [hL14, hL13, hL12, hL11, hL10, hL9, hL8, hL7, hL6, hL5, hL4, hL3, hL2, hL1]
    unfold Ms.text
    simp only [List.append_assoc]
  rw [hT]
  have C0 := Lib.hid (fun W g v q hb => Pack.wnum_any g g v [] 1 77 W q (by simp) hb (by omega))
  rw [List.nil_append, ← hL1] at C0
  have C1 := Lib.hid (fun W g v q hb => Pack.wnum_any g g v L1 1 x.m.K W q (by omega) hb hf.k)
  rw [← hL2] at C1
  have C2 := Lib.hid (fun W g v q hb => Pack.wnum_any g g v L2 2 x.m.F W q (by omega) hb hf.f)
  rw [← hL3] at C2
  have C3 := Lib.hid (fun W g v q hb => Pack.wnum_any g g v L3 2 x.m.T W q (by omega) hb hf.t)
  rw [← hL4] at C3
  have C4 := Lib.hid (fun W g v q hb => Pack.wnum_any g g v L4 4 x.m.B W q (by omega) hb hf.b)
  rw [← hL5] at C4
  have C5 := Lib.hid (fun W g v q hb => text1_any g g v L5 x.m.s W q (by omega) hb (by omega))
  rw [← hL6] at C5
  have C6 := Lib.hid (fun W g v q hb => Pack.wnum_any g g v L6 4 x.m.A W q (by omega) hb hf.a)
  rw [← hL7] at C6
  have C7 := Lib.hid (fun W g v q hb => Pack.wnum_any g g v L7 4 x.m.E W q (by omega) hb hf.e)
  rw [← hL8] at C7
  have C8 := Lib.hid (fun W g v q hb => Pack.wnum_any g g v L8 4 x.m.M W q (by omega) hb hf.mm)
  rw [← hL9] at C8
  have C9 := Lib.hid (fun W g v q hb => Pack.wnum_any g g v L9 2 x.m.S W q (by omega) hb hf.s)
  rw [← hL10] at C9
  have C10 := Lib.hid (fun W g v q hb => Pack.wnum_any g g v L10 1 x.m.W W q (by omega) hb hf.w)
  rw [← hL11] at C10
  have C11 := Lib.hid (fun W g v q hb hA hne => eachInt_any g g v L11 x.P x.m.who x.p W q (by omega) hb hA hm.who hf.who hne)
  rw [← hL12] at C11
  have C12 := Lib.hid (fun W g v q hb hA hne => eachByteArray_any g g v L12 x.Q x.m.names x.q W q (by omega) hb hA (by omega) (fun s hs => by have := nam_size (hm.namess s hs); omega) hne)
  rw [← hL13] at C12
  have C13 := Lib.hid (fun W g v q hb hA hne => Pack.wtext_any g g v L13 x.D x.m.data x.d W q (by omega) hb hA (by omega) hx.d hx.d2 hne)
  rw [← hL14] at C13
  have C14 := Lib.hid (fun W g v q => Pack.wbytes_any g g v L14 W q (by omega))
  clear hT htl hs16 hsl W1 W2 W4 hwl hnl hdl hf hm hx hL1 l1 hL2 l2 hL3 l3 hL4 l4 hL5 l5 hL6 l6 hL7 l7 hL8 l8 hL9 l9 hL10 l10 hL11 l11 hL12 l12 hL13 l13 hL14 l14
  go_enter Try.func25, Try.ntmps25
  go_wp2_with fail
  have h0 := Wrt.start w x 72
  obtain ⟨g, hg⟩ : ∃ g, g = w.heap.size + 1 := ⟨_, rfl⟩
  obtain ⟨p, hp⟩ : ∃ p, p = w.heap.size := ⟨_, rfl⟩
  rw [← hg] at h0 ⊢
  generalize (w.alloc (.cells #[.int .i64 x.m.K, .int .i64 x.m.F, .int .i64 x.m.T, .int .i64 x.m.B, .string x.m.s, .int .i64 x.m.A, .int .i64 x.m.E, .int .i64 x.m.M, .int .i64 x.m.S, .int .i64 x.m.W, .slice x.P x.m.who.length x.p, .slice x.Q x.m.names.length x.q, .slice x.D x.m.data.length x.d] 26)).alloc (.cells #[.slice none 0 0] 72) = w1 at *
  have H0 : Hid (Wrt w w1 g p x (.slice none 0 0) []) := Lib.hid (by rw [hp]; exact h0)
  rw [← hp]
  clear h0 hg hp
  refine (C0.out w1 g _ H0.out.at_ H0.out.lt).mono ?_
  rintro e w2 k
  obtain ⟨rfl, v1, h1⟩ := H0.out.next k
  have H1 := Lib.hid h1
  have cc := h1.rc.c0
  clear h1 k H0 C0
  go_wp2_with fail
  refine (C1.out w2 g _ H1.out.at_ H1.out.lt).mono ?_
  rintro e w3 k
  obtain ⟨rfl, v2, h2⟩ := H1.out.next k
  have H2 := Lib.hid h2
  clear cc
  have cc := h2.rc.c1
  clear h2 k H1 C1
  go_wp2_with fail
  refine (C2.out w3 g _ H2.out.at_ H2.out.lt).mono ?_
  rintro e w4 k
  obtain ⟨rfl, v3, h3⟩ := H2.out.next k
  have H3 := Lib.hid h3
  clear cc
  have cc := h3.rc.c2
  clear h3 k H2 C2
  go_wp2_with fail
  refine (C3.out w4 g _ H3.out.at_ H3.out.lt).mono ?_
  rintro e w5 k
  obtain ⟨rfl, v4, h4⟩ := H3.out.next k
  have H4 := Lib.hid h4
  clear cc
  have cc := h4.rc.c3
  clear h4 k H3 C3
  go_wp2_with fail
  refine (C4.out w5 g _ H4.out.at_ H4.out.lt).mono ?_
  rintro e w6 k
  obtain ⟨rfl, v5, h5⟩ := H4.out.next k
  have H5 := Lib.hid h5
  clear cc
  have cc := h5.rc.c4
  clear h5 k H4 C4
  go_wp2_with fail
  refine (C5.out w6 g _ H5.out.at_ H5.out.lt).mono ?_
  rintro e w7 k
  obtain ⟨rfl, v6, h6⟩ := H5.out.next k
  have H6 := Lib.hid h6
  clear cc
  have cc := h6.rc.c5
  clear h6 k H5 C5
  go_wp2_with fail
  refine (C6.out w7 g _ H6.out.at_ H6.out.lt).mono ?_
  rintro e w8 k
  obtain ⟨rfl, v7, h7⟩ := H6.out.next k
  have H7 := Lib.hid h7
  clear cc
  have cc := h7.rc.c6
  clear h7 k H6 C6
  go_wp2_with fail
  refine (C7.out w8 g _ H7.out.at_ H7.out.lt).mono ?_
  rintro e w9 k
  obtain ⟨rfl, v8, h8⟩ := H7.out.next k
  have H8 := Lib.hid h8
  clear cc
  have cc := h8.rc.c7
  clear h8 k H7 C7
  go_wp2_with fail
  refine (C8.out w9 g _ H8.out.at_ H8.out.lt).mono ?_
  rintro e w10 k
  obtain ⟨rfl, v9, h9⟩ := H8.out.next k
  have H9 := Lib.hid h9
  clear cc
  have cc := h9.rc.c8
  clear h9 k H8 C8
  go_wp2_with fail
  refine (C9.out w10 g _ H9.out.at_ H9.out.lt).mono ?_
  rintro e w11 k
  obtain ⟨rfl, v10, h10⟩ := H9.out.next k
  have H10 := Lib.hid h10
  clear cc
  have cc := h10.rc.c9
  clear h10 k H9 C9
  go_wp2_with fail
  refine (C10.out w11 g _ H10.out.at_ H10.out.lt).mono ?_
  rintro e w12 k
  obtain ⟨rfl, v11, h11⟩ := H10.out.next k
  have H11 := Lib.hid h11
  clear cc
  have cc := h11.rc.c10
  clear h11 k H10 C10
  go_wp2_with fail
  refine (C11.out w12 g _ H11.out.at_ H11.out.lt (HX.out.who.below H11.out.below) (fun h0 a e => H11.out.farB (CellsAt.lt HX.out.who (by rw [intV_len]; exact h0) a e))).mono ?_
  rintro e w13 k
  obtain ⟨rfl, v12, h12⟩ := H11.out.next k
  have H12 := Lib.hid h12
  clear cc
  have cc := h12.rc.c11
  clear h12 k H11 C11
  go_wp2_with fail
  refine (C12.out w13 g _ H12.out.at_ H12.out.lt (HX.out.names.below H12.out.below) (fun h0 a e => H12.out.farB (CellsAt.lt HX.out.names (by simpa [LabM.strV] using h0) a e))).mono ?_
  rintro e w14 k
  obtain ⟨rfl, v13, h13⟩ := H12.out.next k
  have H13 := Lib.hid h13
  clear cc
  have cc := h13.rc.c12
  clear h13 k H12 C12
  go_wp2_with fail
  refine (C13.out w14 g _ H13.out.at_ H13.out.lt (HX.out.data.below H13.out.below) (fun h0 a e => H13.out.farB (HX.out.data.lt h0 a e))).mono ?_
  rintro e w15 k
  obtain ⟨rfl, v14, h14⟩ := H13.out.next k
  have H14 := Lib.hid h14
  clear cc
  clear h14 k H13 C13
  go_wp2_with fail
  refine (C14.out w15 g _ H14.out.at_).mono ?_
  rintro e w16 ⟨X, d, rfl, g1, g2, g3, hb, hn⟩
  have G3 := Lib.hid g3; have HN := Lib.hid hn
  clear g3 hn
  go_wp2
  go_ret
  exact ⟨X, d, rfl, g1, g2, G3.out, bstep H14.out.below hb, HN.out.mono H14.out.below.size⟩
end Go.Proofs.Ytjoocjkakgjgmaa.Msg
