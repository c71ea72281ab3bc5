/- package msg: Put, Size -/
import Derived.Test.YtjoocjkakgjgmaaMsgB
import Derived.Test.YtjoocjkakgjgmaaMsgC
import Derived.Test.YtjoocjkakgjgmaaCrc
set_option maxRecDepth 100000
set_option maxHeartbeats 20000000
namespace Go.Proofs.Ytjoocjkakgjgmaa.MsgM
def putV (m : Ms) : List UInt8 := if m.right then m.put else []
def putE (m : Ms) : Int := if m.right then 0 else 3
def sizeV (m : Ms) : Nat := if m.right then m.text.length + 4 else 0
theorem putV_may {m : Ms} (h : m.May) : putV m = m.put := if_pos ((right_iff m).2 h)
theorem putE_may {m : Ms} (h : m.May) : putE m = 0 := if_pos ((right_iff m).2 h)
theorem putV_not {m : Ms} (h : m.right = false) : putV m = [] := if_neg (by rw [h]; simp)
theorem putE_not {m : Ms} (h : m.right = false) : putE m = 3 := if_neg (by rw [h]; simp)
theorem sizeV_may {m : Ms} (h : m.May) : sizeV m = m.text.length + 4 := if_pos ((right_iff m).2 h)
theorem sizeV_not {m : Ms} (h : m.right = false) : sizeV m = 0 := if_neg (by rw [h]; simp)
end Go.Proofs.Ytjoocjkakgjgmaa.MsgM
namespace Go.Proofs.Ytjoocjkakgjgmaa.Msg
open Go.RowKit MsgM
open R07 (StrsAt Sane RetStrs)

def RetPut (w : World) (l : List UInt8) (n : Int) (e : Ending) (w' : World) : Prop :=
  ∃ X d, e = .returned (.tuple #[.slice X l.length d, .int .i64 n]) ∧ l.length ≤ d ∧ d ≤ maxLen ∧ BytesAt w' X l ∧ Below w.heap.size w w' ∧ New w X
theorem put_any (t : Nat) (x : Mv) (hf : Fits x.m) (w : World) (ht : Crc.Tab w t) (hx : Lies w x) :
    Calls Try.prog 10 #[.pointer (some ⟨t, 0, none⟩), .agg #[.int .i64 x.m.K, .int .i64 x.m.F, .int .i64 x.m.T, .int .i64 x.m.B, .string x.m.s, .int .i64 x.m.A, .int .i64 x.m.E, .int .i64 x.m.M, .int .i64 x.m.S, .int .i64 x.m.W, .slice x.P x.m.who.length x.p, .slice x.Q x.m.names.length x.q, .slice x.D x.m.data.length x.d]] w (RetPut w (putV x.m) (putE x.m)) := by
  have CR := Lib.hid (fun W h => right_any x hf W h)
  have HX := Lib.hid hx; have HT := Lib.hid ht
  have HR0 : Hid (MsB (w.alloc (.cells #[.int .i64 x.m.K, .int .i64 x.m.F, .int .i64 x.m.T, .int .i64 x.m.B, .string x.m.s, .int .i64 x.m.A, .int .i64 x.m.E, .int .i64 x.m.M, .int .i64 x.m.S, .int .i64 x.m.W, .slice x.P x.m.who.length x.p, .slice x.Q x.m.names.length x.q, .slice x.D x.m.data.length x.d] 26)) w.heap.size x) := Lib.hid (MsB.new w x)
  have HB0 := Lib.hid (balloc w (.cells #[.int .i64 x.m.K, .int .i64 x.m.F, .int .i64 x.m.T, .int .i64 x.m.B, .string x.m.s, .int .i64 x.m.A, .int .i64 x.m.E, .int .i64 x.m.M, .int .i64 x.m.S, .int .i64 x.m.W, .slice x.P x.m.who.length x.p, .slice x.Q x.m.names.length x.q, .slice x.D x.m.data.length x.d] 26))
  rcases hv : x.m.right with _ | _
  · rw [putV_not hv, putE_not hv]
    rw [hv] at CR
    clear hx ht hf hv HT
    go_enter Try.func10, Try.ntmps10
    go_wp2_with (refine wpList_load_ms rfl _ rfl w.heap.size rfl x HR0.out ?_)
    refine (CR.out _ (HX.out.below HB0.out)).mono ?_
    rintro e w1 ⟨rfl, hb1⟩
    have HB1 := Lib.hid (bstep HB0.out hb1)
    clear hb1 CR HR0 HB0
    go_wp2
    go_ret2
    exact ⟨none, 0, rfl, Nat.le_refl _, Nat.zero_le _, BytesAt.nil _ _, HB1.out, New.none _⟩
  · have hm := (right_iff x.m).1 hv
    rw [putV_may hm, putE_may hm]
    have CW := Lib.hid (fun W h => written_any x hf hm W h)
    have hl := (text_len hm).2
    have CS := Lib.hid (fun W ht X d h h1 h2 => Crc.seal_any t X x.m.text d W ht h h1 h2 (by omega))
    have e0 : x.m.put = CrcM.seal_ x.m.text := rfl
    rw [← e0] at CS
    rw [hv] at CR
    generalize x.m.put = R at *
    generalize x.m.text = L at *
    clear hx ht hf hv hm hl e0
    go_enter Try.func10, Try.ntmps10
    go_wp2_with (refine wpList_load_ms rfl _ rfl w.heap.size rfl x HR0.out ?_)
    refine (CR.out _ (HX.out.below HB0.out)).mono ?_
    rintro e w1 ⟨rfl, hb1⟩
    have HR1 := Lib.hid (HR0.out.below hb1)
    have HB1 := Lib.hid (bstep HB0.out hb1)
    clear hb1 CR HR0 HB0
    go_wp2_with (refine wpList_load_ms rfl _ rfl w.heap.size rfl x HR1.out ?_)
    refine (CW.out _ (HX.out.below HB1.out)).mono ?_
    rintro e w2 ⟨X, d, rfl, x1, x2, x3, hb2, hn2⟩
    have HX3 := Lib.hid x3
    have HB2 := Lib.hid (bstep HB1.out hb2)
    clear x3 hb2 hn2 HB1 HR1 CW
    have C := CS.out w2 (HT.out.below HB2.out) X d HX3.out x1 x2
    have HC := Lib.hid C
    clear C CS
    generalize L.length = n at *
    go_wp2_with fail
    refine HC.out.mono ?_
    rintro e w3 ⟨Y, c, rfl, y1, y2, y3, hb3, hn3⟩
    have HY := Lib.hid y3; have HN := Lib.hid hn3
    have HB3 := Lib.hid (bstep HB2.out hb3)
    have HZ := Lib.hid HB2.out.size
    clear y3 hn3 hb3 HB2 HC
    go_wp2
    go_ret2
    exact ⟨Y, c, rfl, y1, y2, HY.out, HB3.out, HN.out.mono HZ.out⟩
theorem size_any (x : Mv) (hf : Fits x.m) (w : World) (hx : Lies w x) :
    Calls Try.prog 15 #[.agg #[.int .i64 x.m.K, .int .i64 x.m.F, .int .i64 x.m.T, .int .i64 x.m.B, .string x.m.s, .int .i64 x.m.A, .int .i64 x.m.E, .int .i64 x.m.M, .int .i64 x.m.S, .int .i64 x.m.W, .slice x.P x.m.who.length x.p, .slice x.Q x.m.names.length x.q, .slice x.D x.m.data.length x.d]] w fun e w' => e = .returned (.int .i64 (sizeV x.m : Nat)) ∧ Below w.heap.size w w' := by
  have CR := Lib.hid (fun W h => right_any x hf W h)
  have HX := Lib.hid hx
  have HR0 : Hid (MsB (w.alloc (.cells #[.int .i64 x.m.K, .int .i64 x.m.F, .int .i64 x.m.T, .int .i64 x.m.B, .string x.m.s, .int .i64 x.m.A, .int .i64 x.m.E, .int .i64 x.m.M, .int .i64 x.m.S, .int .i64 x.m.W, .slice x.P x.m.who.length x.p, .slice x.Q x.m.names.length x.q, .slice x.D x.m.data.length x.d] 26)) w.heap.size x) := Lib.hid (MsB.new w x)
  have HB0 := Lib.hid (balloc w (.cells #[.int .i64 x.m.K, .int .i64 x.m.F, .int .i64 x.m.T, .int .i64 x.m.B, .string x.m.s, .int .i64 x.m.A, .int .i64 x.m.E, .int .i64 x.m.M, .int .i64 x.m.S, .int .i64 x.m.W, .slice x.P x.m.who.length x.p, .slice x.Q x.m.names.length x.q, .slice x.D x.m.data.length x.d] 26))
  rcases hv : x.m.right with _ | _
  · rw [sizeV_not hv]
    rw [hv] at CR
    clear hx hf hv
    go_enter Try.func15, Try.ntmps15
    go_wp2_with (refine wpList_load_ms rfl _ rfl w.heap.size rfl x HR0.out ?_)
    refine (CR.out _ (HX.out.below HB0.out)).mono ?_
    rintro e w1 ⟨rfl, hb1⟩
    have HB1 := Lib.hid (bstep HB0.out hb1)
    clear hb1 CR HR0 HB0
    go_wp2
    go_ret
    exact ⟨rfl, HB1.out⟩
  · have hm := (right_iff x.m).1 hv
    rw [sizeV_may hm]
    have CW := Lib.hid (fun W h => written_any x hf hm W h)
    have hl := (text_len hm).2
    rw [hv] at CR
    generalize x.m.text = L at *
    obtain ⟨n, hn⟩ : ∃ n, n = L.length := ⟨_, rfl⟩
    rw [← hn] at hl ⊢
    have HN := Lib.hid hn
    have hi : IntKind.i64.wrap ((n : Int) + 4) = ((n + 4 : Nat) : Int) := by rw [IntWalk.i64_in _ (by omega)]; omega
    obtain ⟨r, hr⟩ : ∃ r : Int, r = ((n + 4 : Nat) : Int) := ⟨_, rfl⟩
    rw [← hr] at hi ⊢
    clear hx hf hv hm hl hn hr
    go_enter Try.func15, Try.ntmps15
    go_wp2_with (refine wpList_load_ms rfl _ rfl w.heap.size rfl x HR0.out ?_)
    refine (CR.out _ (HX.out.below HB0.out)).mono ?_
    rintro e w1 ⟨rfl, hb1⟩
    have HR1 := Lib.hid (HR0.out.below hb1)
    have HB1 := Lib.hid (bstep HB0.out hb1)
    clear hb1 CR HR0 HB0
    go_wp2_with (refine wpList_load_ms rfl _ rfl w.heap.size rfl x HR1.out ?_)
    refine (CW.out _ (HX.out.below HB1.out)).mono ?_
    rintro e w2 ⟨X, d, rfl, x1, x2, x3, hb2, hn2⟩
    have HB2 := Lib.hid (bstep HB1.out hb2)
    rw [← HN.out]
    clear x1 x3 hb2 hn2 HB1 HR1 CW HN
    go_wp2
    go_ret
    exact ⟨rfl, HB2.out⟩
end Go.Proofs.Ytjoocjkakgjgmaa.Msg
