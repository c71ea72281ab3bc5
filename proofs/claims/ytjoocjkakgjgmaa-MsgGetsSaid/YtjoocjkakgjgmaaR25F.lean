/- the document's own answers of layer 25: Get -/
import Derived.Test.YtjoocjkakgjgmaaR25B
import Derived.Test.YtjoocjkakgjgmaaLaw25
import Derived.Test.YtjoocjkakgjgmaaR25E
set_option maxRecDepth 100000
set_option maxHeartbeats 20000000
namespace Go.Proofs.Ytjoocjkakgjgmaa.R25
open Go.RowKit MsgM Msg
open R07 (StrsAt Sane OwnS AppdS)

/-- the walk stops here -/
structure Stop (p : Prop) : Prop where
  out : p
theorem wpList_assign' {P : Program} {ops : Array Oper} {rest : List Oper} {o : Oper} {a : Act} {w : World} {Q : Exit → Act → World → Prop} (hgd : o.guard = none) (x : Operand) (ho : o.op = .assign x) (h : wpList P ops Q rest (a.put o.dst (a.eval x)) w) : wpList P ops Q (o :: rest) a w :=
  wpList_plain hgd fun _ hK => BigFrame.wp_assign x ho (hK _ _ h)
theorem ra_new {w : World} {X : Option Addr} {b : List UInt8} {d : Nat} (h : BytesAt w X b) (h1 : b.length ≤ d) (h2 : d ≤ maxLen) (t : TypeId) : R06.RAt (w.alloc (.cells #[.slice X b.length d, .int .i64 0, .bool false] t)) w.heap.size X d b o0 :=
  ⟨by simp, by simp [o0], by simp [o0], by simp, by simp, h.alloc _, fun h0 a e => Nat.ne_of_lt (h.lt h0 a e), Nat.zero_le _, h1, h2⟩
theorem end_fits {b : List UInt8} {j k : Nat} {m : Ms} {s : PackM.St} (h : Endg b j k m s) : Fits m := by
  have h1 := PackM.numV_lt b (o1 b) 1
  have h2 := PackM.numV_lt b (o2 b) 2
  have h3 := PackM.numV_lt b (o3 b) 2
  have h4 := PackM.numV_lt b (o4 b) 4
  have h5 := textL_size b (o5 b)
  have h6 := PackM.numV_lt b (o6 b) 4
  have h7 := PackM.numV_lt b (o7 b) 4
  have h8 := PackM.numV_lt b (o8 b) 4
  have h9 := PackM.numV_lt b (o9 b) 2
  have h10 := PackM.numV_lt b (o10 b) 1
  rw [h.hm]
  refine ⟨?_, ?_, ?_, ?_, ?_, ?_, ?_, ?_, ?_, ?_, fun n hn => ?_, fun n hn => ?_⟩
  · show -9223372036854775808 ≤ ((PackM.numV b (o1 b) 1 : Nat) : Int) ∧ ((PackM.numV b (o1 b) 1 : Nat) : Int) ≤ 9223372036854775807; omega
  · show -9223372036854775808 ≤ ((PackM.numV b (o2 b) 2 : Nat) : Int) ∧ ((PackM.numV b (o2 b) 2 : Nat) : Int) ≤ 9223372036854775807; omega
  · show -9223372036854775808 ≤ ((PackM.numV b (o3 b) 2 : Nat) : Int) ∧ ((PackM.numV b (o3 b) 2 : Nat) : Int) ≤ 9223372036854775807; omega
  · show -9223372036854775808 ≤ ((PackM.numV b (o4 b) 4 : Nat) : Int) ∧ ((PackM.numV b (o4 b) 4 : Nat) : Int) ≤ 9223372036854775807; omega
  · show (txt (PackM.textL b (o5 b))).size ≤ 9223372036854775807; omega
  · show -9223372036854775808 ≤ ((PackM.numV b (o6 b) 4 : Nat) : Int) ∧ ((PackM.numV b (o6 b) 4 : Nat) : Int) ≤ 9223372036854775807; omega
  · show -9223372036854775808 ≤ ((PackM.numV b (o7 b) 4 : Nat) : Int) ∧ ((PackM.numV b (o7 b) 4 : Nat) : Int) ≤ 9223372036854775807; omega
  · show -9223372036854775808 ≤ ((PackM.numV b (o8 b) 4 : Nat) : Int) ∧ ((PackM.numV b (o8 b) 4 : Nat) : Int) ≤ 9223372036854775807; omega
  · show -9223372036854775808 ≤ ((PackM.numV b (o9 b) 2 : Nat) : Int) ∧ ((PackM.numV b (o9 b) 2 : Nat) : Int) ≤ 9223372036854775807; omega
  · show -9223372036854775808 ≤ ((PackM.numV b (o10 b) 1 : Nat) : Int) ∧ ((PackM.numV b (o10 b) 1 : Nat) : Int) ≤ 9223372036854775807; omega
  · have := numsTo_in b (o12 b) j n hn; omega
  · have := textsTo_in b _ k n hn; omega
def TxR (TL : List UInt8) (W : World) (u : Value) : Prop := ∃ X d, u = .slice X TL.length d ∧ BytesAt W X TL
theorem get_sumV (A : Option Addr) (bb : List UInt8) (c : Nat) (w : World) (h : BytesAt w A bb) (hc : bb.length ≤ c) (hc2 : c ≤ maxLen) (hbl : bb.length ≤ 1048576) (hg : CrcM.good bb = false) :
    Calls Try.prog 20 #[.slice A bb.length c] w (RetGot w bb) := by
  have CG := Lib.hid (fun W h => R05.good_any A bb c W h hc (by omega) hc2)
  rw [hg] at CG
  obtain ⟨e1, e2⟩ := get_sum hg
  unfold RetGot
  rw [e1, e2]
  have H := Lib.hid h
  have HR0 : Hid (MsB (w.alloc (.cells #[.int .i64 0, .int .i64 0, .int .i64 0, .int .i64 0, .string ⟨#[]⟩, .int .i64 0, .int .i64 0, .int .i64 0, .int .i64 0, .int .i64 0, .slice none 0 0, .slice none 0 0, .slice none 0 0] 26)) w.heap.size mv0) := Lib.hid (MsB.new w mv0)
  have HB0 := Lib.hid (balloc w (.cells #[.int .i64 0, .int .i64 0, .int .i64 0, .int .i64 0, .string ⟨#[]⟩, .int .i64 0, .int .i64 0, .int .i64 0, .int .i64 0, .int .i64 0, .slice none 0 0, .slice none 0 0, .slice none 0 0] 26))
  obtain ⟨q, hq⟩ : ∃ q, q = w.heap.size := ⟨_, rfl⟩
  have HQ := Lib.hid hq
  rw [← hq] at HR0
  clear h hc hc2 hbl hg e1 e2
  generalize bb.length = bn at *
  go_enter Try.func20, Try.ntmps20
  go_wp2_with fail
  rw [← hq]
  clear hq
  obtain ⟨W0, hW0⟩ : ∃ W0, W0 = w.alloc (.cells #[.int .i64 0, .int .i64 0, .int .i64 0, .int .i64 0, .string ⟨#[]⟩, .int .i64 0, .int .i64 0, .int .i64 0, .int .i64 0, .int .i64 0, .slice none 0 0, .slice none 0 0, .slice none 0 0] 26) := ⟨_, rfl⟩
  rw [← hW0] at HR0 HB0
  first | rw [← hW0] | skip
  clear hW0
  refine (CG.out W0 (H.out.below HB0.out)).mono ?_
  rintro e w1 ⟨rfl, hb1⟩
  have HR1 := Lib.hid (HR0.out.below hb1)
  have HB1 := Lib.hid (bstep HB0.out hb1)
  clear hb1 CG HR0 HB0
  go_wp2_with (refine wpList_store_ms rfl _ _ rfl q mv0 rfl rfl mv0 HR1.out ?_; intro w3 hr3 hk3; have HR3 := Lib.hid hr3; have HK3 := Lib.hid hk3; clear hr3 hk3)
  exact Go.bodyPost_ret (results_ms2 rfl _ _ q mv0 rfl HR3.out (.int .i64 4) rfl) rfl ⟨mv0, rfl, rfl, lies0 _, below_keeps HB1.out HK3.out (fun k e => by have h2 := HQ.out; omega) HB1.out.size⟩
theorem get_good (A : Option Addr) (bb : List UInt8) (c : Nat) (w : World) (h : BytesAt w A bb) (hc : bb.length ≤ c) (hc2 : c ≤ maxLen) (hbl : bb.length ≤ 1048576) (hg : CrcM.good bb = true) :
    Calls Try.prog 20 #[.slice A bb.length c] w (RetGot w bb) := by
  have hgo : 4 ≤ bb.length ∧ bb = CrcM.seal_ (bb.take (bb.length - 4)) := by unfold CrcM.good at hg; exact of_decide_eq_true hg
  obtain ⟨b, hb⟩ : ∃ b, b = bb.take (bb.length - 4) := ⟨_, rfl⟩
  have hbn : b.length = bb.length - 4 := by rw [hb, List.length_take]; omega
  have HBB : Hid (bb = CrcM.seal_ b) := Lib.hid (by rw [hb]; exact hgo.2)
  have hbA : BytesAt w A b := by rw [hb]; exact h.take _
  have hbl2 : b.length ≤ 1048576 := by omega
  have hmc : b.length ≤ c := by omega
  have CG := Lib.hid (fun W h => R05.good_any A bb c W h hc (by omega) hc2)
  rw [hg] at CG
  have H := Lib.hid h; have HBA := Lib.hid hbA; have HC2 := Lib.hid hc2
  have hsub : IntKind.i64.wrap ((bb.length : Int) - 4) = (b.length : Nat) := by rw [IntWalk.i64_in _ (by omega)]; omega
  have HNB : Hid (0 < b.length → ∀ a, A = some a → a.block < w.heap.size) := Lib.hid fun h0 a e => hbA.lt h0 a e
  have HYES : Hid (∀ j k m s, Endg b j k m s → PackM.numV b o0 1 = 77 → s.bad = false → s.at_ = b.length → m.right = true → getV bb = m ∧ getE bb = 0) := Lib.hid fun j k m s he h0 h1 h2 h3 => he.yes HBB.out h0 h1 h2 h3
  have HNO : Hid (∀ j k m s, Endg b j k m s → ¬ (PackM.numV b o0 1 = 77 ∧ s.bad = false ∧ s.at_ = b.length ∧ m.right = true) → getV bb = ms0 ∧ getE bb = 3) := Lib.hid fun j k m s he hn => he.no HBB.out hn
  have HFI : Hid (∀ j k m s, Endg b j k m s → Fits m) := Lib.hid fun j k m s he => end_fits he
  have HR0 : Hid (MsB (w.alloc (.cells #[.int .i64 0, .int .i64 0, .int .i64 0, .int .i64 0, .string ⟨#[]⟩, .int .i64 0, .int .i64 0, .int .i64 0, .int .i64 0, .int .i64 0, .slice none 0 0, .slice none 0 0, .slice none 0 0] 26)) w.heap.size mv0) := Lib.hid (MsB.new w mv0)
  have HB0 := Lib.hid (balloc w (.cells #[.int .i64 0, .int .i64 0, .int .i64 0, .int .i64 0, .string ⟨#[]⟩, .int .i64 0, .int .i64 0, .int .i64 0, .int .i64 0, .int .i64 0, .slice none 0 0, .slice none 0 0, .slice none 0 0] 26))
  have CRN := Lib.hid (fun r s k W h => R06.rnum_any r A c b s k W h (by omega))
  have CRT := Lib.hid (fun r s W h => R06.rtext_any r A c b s W h (by omega))
  have HTL : Hid (∀ s, (PackM.textL b s).length ≤ 1048576) := Lib.hid fun s => by have : (PackM.textL b s).length ≤ b.length := rawL_le _ _ _; omega
  unfold RetGot
  generalize getV bb = GV at *
  generalize getE bb = GE at *
  clear h hbA hg hb HBB
  obtain ⟨bn, hbb⟩ : ∃ bn, bn = bb.length := ⟨_, rfl⟩
  rw [← hbb] at CG hc hbn hsub hgo ⊢
  have h4 := hgo.1
  have HBN := Lib.hid hbn
  clear hbb hgo hbn hbl
  obtain ⟨m, hm⟩ : ∃ m, m = b.length := ⟨_, rfl⟩
  have HM := Lib.hid hm
  rw [← hm] at hsub hmc hbl2
  have hm4 : (m : Int) ≤ (bn : Int) := by have := HBN.out; omega
  obtain ⟨q, hq⟩ : ∃ q, q = w.heap.size := ⟨_, rfl⟩
  have HQ := Lib.hid hq
  rw [← hq] at HR0
  unfold maxLen at hc2
  clear hm
  go_enter Try.func20, Try.ntmps20
  go_wp2_with fail
  rw [← hq]
  clear hq
  obtain ⟨W0, hW0⟩ : ∃ W0, W0 = w.alloc (.cells #[.int .i64 0, .int .i64 0, .int .i64 0, .int .i64 0, .string ⟨#[]⟩, .int .i64 0, .int .i64 0, .int .i64 0, .int .i64 0, .int .i64 0, .slice none 0 0, .slice none 0 0, .slice none 0 0] 26) := ⟨_, rfl⟩
  rw [← hW0] at HR0 HB0
  first | rw [← hW0] | skip
  clear hW0
  refine (CG.out W0 (H.out.below HB0.out)).mono ?_
  rintro e w1 ⟨rfl, hb1⟩
  have HR1 := Lib.hid (HR0.out.below hb1)
  have HB1 := Lib.hid (bstep HB0.out hb1)
  have HRA : Hid (R06.RAt (w1.alloc (.cells #[.slice A m c, .int .i64 0, .bool false] 64)) w1.heap.size A c b o0) := Lib.hid (by have := ra_new (HBA.out.below HB1.out) (by rw [← HM.out]; exact hmc) HC2.out 64; rw [← HM.out] at this; exact this)
  have HB2 := Lib.hid (bstep HB1.out (balloc w1 (.cells #[.slice A m c, .int .i64 0, .bool false] 64)))
  have HR2 := Lib.hid (HR1.out.below (balloc w1 (.cells #[.slice A m c, .int .i64 0, .bool false] 64)))
  have HQ1 : Hid (q < w1.heap.size) := Lib.hid HR1.out.lt
  clear hb1 CG HR0 HB0 HR1 H HBA HC2
  go_wp2_with fail
  obtain ⟨r, hr⟩ : ∃ r, r = w1.heap.size := ⟨_, rfl⟩
  rw [← hr] at HRA HQ1
  first | rw [← hr] | skip
  clear hr
  obtain ⟨w2, hw2⟩ : ∃ w2, w2 = w1.alloc (.cells #[.slice A m c, .int .i64 0, .bool false] 64) := ⟨_, rfl⟩
  rw [← hw2] at HRA HB2 HR2
  first | rw [← hw2] | skip
  clear hw2 HB1
  refine (CRN.out r o0 1 w2 HRA.out).mono ?_
  rintro e w3 ⟨rfl, k1, k2⟩
  have HRA3 := Lib.hid k1
  have HQ3 := Lib.hid (HR2.out.keep (F := fun i => i = r) (.grow k2 rfl) (by have := HQ1.out; omega))
  have HB3 : Hid (Below w.heap.size w w3) := Lib.hid (below_keeps HB2.out (.grow (F := fun i => i = r) k2 rfl) (fun i e => by have := HQ1.out; have := HQ.out; omega) HB2.out.size)
  have HRL : Hid (r < w3.heap.size) := Lib.hid (cell_lt k1.cb)
  have HP3 : Hid (MsB (w3.alloc (.cells #[.int .i64 0, .int .i64 0, .int .i64 0, .int .i64 0, .string ⟨#[]⟩, .int .i64 0, .int .i64 0, .int .i64 0, .int .i64 0, .int .i64 0, .slice none 0 0, .slice none 0 0, .slice none 0 0] 26)) w3.heap.size mv0) := Lib.hid (MsB.new w3 mv0)
  clear k1 k2 HRA HB2 HR2
  go_wp2_with (refine wpList_store_ms rfl _ _ rfl w3.heap.size mv0 rfl rfl mv0 HP3.out ?_; intro w4 hr4 hk4; have HP4 := Lib.hid hr4; have HK4 := Lib.hid hk4; clear hr4 hk4)
  obtain ⟨p, hp⟩ : ∃ p, p = w3.heap.size := ⟨_, rfl⟩
  have RD4 : Hid (Rdg w w4 r q p A c b (PackM.numS b o0 1) mv0) := Lib.hid (by
    have h1 := HQ1.out; have h2 := HQ.out; have h3 := HRL.out
    have hb := balloc w3 (.cells #[.int .i64 0, .int .i64 0, .int .i64 0, .int .i64 0, .string ⟨#[]⟩, .int .i64 0, .int .i64 0, .int .i64 0, .int .i64 0, .int .i64 0, .slice none 0 0, .slice none 0 0, .slice none 0 0] 26)
    exact ⟨RAt.keep (HRA3.out.below hb) HK4.out (by omega) (fun h0 a e => by have := HNB.out h0 a e; omega), below_keeps (bstep HB3.out hb) HK4.out (fun i e => by omega) (bstep HB3.out hb).size, by omega, h1, by omega, HNB.out, by rw [hp]; exact HP4.out, (HQ3.out.below hb).keep HK4.out (by omega)⟩)
  rw [← hp]
  clear hp HP3 HP4 HK4 HQ3 HB3 HRA3 HRL HQ1
  have e1 : PackM.numS b o0 1 = o1 b := rfl
  rw [e1] at RD4
  clear e1
  have C1 := Lib.hid (fun W h => CRN.out r (o1 b) 1 W h)
  rw [show PackM.numS b (o1 b) 1 = o2 b from rfl] at C1
  have C2 := Lib.hid (fun W h => CRN.out r (o2 b) 2 W h)
  rw [show PackM.numS b (o2 b) 2 = o3 b from rfl] at C2
  have C3 := Lib.hid (fun W h => CRN.out r (o3 b) 2 W h)
  rw [show PackM.numS b (o3 b) 2 = o4 b from rfl] at C3
  have C4 := Lib.hid (fun W h => CRN.out r (o4 b) 4 W h)
  rw [show PackM.numS b (o4 b) 4 = o5 b from rfl] at C4
  have C6 := Lib.hid (fun W h => CRN.out r (o6 b) 4 W h)
  rw [show PackM.numS b (o6 b) 4 = o7 b from rfl] at C6
  have C7 := Lib.hid (fun W h => CRN.out r (o7 b) 4 W h)
  rw [show PackM.numS b (o7 b) 4 = o8 b from rfl] at C7
  have C8 := Lib.hid (fun W h => CRN.out r (o8 b) 4 W h)
  rw [show PackM.numS b (o8 b) 4 = o9 b from rfl] at C8
  have C9 := Lib.hid (fun W h => CRN.out r (o9 b) 2 W h)
  rw [show PackM.numS b (o9 b) 2 = o10 b from rfl] at C9
  have C10 := Lib.hid (fun W h => CRN.out r (o10 b) 1 W h)
  rw [show PackM.numS b (o10 b) 1 = o11 b from rfl] at C10
  have C5 := Lib.hid (fun W h => CRT.out r (o5 b) W h)
  rw [show PackM.textS b (o5 b) = o6 b from rfl] at C5
  have C11 := Lib.hid (fun W h => CRN.out r (o11 b) 1 W h)
  rw [show PackM.numS b (o11 b) 1 = o12 b from rfl, show PackM.numV b (o11 b) 1 = whoN b from rfl] at C11
  have CV : Hid (∀ (X : Option Addr) (d : Nat) (V : World), BytesAt V X (PackM.textL b (o5 b)) → (convert 24 9 (.slice X (PackM.textL b (o5 b)).length d)).run Try.prog V = .ok (.string (txt (PackM.textL b (o5 b)))) V) := Lib.hid fun X d V hX => hX.convert d
  have CVT : Hid (∀ (S : PackM.St) (X : Option Addr) (d : Nat) (V : World), BytesAt V X (PackM.textL b S) → (convert 24 9 (.slice X (PackM.textL b S).length d)).run Try.prog V = .ok (.string (txt (PackM.textL b S))) V) := Lib.hid fun S X d V hX => hX.convert d
  have HNS := Lib.hid (num1_lt b (o11 b))
  rw [show PackM.numV b (o11 b) 1 = whoN b from rfl] at HNS
  have hwl := PackM.numV_lt b (o11 b) 1
  rw [show PackM.numV b (o11 b) 1 = whoN b from rfl] at hwl
  have HEND0 : Hid (∀ j k, j ≤ whoN b → (j < whoN b → (numsTo b (o12 b) j).2.bad = true) → k ≤ PackM.numV b (numsTo b (o12 b) j).2 1 → (k < PackM.numV b (numsTo b (o12 b) j).2 1 → (textsTo b (PackM.numS b (numsTo b (o12 b) j).2 1) k).2.bad = true) →
      Endg b j k ⟨(PackM.numV b (o1 b) 1 : Nat), (PackM.numV b (o2 b) 2 : Nat), (PackM.numV b (o3 b) 2 : Nat), (PackM.numV b (o4 b) 4 : Nat), txt (PackM.textL b (o5 b)), (PackM.numV b (o6 b) 4 : Nat), (PackM.numV b (o7 b) 4 : Nat), (PackM.numV b (o8 b) 4 : Nat), (PackM.numV b (o9 b) 2 : Nat), (PackM.numV b (o10 b) 1 : Nat),
    (numsTo b (o12 b) j).1, (textsTo b (PackM.numS b (numsTo b (o12 b) j).2 1) k).1, PackM.textL b (textsTo b (PackM.numS b (numsTo b (o12 b) j).2 1) k).2⟩ (PackM.textS b (textsTo b (PackM.numS b (numsTo b (o12 b) j).2 1) k).2)) := Lib.hid fun j k h1 h2 h3 h4 => ⟨h1, h2, h3, h4, rfl, rfl⟩
  obtain ⟨T1, hT1⟩ : ∃ T1 : Nat → List Int × PackM.St, T1 = fun k => numsTo b (o12 b) k := ⟨_, rfl⟩
  obtain ⟨T2, hT2⟩ : ∃ T2 : PackM.St → Nat → List ByteArray × PackM.St, T2 = fun S k => textsTo b S k := ⟨_, rfl⟩
  have HT1 : Hid (∀ k, (T1 (k + 1)).1 = (T1 k).1 ++ [((PackM.numV b (T1 k).2 4 : Nat) : Int)] ∧ (T1 (k + 1)).2 = PackM.numS b (T1 k).2 4 ∧ (T1 k).1.length = k) := Lib.hid fun k => by rw [hT1]; exact ⟨rfl, rfl, numsTo_len _ _ _⟩
  have HT2 : Hid (∀ S k, (T2 S (k + 1)).1 = (T2 S k).1 ++ [txt (PackM.textL b (T2 S k).2)] ∧ (T2 S (k + 1)).2 = PackM.textS b (T2 S k).2 ∧ (T2 S k).1.length = k) := Lib.hid fun S k => by rw [hT2]; exact ⟨rfl, rfl, textsTo_len _ _ _⟩
  have HT10 : Hid ((T1 0).1 = [] ∧ (T1 0).2 = o12 b) := Lib.hid (by rw [hT1]; exact ⟨rfl, rfl⟩)
  have HT20 : Hid (∀ S, (T2 S 0).1 = [] ∧ (T2 S 0).2 = S) := Lib.hid fun S => by rw [hT2]; exact ⟨rfl, rfl⟩
  have HEND : Hid (∀ j k, j ≤ whoN b → (j < whoN b → (T1 j).2.bad = true) → k ≤ PackM.numV b (T1 j).2 1 → (k < PackM.numV b (T1 j).2 1 → (T2 (PackM.numS b (T1 j).2 1) k).2.bad = true) →
      Endg b j k ⟨(PackM.numV b (o1 b) 1 : Nat), (PackM.numV b (o2 b) 2 : Nat), (PackM.numV b (o3 b) 2 : Nat), (PackM.numV b (o4 b) 4 : Nat), txt (PackM.textL b (o5 b)), (PackM.numV b (o6 b) 4 : Nat), (PackM.numV b (o7 b) 4 : Nat), (PackM.numV b (o8 b) 4 : Nat), (PackM.numV b (o9 b) 2 : Nat), (PackM.numV b (o10 b) 1 : Nat),
    (T1 j).1, (T2 (PackM.numS b (T1 j).2 1) k).1, PackM.textL b (T2 (PackM.numS b (T1 j).2 1) k).2⟩ (PackM.textS b (T2 (PackM.numS b (T1 j).2 1) k).2)) := Lib.hid (by rw [hT1, hT2]; exact HEND0.out)
  clear hT1 hT2 HEND0
  generalize PackM.numV b (o1 b) 1 = v1 at *
  generalize PackM.numV b (o2 b) 2 = v2 at *
  generalize PackM.numV b (o3 b) 2 = v3 at *
  generalize PackM.numV b (o4 b) 4 = v4 at *
  generalize txt (PackM.textL b (o5 b)) = v5 at *
  generalize PackM.textL b (o5 b) = vt at *
  generalize PackM.numV b (o6 b) 4 = v6 at *
  generalize PackM.numV b (o7 b) 4 = v7 at *
  generalize PackM.numV b (o8 b) 4 = v8 at *
  generalize PackM.numV b (o9 b) 2 = v9 at *
  generalize PackM.numV b (o10 b) 1 = v10 at *
  generalize whoN b = N at *
  generalize PackM.numV b o0 1 = z0 at *
  generalize o1 b = s1 at *
  generalize o2 b = s2 at *
  generalize o3 b = s3 at *
  generalize o4 b = s4 at *
  generalize o5 b = s5 at *
  generalize o6 b = s6 at *
  generalize o7 b = s7 at *
  generalize o8 b = s8 at *
  generalize o9 b = s9 at *
  generalize o10 b = s10 at *
  generalize o11 b = s11 at *
  generalize o12 b = s12 at *
  refine (C1.out w4 RD4.out.rd).mono ?_
  rintro e u1 ⟨rfl, k1, k2⟩
  have RA1 := Lib.hid (RD4.out.grown k1 k2)
  have cc1 := RA1.out.rc.c0; have ff1 := RA1.out.rc.fr 0
  have RB1 : Hid (Rdg w (u1.setCell ⟨p, 0, none⟩ (.int .i64 (v1 : Nat))) r q p A c b s2 ⟨⟨(v1 : Nat), 0, 0, 0, ⟨#[]⟩, 0, 0, 0, 0, 0, [], [], []⟩, none, 0, none, 0, none, 0⟩) := Lib.hid (RA1.out.stored (.set (fun i => i = p) _ ⟨p, 0, none⟩ (.int .i64 (v1 : Nat)) rfl) (MsB.set RA1.out.rc 0 (.int .i64 (v1 : Nat))))
  clear  k1 k2 RD4 C1 RA1
  go_wp2_with fail
  refine (C2.out _ RB1.out.rd).mono ?_
  rintro e u2 ⟨rfl, k1, k2⟩
  have RA2 := Lib.hid (RB1.out.grown k1 k2)
  have cc2 := RA2.out.rc.c1; have ff2 := RA2.out.rc.fr 1
  have RB2 : Hid (Rdg w (u2.setCell ⟨p, 1, none⟩ (.int .i64 (v2 : Nat))) r q p A c b s3 ⟨⟨(v1 : Nat), (v2 : Nat), 0, 0, ⟨#[]⟩, 0, 0, 0, 0, 0, [], [], []⟩, none, 0, none, 0, none, 0⟩) := Lib.hid (RA2.out.stored (.set (fun i => i = p) _ ⟨p, 1, none⟩ (.int .i64 (v2 : Nat)) rfl) (MsB.set RA2.out.rc 1 (.int .i64 (v2 : Nat))))
  clear cc1 ff1 k1 k2 RB1 C2 RA2
  go_wp2_with fail
  refine (C3.out _ RB2.out.rd).mono ?_
  rintro e u3 ⟨rfl, k1, k2⟩
  have RA3 := Lib.hid (RB2.out.grown k1 k2)
  have cc3 := RA3.out.rc.c2; have ff3 := RA3.out.rc.fr 2
  have RB3 : Hid (Rdg w (u3.setCell ⟨p, 2, none⟩ (.int .i64 (v3 : Nat))) r q p A c b s4 ⟨⟨(v1 : Nat), (v2 : Nat), (v3 : Nat), 0, ⟨#[]⟩, 0, 0, 0, 0, 0, [], [], []⟩, none, 0, none, 0, none, 0⟩) := Lib.hid (RA3.out.stored (.set (fun i => i = p) _ ⟨p, 2, none⟩ (.int .i64 (v3 : Nat)) rfl) (MsB.set RA3.out.rc 2 (.int .i64 (v3 : Nat))))
  clear cc2 ff2 k1 k2 RB2 C3 RA3
  go_wp2_with fail
  refine (C4.out _ RB3.out.rd).mono ?_
  rintro e u4 ⟨rfl, k1, k2⟩
  have RA4 := Lib.hid (RB3.out.grown k1 k2)
  have cc4 := RA4.out.rc.c3; have ff4 := RA4.out.rc.fr 3
  have RB4 : Hid (Rdg w (u4.setCell ⟨p, 3, none⟩ (.int .i64 (v4 : Nat))) r q p A c b s5 ⟨⟨(v1 : Nat), (v2 : Nat), (v3 : Nat), (v4 : Nat), ⟨#[]⟩, 0, 0, 0, 0, 0, [], [], []⟩, none, 0, none, 0, none, 0⟩) := Lib.hid (RA4.out.stored (.set (fun i => i = p) _ ⟨p, 3, none⟩ (.int .i64 (v4 : Nat)) rfl) (MsB.set RA4.out.rc 3 (.int .i64 (v4 : Nat))))
  clear cc3 ff3 k1 k2 RB3 C4 RA4
  go_wp2_with fail
  refine (C5.out _ RB4.out.rd).mono ?_
  rintro e u5 ⟨X, d, rfl, hX, -, hd1, hd2, k1, k2⟩
  have hcv := CV.out X d u5 hX
  clear hX hd1 hd2 CV
  generalize vt.length = vn at *
  have RA5 := Lib.hid (RB4.out.grown k1 k2)
  have cc5 := RA5.out.rc.c4; have ff5 := RA5.out.rc.fr 4
  have RB5 : Hid (Rdg w (u5.setCell ⟨p, 4, none⟩ (.string v5)) r q p A c b s6 ⟨⟨(v1 : Nat), (v2 : Nat), (v3 : Nat), (v4 : Nat), v5, 0, 0, 0, 0, 0, [], [], []⟩, none, 0, none, 0, none, 0⟩) := Lib.hid (RA5.out.stored (.set (fun i => i = p) _ ⟨p, 4, none⟩ (.string v5) rfl) (MsB.set RA5.out.rc 4 (.string v5)))
  clear cc4 ff4 k1 k2 RB4 C5 RA5
  go_wp2_with fail
  refine (C6.out _ RB5.out.rd).mono ?_
  rintro e u6 ⟨rfl, k1, k2⟩
  have RA6 := Lib.hid (RB5.out.grown k1 k2)
  have cc6 := RA6.out.rc.c5; have ff6 := RA6.out.rc.fr 5
  have RB6 : Hid (Rdg w (u6.setCell ⟨p, 5, none⟩ (.int .i64 (v6 : Nat))) r q p A c b s7 ⟨⟨(v1 : Nat), (v2 : Nat), (v3 : Nat), (v4 : Nat), v5, (v6 : Nat), 0, 0, 0, 0, [], [], []⟩, none, 0, none, 0, none, 0⟩) := Lib.hid (RA6.out.stored (.set (fun i => i = p) _ ⟨p, 5, none⟩ (.int .i64 (v6 : Nat)) rfl) (MsB.set RA6.out.rc 5 (.int .i64 (v6 : Nat))))
  clear cc5 ff5 hcv k1 k2 RB5 C6 RA6
  go_wp2_with fail
  refine (C7.out _ RB6.out.rd).mono ?_
  rintro e u7 ⟨rfl, k1, k2⟩
  have RA7 := Lib.hid (RB6.out.grown k1 k2)
  have cc7 := RA7.out.rc.c6; have ff7 := RA7.out.rc.fr 6
  have RB7 : Hid (Rdg w (u7.setCell ⟨p, 6, none⟩ (.int .i64 (v7 : Nat))) r q p A c b s8 ⟨⟨(v1 : Nat), (v2 : Nat), (v3 : Nat), (v4 : Nat), v5, (v6 : Nat), (v7 : Nat), 0, 0, 0, [], [], []⟩, none, 0, none, 0, none, 0⟩) := Lib.hid (RA7.out.stored (.set (fun i => i = p) _ ⟨p, 6, none⟩ (.int .i64 (v7 : Nat)) rfl) (MsB.set RA7.out.rc 6 (.int .i64 (v7 : Nat))))
  clear cc6 ff6 k1 k2 RB6 C7 RA7
  go_wp2_with fail
  refine (C8.out _ RB7.out.rd).mono ?_
  rintro e u8 ⟨rfl, k1, k2⟩
  have RA8 := Lib.hid (RB7.out.grown k1 k2)
  have cc8 := RA8.out.rc.c7; have ff8 := RA8.out.rc.fr 7
  have RB8 : Hid (Rdg w (u8.setCell ⟨p, 7, none⟩ (.int .i64 (v8 : Nat))) r q p A c b s9 ⟨⟨(v1 : Nat), (v2 : Nat), (v3 : Nat), (v4 : Nat), v5, (v6 : Nat), (v7 : Nat), (v8 : Nat), 0, 0, [], [], []⟩, none, 0, none, 0, none, 0⟩) := Lib.hid (RA8.out.stored (.set (fun i => i = p) _ ⟨p, 7, none⟩ (.int .i64 (v8 : Nat)) rfl) (MsB.set RA8.out.rc 7 (.int .i64 (v8 : Nat))))
  clear cc7 ff7 k1 k2 RB7 C8 RA8
  go_wp2_with fail
  refine (C9.out _ RB8.out.rd).mono ?_
  rintro e u9 ⟨rfl, k1, k2⟩
  have RA9 := Lib.hid (RB8.out.grown k1 k2)
  have cc9 := RA9.out.rc.c8; have ff9 := RA9.out.rc.fr 8
  have RB9 : Hid (Rdg w (u9.setCell ⟨p, 8, none⟩ (.int .i64 (v9 : Nat))) r q p A c b s10 ⟨⟨(v1 : Nat), (v2 : Nat), (v3 : Nat), (v4 : Nat), v5, (v6 : Nat), (v7 : Nat), (v8 : Nat), (v9 : Nat), 0, [], [], []⟩, none, 0, none, 0, none, 0⟩) := Lib.hid (RA9.out.stored (.set (fun i => i = p) _ ⟨p, 8, none⟩ (.int .i64 (v9 : Nat)) rfl) (MsB.set RA9.out.rc 8 (.int .i64 (v9 : Nat))))
  clear cc8 ff8 k1 k2 RB8 C9 RA9
  go_wp2_with fail
  refine (C10.out _ RB9.out.rd).mono ?_
  rintro e u10 ⟨rfl, k1, k2⟩
  have RA10 := Lib.hid (RB9.out.grown k1 k2)
  have cc10 := RA10.out.rc.c9; have ff10 := RA10.out.rc.fr 9
  have RB10 : Hid (Rdg w (u10.setCell ⟨p, 9, none⟩ (.int .i64 (v10 : Nat))) r q p A c b s11 ⟨⟨(v1 : Nat), (v2 : Nat), (v3 : Nat), (v4 : Nat), v5, (v6 : Nat), (v7 : Nat), (v8 : Nat), (v9 : Nat), (v10 : Nat), [], [], []⟩, none, 0, none, 0, none, 0⟩) := Lib.hid (RA10.out.stored (.set (fun i => i = p) _ ⟨p, 9, none⟩ (.int .i64 (v10 : Nat)) rfl) (MsB.set RA10.out.rc 9 (.int .i64 (v10 : Nat))))
  clear cc9 ff9 k1 k2 RB9 C10 RA10
  go_wp2_with fail
  refine (C11.out _ RB10.out.rd).mono ?_
  rintro e w5 ⟨rfl, k1, k2⟩
  have RC := Lib.hid (RB10.out.grown k1 k2)
  clear k1 k2 RB10 C11 cc10 ff10
  go_wp2_with fail
  have HL0 : Hid (Rdg w w5 r q p A c b (T1 0).2 ⟨⟨(v1 : Nat), (v2 : Nat), (v3 : Nat), (v4 : Nat), v5, (v6 : Nat), (v7 : Nat), (v8 : Nat), (v9 : Nat), (v10 : Nat), (T1 0).1, [], []⟩, none, 0, none, 0, none, 0⟩ ∧ OwnI w5 (p + 1) (.slice none (T1 0).1.length 0) (T1 0).1) := Lib.hid (by
    rw [HT10.out.1, HT10.out.2]
    exact ⟨RC.out, OwnI.nil _ _⟩)
  clear RC HT10
  go_loopw [8] (fun i wr => ∃ (k : Nat) (A1 : Option Addr) (c1 : Nat), k ≤ N ∧ i = .int .i64 k ∧ Hid (Rdg w wr r q p A c b (T1 k).2 ⟨⟨(v1 : Nat), (v2 : Nat), (v3 : Nat), (v4 : Nat), v5, (v6 : Nat), (v7 : Nat), (v8 : Nat), (v9 : Nat), (v10 : Nat), (T1 k).1, [], []⟩, A1, c1, none, 0, none, 0⟩ ∧ OwnI wr (p + 1) (.slice A1 (T1 k).1.length c1) (T1 k).1))
    (fun i _ => N - (intOf i).toNat)
  case atStart => exact ⟨0, none, 0, Nat.zero_le _, rfl, HL0⟩
  case round =>
    clear HL0
    obtain ⟨k, A1, c1, hk, rfl, HJ⟩ := hrel
    rename World => wr
    have cbad := HJ.out.1.rd.cd
    have HLen := Lib.hid (HT1.out k)
    by_cases hgo : k < N ∧ (T1 k).2.bad = false
    · obtain ⟨hlt, hbf⟩ := hgo
      rw [hbf] at cbad
      have HC := Lib.hid (fun W h => CRN.out r (T1 k).2 4 W h)
      have HX0 := Lib.hid (HT1.out k)
      obtain ⟨L, hL⟩ : ∃ L, L = (T1 k).1 := ⟨_, rfl⟩
      obtain ⟨S, hS⟩ : ∃ S, S = (T1 k).2 := ⟨_, rfl⟩
      obtain ⟨U, hU⟩ : ∃ U, U = PackM.numV b (T1 k).2 4 := ⟨_, rfl⟩
      obtain ⟨S', hS'⟩ : ∃ S', S' = PackM.numS b (T1 k).2 4 := ⟨_, rfl⟩
      rw [← hL, ← hS] at HJ
      rw [← hL, ← hU, ← hS'] at HX0
      rw [← hS', ← hU, ← hS] at HC
      clear hL hS hU hS' hbf HLen
      go_wp2
      clear cbad
      have HLL : Hid (L.length < 4294967296) := Lib.hid (by have := HX0.out.2.2; omega)
      refine Drawn.wp_region_heldT 7 (RdF wr 3 4 4 5 r (.slice A1 L.length c1) (fun W => R06.RAt W r A c b S) (fun W => R06.RAt W r A c b S') (fun W u => OwnI W (p + 1) u L) (fun W u => OwnI W (p + 1) u (L ++ [((U : Nat) : Int)])) (fun _ u => u = .int .i64 (U : Nat)) (fun W u => ∃ blk, u = .slice (some ⟨blk, 0, none⟩) 1 1 ∧ IntsAt W (some ⟨blk, 0, none⟩) [((U : Nat) : Int)]) (fun i => [some (.pointer (some ⟨p, 10, none⟩)), some (.slice A1 L.length c1), some (.pointer (some ⟨r, 0, none⟩)), none, none, none, some (.pointer (some ⟨p, 10, none⟩))].getD i none)) (by kernel_rfl) (by kernel_rfl) (fun f xs hf => RdF.begin (n := 7) (by omega) (by omega) (by omega) (by omega) (getD_lt rfl) hf (HJ.out.1.rd.below (bdraw wr 1)) (HJ.out.2.below (bdraw wr 1))) ?_ ?_
      · intro i hi f xs a w3 hf hI hev hdep
        have hpr := HJ.out.1.n2
        have hown : ∀ j, Value.ownBlock (.slice A1 L.length c1) = some j → p + 1 ≤ j := fun j e => by have := (World.ownsRow.lt HJ.out.2 j e).1; omega
        rcases (show i = 0 ∨ i = 1 ∨ i = 2 ∨ i = 3 ∨ i = 4 ∨ i = 5 ∨ i = 6 by omega) with rfl | rfl | rfl | rfl | rfl | rfl | rfl
        · have e6 : a.tmps[6]?.getD undef = .pointer (some ⟨p, 0, none⟩) := hev 6 rfl
          refine Drawn.wpOp_held 70 rfl rfl rfl ?_
          have HK := Lib.hid (hI.pure_ (i := 0) (by decide) (by decide) (by decide) (fun u h => by injection h) (fun e => absurd e (by decide)))
          clear hev hdep hI hf
          go_simp
          exact ⟨_, rfl, HK.out⟩
        · have d0 : a.tmps[70]?.getD undef = .pointer (some ⟨p, 10, none⟩) := (hdep 0 rfl).2.trans (hI.vals 0 _ rfl (hdep 0 rfl).1)
          refine Drawn.wpOp_held 71 rfl rfl rfl ?_
          have hc := (HJ.out.1.rc.keep hI.keep (fun e => e.elim (fun e => by omega) (fun e => by have := hown _ e; omega))).c10
          have HK := Lib.hid (hI.pure_ (i := 1) (by decide) (by decide) (by decide) (fun u h => by injection h) (fun e => absurd e (by decide)))
          clear hev hdep hI hf
          go_simp
          exact ⟨_, rfl, HK.out⟩
        · have e4 : a.tmps[4]?.getD undef = .pointer (some ⟨r, 0, none⟩) := hev 4 rfl
          refine Drawn.wpOp_held 72 rfl rfl rfl ?_
          have HK := Lib.hid (hI.pure_ (i := 2) (by decide) (by decide) (by decide) (fun u h => by injection h) (fun e => absurd e (by decide)))
          clear hev hdep hI hf
          go_simp
          exact ⟨_, rfl, HK.out⟩
        · have d2 : a.tmps[72]?.getD undef = .pointer (some ⟨r, 0, none⟩) := (hdep 2 rfl).2.trans (hI.vals 2 _ rfl (hdep 2 rfl).1)
          refine Drawn.wpOp_held 73 rfl rfl rfl ?_
          have hC := HC.out w3 (hI.rd0 hf)
          have ho := hI.own0 (hI.noA (hI.noB hf))
          have hlt : ∀ j, Value.ownBlock (.slice A1 L.length c1) = some j → p + 1 ≤ j := fun j e => by have := (World.ownsRow.lt ho j e).1; omega
          clear hev hdep
          go_simp
          refine hC.mono ?_
          rintro e w4 ⟨rfl, h1, h2⟩
          exact ⟨_, rfl, hI.call (by decide) rfl hf (hI.keep.trans (.grow h2 (.inl rfl))) h1 (ownV_keep (F := fun i => i = r) ho (.grow h2 rfl) (fun j e q => by have := hlt j e; omega)) rfl⟩
        · have hc3 := (hdep 3 rfl).1
          have d3 : a.tmps[73]?.getD undef = .int .i64 (U : Nat) := (hdep 3 rfl).2.trans (hI.res hc3 hf)
          refine Drawn.wpOp_held 74 rfl rfl rfl ?_
          have HK := Lib.hid (hI.build (w' := w3.alloc (.cells #[.int .i64 (U : Nat)] 3)) (u := .slice (some ⟨w3.heap.size, 0, none⟩) 1 1) (by decide) (.inl rfl) rfl hf hc3 (hI.keep.trans (.of_below _ (balloc _ _))) ((hI.rd1 hc3).below (balloc _ _)) ((hI.own0 (hI.noA hf)).below (balloc _ _)) ⟨_, rfl, CellsAt.lit _ _ _⟩)
          clear hev hdep hI hf hc3
          go_simp
          exact ⟨_, rfl, HK.out⟩
        · have d1 : a.tmps[71]?.getD undef = (.slice A1 L.length c1) := (hdep 1 rfl).2.trans (hI.vals 1 _ rfl (hdep 1 rfl).1)
          have hb := (hdep 4 rfl).1
          obtain ⟨blk, hxe, hlit⟩ := hI.lit hb hf
          have d4 : a.tmps[74]?.getD undef = .slice (some ⟨blk, 0, none⟩) 1 1 := (hdep 4 rfl).2.trans hxe
          have ho := hI.own0 hf
          have hrd := hI.rd1 (hI.o2 hb)
          have hsz : (p + 1) ≤ w3.heap.size := Nat.le_trans HJ.out.1.rc.lt hI.keep.size
          refine Drawn.wpOp_held 75 rfl rfl rfl ?_
          refine wp_append_ints (.tmp 71) (.tmp 74) rfl (p + 1) (.slice A1 L.length c1) L (by rw [Drawn.eval_tmp]; exact d1) ho (some ⟨blk, 0, none⟩) (((U : Nat) : Int)) (by rw [Drawn.eval_tmp]; exact d4) hlit (by have := HLL.out; omega) hsz ?_
          intro v' w' ha
          have hk : Keeps (fun i => Value.ownBlock (.slice A1 L.length c1) = some i) w3 w' := ⟨ha.grow.os, ha.grow.tape, ha.grow.output, ha.grow.size, fun i hi hf => ha.grow.block i hi (fun e => hf e.symm)⟩
          exact ⟨v', rfl, hI.app (by decide) rfl hb (hI.keep.trans (hk.mono fun i _ e => .inr e)) (RAt.keep hrd hk (fun e => by have := hown _ e; omega) (fun h0 a e q => by have h1 := hown _ q; have h2 := HJ.out.1.nb h0 a e; have h3 := HJ.out.1.n0; have h4 := HJ.out.1.n1; omega)) ha.own⟩
        · have e6 : a.tmps[6]?.getD undef = .pointer (some ⟨p, 0, none⟩) := hev 6 rfl
          refine Drawn.wpOp_held 76 rfl rfl rfl ?_
          have HK := Lib.hid (hI.pure_ (i := 6) (by decide) (by decide) (by decide) (fun u h => by injection h) (fun e => absurd e (by decide)))
          clear hev hdep hI hf
          go_simp
          exact ⟨_, rfl, HK.out⟩
      · intro f xs w3 hall hI
        have hpr := HJ.out.1.n2
        have hown : ∀ j, Value.ownBlock (.slice A1 L.length c1) = some j → p + 1 ≤ j := fun j e => by have := (World.ownsRow.lt HJ.out.2 j e).1; omega
        have h1 := hI.own1 (hall 5 (by omega))
        have h2 := hI.rd1 (hall 3 (by omega))
        have RK := Lib.hid (HJ.out.1.kept h2 hI.keep (fun i e => e.elim .inl (fun e => .inr (by have := hown _ e; omega))))
        have vq0 : xs 0 = (.pointer (some ⟨p, 10, none⟩)) := hI.vals 0 _ rfl (hall 0 (by omega))
        have vq1 : xs 1 = (.slice A1 L.length c1) := hI.vals 1 _ rfl (hall 1 (by omega))
        have vq2 : xs 2 = (.pointer (some ⟨r, 0, none⟩)) := hI.vals 2 _ rfl (hall 2 (by omega))
        have vq6 : xs 6 = (.pointer (some ⟨p, 10, none⟩)) := hI.vals 6 _ rfl (hall 6 (by omega))
        show wpList _ _ _ _ (Drawn.acts _ [(76, some (xs 6)), (75, some (xs 5)), (74, some (xs 4)), (73, some (xs 3)), (72, some (xs 2)), (71, some (xs 1)), (70, some (xs 0))]) _
        rw [vq0, vq1, vq2, vq6]
        clear vq0 vq1 vq2 vq6 hI hall h2
        generalize xs 3 = yy3
        generalize xs 4 = yy4
        generalize xs 5 = v' at *
        clear xs f
        obtain ⟨AN, cN, hv, hq1, hq2, -, -⟩ := h1.ints
        subst hv
        have cc := RK.out.rc.c10; have ff := RK.out.rc.fr 10
        have RN : Hid (Rdg w (w3.setCell ⟨p, 10, none⟩ (.slice AN (L ++ [((U : Nat) : Int)]).length cN)) r q p A c b S' ⟨⟨(v1 : Nat), (v2 : Nat), (v3 : Nat), (v4 : Nat), v5, (v6 : Nat), (v7 : Nat), (v8 : Nat), (v9 : Nat), (v10 : Nat), L ++ [((U : Nat) : Int)], [], []⟩, AN, cN, none, 0, none, 0⟩) := Lib.hid (RK.out.stored (.set (fun i => i = p) _ ⟨p, 10, none⟩ (.slice AN (L ++ [((U : Nat) : Int)]).length cN) rfl) (MsB.set RK.out.rc 10 (.slice AN (L ++ [((U : Nat) : Int)]).length cN)))
        have ON : Hid (OwnI (w3.setCell ⟨p, 10, none⟩ (.slice AN (L ++ [((U : Nat) : Int)]).length cN)) (p + 1) (.slice AN (L ++ [((U : Nat) : Int)]).length cN) (L ++ [((U : Nat) : Int)])) := Lib.hid (ownV_keep h1 (.set (fun i => i = p) _ ⟨p, 10, none⟩ _ rfl) (fun j e q => by have := (World.ownsRow.lt h1 j e).1; omega))
        clear h1 RK hq1 hq2 HJ
        obtain ⟨ln, hln⟩ : ∃ ln, ln = (L ++ [((U : Nat) : Int)]).length := ⟨_, rfl⟩
        rw [← hln] at RN ON ⊢
        have HLN := Lib.hid hln
        clear hln
        simp only [Drawn.acts, List.drop_succ_cons, List.drop_zero]
        go_wp2
        go_roundw
        case rel => exact ⟨k + 1, AN, cN, by omega, by go_num, Lib.hid (by rw [HX0.out.1, HX0.out.2.1]; rw [← HLN.out]; exact ⟨RN.out, ON.out⟩)⟩
        case measure => simp [intOf] <;> omega
    · have HX : Hid (k < N → (T1 k).2.bad = true) := Lib.hid fun h => by
        rcases hb : (T1 k).2.bad with _ | _
        · exact absurd ⟨h, hb⟩ hgo
        · rfl
      have HKN := Lib.hid hk
      clear hgo HLen
      by_cases hlt : k < N
      · have hbt := HX.out hlt
        rw [hbt] at cbad
        clear hbt
        have HC12 := Lib.hid (CRN.out r (T1 k).2 1 wr HJ.out.1.rd)
        have HE2 := Lib.hid (fun k2 h1 h2 => HEND.out k k2 HKN.out HX.out h1 h2)
        have HN2 := Lib.hid (PackM.numV_lt b (T1 k).2 1)
        obtain ⟨S14, hS14⟩ : ∃ S14, S14 = PackM.numS b (T1 k).2 1 := ⟨_, rfl⟩
        obtain ⟨N2, hN2⟩ : ∃ N2, N2 = PackM.numV b (T1 k).2 1 := ⟨_, rfl⟩
        obtain ⟨W1, hW1⟩ : ∃ W1, W1 = (T1 k).1 := ⟨_, rfl⟩
        rw [← hS14, ← hN2] at HC12 HE2
        rw [← hN2] at HN2
        rw [← hW1] at HJ HE2
        have HW1L : Hid (W1.length ≤ 1048576) := Lib.hid (by have h1 := (HT1.out k).2.2; rw [← hW1] at h1; have h2 := HKN.out; have h3 := HNS.out; omega)
        clear hS14 hN2
        go_wp2_with fail
        refine HC12.out.mono ?_
        rintro e w6 ⟨rfl, k1, k2⟩
        obtain ⟨nb, hnbe⟩ : ∃ nb, nb = w6.heap.size := ⟨_, rfl⟩
        have HNBB : Hid (p + 1 ≤ nb) := Lib.hid (by have h1 := HJ.out.1.rc.lt; have h2 := k2.size; omega)
        have HJ2 := Lib.hid (HJ.out.1.grown k1 k2)
        have HW6 : Hid (IntsAt w6 A1 W1 ∧ W1.length ≤ c1 ∧ c1 ≤ maxLen) := Lib.hid (by
          have ho6 : OwnI w6 (p + 1) (.slice A1 W1.length c1) W1 := ownV_keep (F := fun i => i = r) HJ.out.2 (.grow k2 rfl) (fun j e q => by have h1 := (World.ownsRow.lt HJ.out.2 j e).1; have h2 := HJ.out.1.n2; omega)
          obtain ⟨AA, cA, hv, q1, q2, q3, q4⟩ := ho6.ints
          injection hv with e1 _ e3
          subst e1 e3
          exact ⟨q3, q1, q2⟩)
        have HWN : Hid ((∀ a, A1 = some a → p + 1 ≤ a.block ∧ r < a.block) ∧ (0 < W1.length → ∀ a, A1 = some a → a.block < nb)) := Lib.hid (by
          obtain ⟨AA, cA, hv, q1, q2, q3, q4⟩ := HJ.out.2.ints
          injection hv with e1 _ e3
          subst e1 e3
          exact ⟨fun a e => ⟨q4 a e, by have := q4 a e; have := HJ.out.1.n2; omega⟩, fun h0 a e => by have := CellsAt.lt HW6.out.1 (by rw [intV_len]; exact h0) a e; omega⟩)
        have HZ2 : Hid (Rdg w w6 r q p A c b (T2 S14 0).2 ⟨⟨(v1 : Nat), (v2 : Nat), (v3 : Nat), (v4 : Nat), v5, (v6 : Nat), (v7 : Nat), (v8 : Nat), (v9 : Nat), (v10 : Nat), W1, (T2 S14 0).1, []⟩, A1, c1, none, 0, none, 0⟩ ∧ OwnS w6 nb (.slice none (T2 S14 0).1.length 0) (T2 S14 0).1 ∧ IntsAt w6 A1 W1 ∧ nb ≤ w6.heap.size) := Lib.hid (by
          rw [(HT20.out S14).1, (HT20.out S14).2]
          exact ⟨HJ2.out, OwnS.nil _ _, HW6.out.1, by omega⟩)
        have HWC := Lib.hid HW6.out.2
        clear k1 k2 HJ HJ2 HC12 HW6 HEND HX HKN hlt hk hnbe hW1
        go_wp2_with fail
        go_loopw [10] (fun i wr => ∃ (k2 : Nat) (A2 : Option Addr) (c2 : Nat), k2 ≤ N2 ∧ i = .int .i64 k2 ∧ Hid (Rdg w wr r q p A c b (T2 S14 k2).2 ⟨⟨(v1 : Nat), (v2 : Nat), (v3 : Nat), (v4 : Nat), v5, (v6 : Nat), (v7 : Nat), (v8 : Nat), (v9 : Nat), (v10 : Nat), W1, (T2 S14 k2).1, []⟩, A1, c1, A2, c2, none, 0⟩ ∧ OwnS wr nb (.slice A2 (T2 S14 k2).1.length c2) (T2 S14 k2).1 ∧ IntsAt wr A1 W1 ∧ nb ≤ wr.heap.size))
          (fun i _ => N2 - (intOf i).toNat)
        case atStart => exact ⟨0, none, 0, Nat.zero_le _, rfl, HZ2⟩
        case round =>
          clear HZ2
          obtain ⟨k2, A2, c2, hk2, rfl, HJ⟩ := hrel
          rename World => wr
          have cbad := HJ.out.1.rd.cd
          have HX0 := Lib.hid (HT2.out S14 k2)
          by_cases hgo : k2 < N2 ∧ (T2 S14 k2).2.bad = false
          · obtain ⟨hlt, hbf⟩ := hgo
            rw [hbf] at cbad
            have HC := Lib.hid (fun W h => CRT.out r (T2 S14 k2).2 W h)
            have CVX := Lib.hid (fun X d V h => CVT.out (T2 S14 k2).2 X d V h)
            obtain ⟨L, hL⟩ : ∃ L, L = (T2 S14 k2).1 := ⟨_, rfl⟩
            obtain ⟨S, hS⟩ : ∃ S, S = (T2 S14 k2).2 := ⟨_, rfl⟩
            obtain ⟨TL, hTL⟩ : ∃ TL, TL = PackM.textL b (T2 S14 k2).2 := ⟨_, rfl⟩
            obtain ⟨S', hS'⟩ : ∃ S', S' = PackM.textS b (T2 S14 k2).2 := ⟨_, rfl⟩
            rw [← hL, ← hS] at HJ
            rw [← hL, ← hTL, ← hS'] at HX0
            rw [← hS', ← hTL, ← hS] at HC
            rw [← hTL] at CVX
            clear hL hS hTL hS' hbf
            have hn2 := HN2.out
            have HLL : Hid (L.length < 4294967296) := Lib.hid (by have := HX0.out.2.2; omega)
            go_wp2
            clear cbad
            refine Drawn.wp_region_heldT 8 (RdF wr 3 4 5 6 r (.slice A2 L.length c2) (fun W => R06.RAt W r A c b S) (fun W => R06.RAt W r A c b S') (fun W u => OwnS W nb u L) (fun W u => OwnS W nb u (L ++ [txt TL])) (TxR TL) (fun W u => ∃ blk, u = .slice (some ⟨blk, 0, none⟩) 1 1 ∧ StrsAt W (some ⟨blk, 0, none⟩) [txt TL]) (fun i => [some (.pointer (some ⟨p, 11, none⟩)), some (.slice A2 L.length c2), some (.pointer (some ⟨r, 0, none⟩)), none, some (.string (txt TL)), none, none, some (.pointer (some ⟨p, 11, none⟩))].getD i none)) (by kernel_rfl) (by kernel_rfl) (fun f xs hf => RdF.begin (n := 8) (by omega) (by omega) (by omega) (by omega) (getD_lt rfl) hf (HJ.out.1.rd.below (bdraw wr 1)) (HJ.out.2.1.below (bdraw wr 1))) ?_ ?_
            · intro i hi f xs a w3 hf hI hev hdep
              have hpr := HJ.out.1.n2
              have hown : ∀ j, Value.ownBlock (.slice A2 L.length c2) = some j → p + 1 ≤ j := fun j e => by have hnb := HNBB.out; have := (World.ownsRow.lt HJ.out.2.1 j e).1; omega
              rcases (show i = 0 ∨ i = 1 ∨ i = 2 ∨ i = 3 ∨ i = 4 ∨ i = 5 ∨ i = 6 ∨ i = 7 by omega) with rfl | rfl | rfl | rfl | rfl | rfl | rfl | rfl
              · have e6 : a.tmps[6]?.getD undef = .pointer (some ⟨p, 0, none⟩) := hev 6 rfl
                refine Drawn.wpOp_held 91 rfl rfl rfl ?_
                have HK := Lib.hid (hI.pure_ (i := 0) (by decide) (by decide) (by decide) (fun u h => by injection h) (fun e => absurd e (by decide)))
                clear hev hdep hI hf
                go_simp
                exact ⟨_, rfl, HK.out⟩
              · have d0 : a.tmps[91]?.getD undef = .pointer (some ⟨p, 11, none⟩) := (hdep 0 rfl).2.trans (hI.vals 0 _ rfl (hdep 0 rfl).1)
                refine Drawn.wpOp_held 92 rfl rfl rfl ?_
                have hc := (HJ.out.1.rc.keep hI.keep (fun e => e.elim (fun e => by omega) (fun e => by have := hown _ e; omega))).c11
                have HK := Lib.hid (hI.pure_ (i := 1) (by decide) (by decide) (by decide) (fun u h => by injection h) (fun e => absurd e (by decide)))
                clear hev hdep hI hf
                go_simp
                exact ⟨_, rfl, HK.out⟩
              · have e4 : a.tmps[4]?.getD undef = .pointer (some ⟨r, 0, none⟩) := hev 4 rfl
                refine Drawn.wpOp_held 93 rfl rfl rfl ?_
                have HK := Lib.hid (hI.pure_ (i := 2) (by decide) (by decide) (by decide) (fun u h => by injection h) (fun e => absurd e (by decide)))
                clear hev hdep hI hf
                go_simp
                exact ⟨_, rfl, HK.out⟩
              · have d2 : a.tmps[93]?.getD undef = .pointer (some ⟨r, 0, none⟩) := (hdep 2 rfl).2.trans (hI.vals 2 _ rfl (hdep 2 rfl).1)
                refine Drawn.wpOp_held 94 rfl rfl rfl ?_
                have hC := HC.out w3 (hI.rd0 hf)
                have ho := hI.own0 (hI.noA (hI.noB hf))
                have hlt : ∀ j, Value.ownBlock (.slice A2 L.length c2) = some j → p + 1 ≤ j := fun j e => by have hnb := HNBB.out; have := (World.ownsRow.lt ho j e).1; omega
                clear hev hdep
                go_simp
                refine hC.mono ?_
                rintro e w4 ⟨X, d, rfl, hX, -, hd1, hd2, h1, h2⟩
                exact ⟨_, rfl, hI.call (by decide) rfl hf (hI.keep.trans (.grow h2 (.inl rfl))) h1 (ownV_keep (F := fun i => i = r) ho (.grow h2 rfl) (fun j e q => by have := hlt j e; omega)) ⟨X, d, rfl, hX⟩⟩
              · obtain ⟨X, d, hxe, hX⟩ := hI.res (hdep 3 rfl).1 hf
                have d3 : a.tmps[94]?.getD undef = .slice X TL.length d := (hdep 3 rfl).2.trans hxe
                refine Drawn.wpOp_held 95 rfl rfl rfl ?_
                have hcv := CVX.out X d w3 hX
                have HK := Lib.hid (hI.pure_ (i := 4) (by decide) (by decide) (by decide) (fun u h => by injection h) (fun _ => (hdep 3 rfl).1))
                clear hev hdep hI hf hX hxe
                generalize TL.length = tn at *
                go_simp
                exact ⟨_, rfl, HK.out⟩
              · have d4 : a.tmps[95]?.getD undef = .string (txt TL) := (hdep 4 rfl).2.trans (hI.vals 4 _ rfl (hdep 4 rfl).1)
                have h3 : f 4 = true := (hdep 4 rfl).1
                have hc3 : f 3 = true := hI.o4 h3
                refine Drawn.wpOp_held 96 rfl rfl rfl ?_
                have HK := Lib.hid (hI.build (w' := w3.alloc (.cells #[.string (txt TL)] 9)) (u := .slice (some ⟨w3.heap.size, 0, none⟩) 1 1) (by decide) (.inr h3) rfl hf hc3 (hI.keep.trans (.of_below _ (balloc _ _))) ((hI.rd1 hc3).below (balloc _ _)) ((hI.own0 (hI.noA hf)).below (balloc _ _)) ⟨_, rfl, CellsAt.lit _ _ _⟩)
                clear hev hdep hI hf h3 hc3
                go_simp
                exact ⟨_, rfl, HK.out⟩
              · have d1 : a.tmps[92]?.getD undef = (.slice A2 L.length c2) := (hdep 1 rfl).2.trans (hI.vals 1 _ rfl (hdep 1 rfl).1)
                have hb := (hdep 5 rfl).1
                obtain ⟨blk, hxe, hlit⟩ := hI.lit hb hf
                have d4 : a.tmps[96]?.getD undef = .slice (some ⟨blk, 0, none⟩) 1 1 := (hdep 5 rfl).2.trans hxe
                have ho := hI.own0 hf
                have hrd := hI.rd1 (hI.o2 hb)
                have hsz : nb ≤ w3.heap.size := Nat.le_trans HJ.out.2.2.2 hI.keep.size
                refine Drawn.wpOp_held 97 rfl rfl rfl ?_
                refine wp_append_strs (.tmp 92) (.tmp 96) rfl nb (.slice A2 L.length c2) L (by rw [Drawn.eval_tmp]; exact d1) ho (some ⟨blk, 0, none⟩) (txt TL) (by rw [Drawn.eval_tmp]; exact d4) hlit (by have := HLL.out; omega) hsz ?_
                intro v' w' ha
                have hk : Keeps (fun i => Value.ownBlock (.slice A2 L.length c2) = some i) w3 w' := ⟨ha.grow.os, ha.grow.tape, ha.grow.output, ha.grow.size, fun i hi hf => ha.grow.block i hi (fun e => hf e.symm)⟩
                exact ⟨v', rfl, hI.app (by decide) rfl hb (hI.keep.trans (hk.mono fun i _ e => .inr e)) (RAt.keep hrd hk (fun e => by have := hown _ e; omega) (fun h0 a e q => by have h1 := hown _ q; have h2 := HJ.out.1.nb h0 a e; have h3 := HJ.out.1.n0; have h4 := HJ.out.1.n1; omega)) ha.own⟩
              · have e6 : a.tmps[6]?.getD undef = .pointer (some ⟨p, 0, none⟩) := hev 6 rfl
                refine Drawn.wpOp_held 98 rfl rfl rfl ?_
                have HK := Lib.hid (hI.pure_ (i := 7) (by decide) (by decide) (by decide) (fun u h => by injection h) (fun e => absurd e (by decide)))
                clear hev hdep hI hf
                go_simp
                exact ⟨_, rfl, HK.out⟩
            · intro f xs w3 hall hI
              have hpr := HJ.out.1.n2
              have hown : ∀ j, Value.ownBlock (.slice A2 L.length c2) = some j → p + 1 ≤ j := fun j e => by have hnb := HNBB.out; have := (World.ownsRow.lt HJ.out.2.1 j e).1; omega
              have h1 := hI.own1 (hall 6 (by omega))
              have h2 := hI.rd1 (hall 3 (by omega))
              have RK := Lib.hid (HJ.out.1.kept h2 hI.keep (fun i e => e.elim .inl (fun e => .inr (by have := hown _ e; omega))))
              have vq0 : xs 0 = (.pointer (some ⟨p, 11, none⟩)) := hI.vals 0 _ rfl (hall 0 (by omega))
              have vq1 : xs 1 = (.slice A2 L.length c2) := hI.vals 1 _ rfl (hall 1 (by omega))
              have vq2 : xs 2 = (.pointer (some ⟨r, 0, none⟩)) := hI.vals 2 _ rfl (hall 2 (by omega))
              have vq4 : xs 4 = (.string (txt TL)) := hI.vals 4 _ rfl (hall 4 (by omega))
              have vq7 : xs 7 = (.pointer (some ⟨p, 11, none⟩)) := hI.vals 7 _ rfl (hall 7 (by omega))
              show wpList _ _ _ _ (Drawn.acts _ [(98, some (xs 7)), (97, some (xs 6)), (96, some (xs 5)), (95, some (xs 4)), (94, some (xs 3)), (93, some (xs 2)), (92, some (xs 1)), (91, some (xs 0))]) _
              rw [vq0, vq1, vq2, vq4, vq7]
              have HWK : Hid (0 < W1.length → IntsAt w3 A1 W1) := Lib.hid fun h0 => CellsAt.keep (F := fun i => i = r ∨ Value.ownBlock (.slice A2 L.length c2) = some i) HJ.out.2.2.1 hI.keep (fun _ a e q => by
                    have h1 := HWN.out.1 a e
                    have h3 := HWN.out.2 h0 a e
                    rcases q with q | q
                    · omega
                    · have h4 := (World.ownsRow.lt HJ.out.2.1 _ q).1; omega)
              have HSZ : Hid (nb ≤ w3.heap.size) := Lib.hid (Nat.le_trans HJ.out.2.2.2 hI.keep.size)
              clear vq0 vq1 vq2 vq4 vq7 hI hall h2
              generalize xs 3 = yy3
              generalize xs 5 = yy5
              generalize xs 6 = v' at *
              clear xs f
              obtain ⟨AN, cN, hv, hq1, hq2, -, -⟩ := h1.strs
              subst hv
              have cc := RK.out.rc.c11; have ff := RK.out.rc.fr 11
              have RN : Hid (Rdg w (w3.setCell ⟨p, 11, none⟩ (.slice AN (L ++ [txt TL]).length cN)) r q p A c b S' ⟨⟨(v1 : Nat), (v2 : Nat), (v3 : Nat), (v4 : Nat), v5, (v6 : Nat), (v7 : Nat), (v8 : Nat), (v9 : Nat), (v10 : Nat), W1, L ++ [txt TL], []⟩, A1, c1, AN, cN, none, 0⟩) := Lib.hid (RK.out.stored (.set (fun i => i = p) _ ⟨p, 11, none⟩ (.slice AN (L ++ [txt TL]).length cN) rfl) (MsB.set RK.out.rc 11 (.slice AN (L ++ [txt TL]).length cN)))
              have ON : Hid (OwnS (w3.setCell ⟨p, 11, none⟩ (.slice AN (L ++ [txt TL]).length cN)) nb (.slice AN (L ++ [txt TL]).length cN) (L ++ [txt TL])) := Lib.hid (ownV_keep h1 (.set (fun i => i = p) _ ⟨p, 11, none⟩ _ rfl) (fun j e q => by have q1 := (World.ownsRow.lt h1 j e).1; have q2 := HNBB.out; have q3 : j = p := q; omega))
              have WN : Hid (IntsAt (w3.setCell ⟨p, 11, none⟩ (.slice AN (L ++ [txt TL]).length cN)) A1 W1) := Lib.hid (by
                rcases Nat.eq_zero_or_pos W1.length with h0 | h0
                · rw [List.eq_nil_of_length_eq_zero h0]; exact CellsAt.nil _ _
                · exact CellsAt.keep (HWK.out h0) (.set (fun i => i = p) _ ⟨p, 11, none⟩ _ rfl) (fun _ a e q => by have q1 := HWN.out.1 a e; have q3 : a.block = p := q; omega))
              have SN : Hid (nb ≤ (w3.setCell ⟨p, 11, none⟩ (.slice AN (L ++ [txt TL]).length cN)).heap.size) := Lib.hid (by have := (Keeps.set (fun i => i = p) w3 ⟨p, 11, none⟩ (.slice AN (L ++ [txt TL]).length cN) rfl).size; have := HSZ.out; omega)
              clear h1 RK hq1 hq2 HJ HWK HSZ
              obtain ⟨ln, hln⟩ : ∃ ln, ln = (L ++ [txt TL]).length := ⟨_, rfl⟩
              rw [← hln] at RN ON WN SN ⊢
              have HLN := Lib.hid hln
              clear hln
              simp only [Drawn.acts, List.drop_succ_cons, List.drop_zero]
              go_wp2
              go_roundw
              case rel => exact ⟨k2 + 1, AN, cN, by omega, by go_num, Lib.hid (by rw [HX0.out.1, HX0.out.2.1]; rw [← HLN.out]; exact ⟨RN.out, ON.out, WN.out, SN.out⟩)⟩
              case measure => simp [intOf] <;> omega
          · have HX2 : Hid (k2 < N2 → (T2 S14 k2).2.bad = true) := Lib.hid fun h => by
              rcases hb : (T2 S14 k2).2.bad with _ | _
              · exact absurd ⟨h, hb⟩ hgo
              · rfl
            have HEE := Lib.hid (HE2.out k2 hk2 HX2.out)
            clear hgo HX0 HE2 hk2
            by_cases hlt : k2 < N2
            · have hbt := HX2.out hlt
              rw [hbt] at cbad
              clear hbt HX2
              have HD12 := Lib.hid (CRT.out r (T2 S14 k2).2 wr HJ.out.1.rd)
              obtain ⟨S15, hS15⟩ : ∃ S15, S15 = (T2 S14 k2).2 := ⟨_, rfl⟩
              obtain ⟨NL, hNL⟩ : ∃ NL, NL = (T2 S14 k2).1 := ⟨_, rfl⟩
              rw [← hS15] at HD12 HEE HJ
              rw [← hNL] at HJ HEE
              obtain ⟨DL, hDL⟩ : ∃ DL, DL = PackM.textL b S15 := ⟨_, rfl⟩
              obtain ⟨S16, hS16⟩ : ∃ S16, S16 = PackM.textS b S15 := ⟨_, rfl⟩
              rw [← hDL, ← hS16] at HD12 HEE
              clear hS15 hNL hDL hS16
              go_wp2_with fail
              refine HD12.out.mono ?_
              rintro e w7 ⟨XD, dd, rfl, hX, hnew, hd1, hd2, k1, k3⟩
              have RG := Lib.hid (HJ.out.1.grown k1 k3)
              have HLI : Hid (Lies (w7.setCell ⟨p, 12, none⟩ (.slice XD DL.length dd)) ⟨⟨(v1 : Nat), (v2 : Nat), (v3 : Nat), (v4 : Nat), v5, (v6 : Nat), (v7 : Nat), (v8 : Nat), (v9 : Nat), (v10 : Nat), W1, NL, DL⟩, A1, c1, A2, c2, XD, dd⟩) := Lib.hid (by
                obtain ⟨AA, cA, hv, q1, q2, q3, q4⟩ := HJ.out.2.1.strs
                injection hv with e1 _ e3
                subst e1 e3
                have hp := HJ.out.1.rc.lt
                have hnb := HNBB.out
                have hrp := HJ.out.1.n2
                have hw7 : IntsAt w7 A1 W1 := CellsAt.keep (F := fun i => i = r) HJ.out.2.2.1 (.grow k3 rfl) (fun _ a e q => by have h1 := HWN.out.1 a e; have h2 : a.block = r := q; omega)
                have hn7 : StrsAt w7 A2 NL := CellsAt.keep (F := fun i => i = r) q3 (.grow k3 rfl) (fun _ a e q => by have h1 := q4 a e; have h2 : a.block = r := q; omega)
                exact Lies.keep (F := fun i => i = p) (w := w7) (x := ⟨⟨(v1 : Nat), (v2 : Nat), (v3 : Nat), (v4 : Nat), v5, (v6 : Nat), (v7 : Nat), (v8 : Nat), (v9 : Nat), (v10 : Nat), W1, NL, DL⟩, A1, c1, A2, c2, XD, dd⟩) ⟨hw7, hn7, hX, HWC.out.1, q1, hd1, HWC.out.2, q2, hd2⟩ (.set (fun i => i = p) _ ⟨p, 12, none⟩ (.slice XD DL.length dd) rfl) (fun _ a e q => by have h1 := HWN.out.1 a e; have h2 : a.block = p := q; omega) (fun _ a e q => by have h1 := q4 a e; have h2 : a.block = p := q; omega) (fun _ a e q => by have h1 := hnew a e; have h2 : a.block = p := q; omega))
              have HFAR : Hid (From (q + 1) ⟨⟨(v1 : Nat), (v2 : Nat), (v3 : Nat), (v4 : Nat), v5, (v6 : Nat), (v7 : Nat), (v8 : Nat), (v9 : Nat), (v10 : Nat), W1, NL, DL⟩, A1, c1, A2, c2, XD, dd⟩) := Lib.hid (by
                obtain ⟨AA, cA, hv, q1, q2, q3, q4⟩ := HJ.out.2.1.strs
                injection hv with e1 _ e3
                subst e1 e3
                have hp := HJ.out.1.rc.lt
                have hnb := HNBB.out
                have hrp := HJ.out.1.n2
                have hqr := HJ.out.1.n1
                exact ⟨fun a e => by have h1 := HWN.out.1 a e; omega, fun a e => by have h1 := q4 a e; omega, fun _ a e => by have h1 := hnew a e; omega⟩)
              have cc12 := RG.out.rc.c12; have ff12 := RG.out.rc.fr 12
              have RH : Hid (Rdg w (w7.setCell ⟨p, 12, none⟩ (.slice XD DL.length dd)) r q p A c b S16 ⟨⟨(v1 : Nat), (v2 : Nat), (v3 : Nat), (v4 : Nat), v5, (v6 : Nat), (v7 : Nat), (v8 : Nat), (v9 : Nat), (v10 : Nat), W1, NL, DL⟩, A1, c1, A2, c2, XD, dd⟩) := Lib.hid (RG.out.stored (.set (fun i => i = p) _ ⟨p, 12, none⟩ (.slice XD DL.length dd) rfl) (MsB.set RG.out.rc 12 (.slice XD DL.length dd)))
              obtain ⟨W8, hW8⟩ : ∃ W8, W8 = (w7.setCell ⟨p, 12, none⟩ (.slice XD DL.length dd)) := ⟨_, rfl⟩
              rw [← hW8] at RH HLI
              clear hX hnew hd1 hd2 k1 k3 HJ RG HD12
              have cb := RH.out.rd.cb; have ca := RH.out.rd.ca; have cd := RH.out.rd.cd
              go_wp2_with fail
              rw [← hW8]
              clear hW8 cc12 ff12
              by_cases hz : z0 = 77
              rotate_left
              · obtain ⟨rfl, rfl⟩ := HNO.out k k2 _ _ HEE.out (fun h => hz h.1)
                have hz1 : ((z0 : Int) != 77) = true := by simp only [bne_iff_ne]; omega
                clear HEE HNO HYES HFI HLI HFAR
                go_quiet (fail)
                go_wp2_with ((with_reducible show wpList _ _ _ (_ :: _) _ _); refine wpList_store_ms rfl (.tmp 2) (.tmp 127) rfl q mv0 (by kernel_rfl) (by kernel_rfl) mv0 RH.out.rs ?_; intro w9 hr9 hk9; have HR9 := Lib.hid hr9; have HK9 := Lib.hid hk9; clear hr9 hk9; refine Stop.out ?_)
                refine ⟨?_⟩
                refine wpList_assign' rfl _ rfl ?_
                refine wpList_nil ?_
                rename_i hret
                refine hret _ _ (wp_ret ?_)
                dsimp +zetaDelta only [Exit.then]
                exact Go.bodyPost_ret (results_ms2 rfl _ _ q mv0 (by kernel_rfl) HR9.out (.int .i64 3) (by kernel_rfl)) rfl ⟨mv0, rfl, rfl, lies0 _, below_keeps (bstep RH.out.below (bdraw W8 nq)) HK9.out (fun i e => by have h2 := HQ.out; omega) (bstep RH.out.below (bdraw W8 nq)).size⟩
              subst hz
              rcases hbad : S16.bad with _ | _
              rotate_left
              · obtain ⟨rfl, rfl⟩ := HNO.out k k2 _ _ HEE.out (fun h => by rw [hbad] at h; cases h.2.1)
                rw [hbad] at cd
                clear HEE HNO HYES HFI HLI HFAR
                go_quiet (fail)
                go_wp2_with ((with_reducible show wpList _ _ _ (_ :: _) _ _); refine wpList_store_ms rfl (.tmp 2) (.tmp 127) rfl q mv0 (by kernel_rfl) (by kernel_rfl) mv0 RH.out.rs ?_; intro w9 hr9 hk9; have HR9 := Lib.hid hr9; have HK9 := Lib.hid hk9; clear hr9 hk9; refine Stop.out ?_)
                refine ⟨?_⟩
                refine wpList_assign' rfl _ rfl ?_
                refine wpList_nil ?_
                rename_i hret
                refine hret _ _ (wp_ret ?_)
                dsimp +zetaDelta only [Exit.then]
                exact Go.bodyPost_ret (results_ms2 rfl _ _ q mv0 (by kernel_rfl) HR9.out (.int .i64 3) (by kernel_rfl)) rfl ⟨mv0, rfl, rfl, lies0 _, below_keeps (bstep RH.out.below (bdraw W8 nq)) HK9.out (fun i e => by have h2 := HQ.out; omega) (bstep RH.out.below (bdraw W8 nq)).size⟩
              by_cases hat : S16.at_ = b.length
              rotate_left
              · obtain ⟨rfl, rfl⟩ := HNO.out k k2 _ _ HEE.out (fun h => hat h.2.2.1)
                rw [hbad] at cd
                have hat1 : ((S16.at_ : Int) != (b.length : Int)) = true := by simp only [bne_iff_ne]; omega
                clear HEE HNO HYES HFI HLI HFAR hat
                generalize S16.at_ = sa at *
                generalize b.length = bl at *
                go_quiet (fail)
                go_wp2_with ((with_reducible show wpList _ _ _ (_ :: _) _ _); refine wpList_store_ms rfl (.tmp 2) (.tmp 127) rfl q mv0 (by kernel_rfl) (by kernel_rfl) mv0 RH.out.rs ?_; intro w9 hr9 hk9; have HR9 := Lib.hid hr9; have HK9 := Lib.hid hk9; clear hr9 hk9; refine Stop.out ?_)
                refine ⟨?_⟩
                refine wpList_assign' rfl _ rfl ?_
                refine wpList_nil ?_
                rename_i hret
                refine hret _ _ (wp_ret ?_)
                dsimp +zetaDelta only [Exit.then]
                exact Go.bodyPost_ret (results_ms2 rfl _ _ q mv0 (by kernel_rfl) HR9.out (.int .i64 3) (by kernel_rfl)) rfl ⟨mv0, rfl, rfl, lies0 _, below_keeps (bstep RH.out.below (bdraw W8 nq)) HK9.out (fun i e => by have h2 := HQ.out; omega) (bstep RH.out.below (bdraw W8 nq)).size⟩
              obtain ⟨mv, hmv⟩ : ∃ mv : Mv, mv = ⟨⟨(v1 : Nat), (v2 : Nat), (v3 : Nat), (v4 : Nat), v5, (v6 : Nat), (v7 : Nat), (v8 : Nat), (v9 : Nat), (v10 : Nat), W1, NL, DL⟩, A1, c1, A2, c2, XD, dd⟩ := ⟨_, rfl⟩
              rw [← hmv] at RH HLI HFAR
              have HEE2 : Hid (Endg b k k2 mv.m S16) := Lib.hid (by rw [hmv]; exact HEE.out)
              have HMW : Hid (mv.m.who.length ≤ 1048576) := Lib.hid (by rw [hmv]; exact HW1L.out)
              clear hmv HEE cb ca cd
              have HFM := Lib.hid (HFI.out k k2 _ _ HEE2.out)
              obtain ⟨R, hR⟩ : ∃ R, R = mv.m.right := ⟨_, rfl⟩
              have CRR : Hid (∀ W, Below W8.heap.size W8 W → Calls Try.prog 11 #[.agg #[.int .i64 mv.m.K, .int .i64 mv.m.F, .int .i64 mv.m.T, .int .i64 mv.m.B, .string mv.m.s, .int .i64 mv.m.A, .int .i64 mv.m.E, .int .i64 mv.m.M, .int .i64 mv.m.S, .int .i64 mv.m.W, .slice mv.P mv.m.who.length mv.p, .slice mv.Q mv.m.names.length mv.q, .slice mv.D mv.m.data.length mv.d]] W fun e w' => e = .returned (.bool R) ∧ Below W.heap.size W w') := Lib.hid fun W hb => by rw [hR]; exact right_any mv HFM.out W (HLI.out.below hb) HMW.out
              have HMS : Hid (∀ W, Below W8.heap.size W8 W → MsB W p mv) := Lib.hid fun W hb => RH.out.rc.below hb
              have HRA : Hid (∀ W, Below W8.heap.size W8 W → W.cell? ⟨r, 0, none⟩ = some (.slice A m c) ∧ W.cell? ⟨r, 1, none⟩ = some (.int .i64 (m : Nat)) ∧ W.cell? ⟨r, 2, none⟩ = some (.bool false)) := Lib.hid fun W hb => by
                have h := RH.out.rd.below hb
                exact ⟨by rw [HM.out]; exact h.cb, by rw [HM.out, ← hat]; exact h.ca, by rw [← hbad]; exact h.cd⟩
              have HYS : Hid (R = true → GV = mv.m ∧ GE = 0) := Lib.hid fun h => HYES.out k k2 _ _ HEE2.out rfl hbad hat (by rw [← hR]; exact h)
              have HNS : Hid (R = false → GV = ms0 ∧ GE = 3) := Lib.hid fun h => HNO.out k k2 _ _ HEE2.out (fun hh => by rw [← hR, h] at hh; cases hh.2.2.2)
              clear hR hbad hat HEE2 HYES HNO HFI HFM HMW
              refine Drawn.wp_region_flowL 25 [Drawn.SP.is (.int .i64 77), Drawn.SP.is (.bool false), Drawn.SP.is (.bool false), Drawn.SP.is (.pointer (some ⟨r, 0, none⟩)), Drawn.SP.is (.pointer (some ⟨r, 0, none⟩)), Drawn.SP.is (.pointer (some ⟨r, 2, none⟩)), Drawn.SP.is (.bool false), Drawn.SP.is (.bool false), Drawn.SP.is (.bool false), Drawn.SP.is (.pointer (some ⟨r, 0, none⟩)), Drawn.SP.is (.pointer (some ⟨r, 0, none⟩)), Drawn.SP.is (.pointer (some ⟨r, 1, none⟩)), Drawn.SP.is (.int .i64 (m : Nat)), Drawn.SP.is (.pointer (some ⟨r, 0, none⟩)), Drawn.SP.is (.pointer (some ⟨r, 0, none⟩)), Drawn.SP.is (.pointer (some ⟨r, 0, none⟩)), Drawn.SP.is (.slice A m c), Drawn.SP.is (.int .i64 (m : Nat)), Drawn.SP.is (.bool false), Drawn.SP.is (.bool false), Drawn.SP.is (.bool false), Drawn.SP.is (.agg #[.int .i64 mv.m.K, .int .i64 mv.m.F, .int .i64 mv.m.T, .int .i64 mv.m.B, .string mv.m.s, .int .i64 mv.m.A, .int .i64 mv.m.E, .int .i64 mv.m.M, .int .i64 mv.m.S, .int .i64 mv.m.W, .slice mv.P mv.m.who.length mv.p, .slice mv.Q mv.m.names.length mv.q, .slice mv.D mv.m.data.length mv.d]), Drawn.SP.is (.bool R), Drawn.SP.is (.bool (!R)), Drawn.SP.is (.bool (!R))] (by kernel_rfl) (by kernel_rfl) ?_ ?_
              · intro i hi a w1 hb hev hdep
                rcases (show i = 0 ∨ i = 1 ∨ i = 2 ∨ i = 3 ∨ i = 4 ∨ i = 5 ∨ i = 6 ∨ i = 7 ∨ i = 8 ∨ i = 9 ∨ i = 10 ∨ i = 11 ∨ i = 12 ∨ i = 13 ∨ i = 14 ∨ i = 15 ∨ i = 16 ∨ i = 17 ∨ i = 18 ∨ i = 19 ∨ i = 20 ∨ i = 21 ∨ i = 22 ∨ i = 23 ∨ i = 24 by omega) with rfl | rfl | rfl | rfl | rfl | rfl | rfl | rfl | rfl | rfl | rfl | rfl | rfl | rfl | rfl | rfl | rfl | rfl | rfl | rfl | rfl | rfl | rfl | rfl | rfl
                · have e5 : a.tmps[5]?.getD undef = .int .i64 77 := hev 5 rfl
                  refine Drawn.wpOp_flow 102 rfl rfl rfl ?_
                  clear hev hdep hb
                  go_simp
                  exact ⟨_, rfl, rfl, Below.refl _ _⟩
                · have d0 : a.tmps[102]?.getD undef = .int .i64 77 := hdep 0 rfl
                  refine Drawn.wpOp_flow 103 rfl rfl rfl ?_
                  clear hev hdep hb
                  go_simp
                  exact ⟨_, rfl, rfl, Below.refl _ _⟩
                · have d1 : a.tmps[103]?.getD undef = .bool false := hdep 1 rfl
                  refine Drawn.wpOp_flow 104 rfl rfl rfl ?_
                  clear hev hdep hb
                  go_simp
                  exact ⟨_, rfl, rfl, Below.refl _ _⟩
                · have e4 : a.tmps[4]?.getD undef = .pointer (some ⟨r, 0, none⟩) := hev 4 rfl
                  have dg : a.tmps[104]?.getD undef = .bool false := hdep 2 rfl
                  refine Drawn.wpOp_flow 105 rfl (Drawn.wanted_of rfl rfl rfl dg) rfl ?_
                  clear dg
                  clear hev hdep hb
                  go_simp
                  exact ⟨_, rfl, rfl, Below.refl _ _⟩
                · have d3 : a.tmps[105]?.getD undef = .pointer (some ⟨r, 0, none⟩) := hdep 3 rfl
                  have dg : a.tmps[104]?.getD undef = .bool false := hdep 2 rfl
                  refine Drawn.wpOp_flow 106 rfl (Drawn.wanted_of rfl rfl rfl dg) rfl ?_
                  clear dg
                  clear hev hdep hb
                  go_simp
                  exact ⟨_, rfl, rfl, Below.refl _ _⟩
                · have d4 : a.tmps[106]?.getD undef = .pointer (some ⟨r, 0, none⟩) := hdep 4 rfl
                  have dg : a.tmps[104]?.getD undef = .bool false := hdep 2 rfl
                  refine Drawn.wpOp_flow 107 rfl (Drawn.wanted_of rfl rfl rfl dg) rfl ?_
                  clear dg
                  clear hev hdep hb
                  go_simp
                  exact ⟨_, rfl, rfl, Below.refl _ _⟩
                · have d5 : a.tmps[107]?.getD undef = .pointer (some ⟨r, 2, none⟩) := hdep 5 rfl
                  have dg : a.tmps[104]?.getD undef = .bool false := hdep 2 rfl
                  refine Drawn.wpOp_flow 108 rfl (Drawn.wanted_of rfl rfl rfl dg) rfl ?_
                  obtain ⟨c0, c1, c2⟩ := HRA.out w1 hb
                  clear dg
                  clear hev hdep hb
                  go_simp
                  exact ⟨_, rfl, rfl, Below.refl _ _⟩
                · have d2 : a.tmps[104]?.getD undef = .bool false := hdep 2 rfl
                  have d6 : a.tmps[108]?.getD undef = .bool false := hdep 6 rfl
                  refine Drawn.wpOp_flow 109 rfl rfl rfl ?_
                  clear hev hdep hb
                  go_simp
                  exact ⟨_, rfl, rfl, Below.refl _ _⟩
                · have d7 : a.tmps[109]?.getD undef = .bool false := hdep 7 rfl
                  refine Drawn.wpOp_flow 110 rfl rfl rfl ?_
                  clear hev hdep hb
                  go_simp
                  exact ⟨_, rfl, rfl, Below.refl _ _⟩
                · have e4 : a.tmps[4]?.getD undef = .pointer (some ⟨r, 0, none⟩) := hev 4 rfl
                  have dg : a.tmps[110]?.getD undef = .bool false := hdep 8 rfl
                  refine Drawn.wpOp_flow 111 rfl (Drawn.wanted_of rfl rfl rfl dg) rfl ?_
                  clear dg
                  clear hev hdep hb
                  go_simp
                  exact ⟨_, rfl, rfl, Below.refl _ _⟩
                · have d9 : a.tmps[111]?.getD undef = .pointer (some ⟨r, 0, none⟩) := hdep 9 rfl
                  have dg : a.tmps[110]?.getD undef = .bool false := hdep 8 rfl
                  refine Drawn.wpOp_flow 112 rfl (Drawn.wanted_of rfl rfl rfl dg) rfl ?_
                  clear dg
                  clear hev hdep hb
                  go_simp
                  exact ⟨_, rfl, rfl, Below.refl _ _⟩
                · have d10 : a.tmps[112]?.getD undef = .pointer (some ⟨r, 0, none⟩) := hdep 10 rfl
                  have dg : a.tmps[110]?.getD undef = .bool false := hdep 8 rfl
                  refine Drawn.wpOp_flow 113 rfl (Drawn.wanted_of rfl rfl rfl dg) rfl ?_
                  clear dg
                  clear hev hdep hb
                  go_simp
                  exact ⟨_, rfl, rfl, Below.refl _ _⟩
                · have d11 : a.tmps[113]?.getD undef = .pointer (some ⟨r, 1, none⟩) := hdep 11 rfl
                  have dg : a.tmps[110]?.getD undef = .bool false := hdep 8 rfl
                  refine Drawn.wpOp_flow 114 rfl (Drawn.wanted_of rfl rfl rfl dg) rfl ?_
                  obtain ⟨c0, c1, c2⟩ := HRA.out w1 hb
                  clear dg
                  clear hev hdep hb
                  go_simp
                  exact ⟨_, rfl, rfl, Below.refl _ _⟩
                · have e4 : a.tmps[4]?.getD undef = .pointer (some ⟨r, 0, none⟩) := hev 4 rfl
                  have dg : a.tmps[110]?.getD undef = .bool false := hdep 8 rfl
                  refine Drawn.wpOp_flow 115 rfl (Drawn.wanted_of rfl rfl rfl dg) rfl ?_
                  clear dg
                  clear hev hdep hb
                  go_simp
                  exact ⟨_, rfl, rfl, Below.refl _ _⟩
                · have d13 : a.tmps[115]?.getD undef = .pointer (some ⟨r, 0, none⟩) := hdep 13 rfl
                  have dg : a.tmps[110]?.getD undef = .bool false := hdep 8 rfl
                  refine Drawn.wpOp_flow 116 rfl (Drawn.wanted_of rfl rfl rfl dg) rfl ?_
                  clear dg
                  clear hev hdep hb
                  go_simp
                  exact ⟨_, rfl, rfl, Below.refl _ _⟩
                · have d14 : a.tmps[116]?.getD undef = .pointer (some ⟨r, 0, none⟩) := hdep 14 rfl
                  have dg : a.tmps[110]?.getD undef = .bool false := hdep 8 rfl
                  refine Drawn.wpOp_flow 117 rfl (Drawn.wanted_of rfl rfl rfl dg) rfl ?_
                  clear dg
                  clear hev hdep hb
                  go_simp
                  exact ⟨_, rfl, rfl, Below.refl _ _⟩
                · have d15 : a.tmps[117]?.getD undef = .pointer (some ⟨r, 0, none⟩) := hdep 15 rfl
                  have dg : a.tmps[110]?.getD undef = .bool false := hdep 8 rfl
                  refine Drawn.wpOp_flow 118 rfl (Drawn.wanted_of rfl rfl rfl dg) rfl ?_
                  obtain ⟨c0, c1, c2⟩ := HRA.out w1 hb
                  clear dg
                  clear hev hdep hb
                  go_simp
                  exact ⟨_, rfl, rfl, Below.refl _ _⟩
                · have d16 : a.tmps[118]?.getD undef = .slice A m c := hdep 16 rfl
                  have dg : a.tmps[110]?.getD undef = .bool false := hdep 8 rfl
                  refine Drawn.wpOp_flow 119 rfl (Drawn.wanted_of rfl rfl rfl dg) rfl ?_
                  clear dg
                  clear hev hdep hb
                  go_simp
                  exact ⟨_, rfl, rfl, Below.refl _ _⟩
                · have d12 : a.tmps[114]?.getD undef = .int .i64 (m : Nat) := hdep 12 rfl
                  have d17 : a.tmps[119]?.getD undef = .int .i64 (m : Nat) := hdep 17 rfl
                  have dg : a.tmps[110]?.getD undef = .bool false := hdep 8 rfl
                  refine Drawn.wpOp_flow 120 rfl (Drawn.wanted_of rfl rfl rfl dg) rfl ?_
                  clear dg
                  clear hev hdep hb
                  go_simp
                  exact ⟨_, rfl, rfl, Below.refl _ _⟩
                · have d8 : a.tmps[110]?.getD undef = .bool false := hdep 8 rfl
                  have d18 : a.tmps[120]?.getD undef = .bool false := hdep 18 rfl
                  refine Drawn.wpOp_flow 121 rfl rfl rfl ?_
                  clear hev hdep hb
                  go_simp
                  exact ⟨_, rfl, rfl, Below.refl _ _⟩
                · have d19 : a.tmps[121]?.getD undef = .bool false := hdep 19 rfl
                  refine Drawn.wpOp_flow 122 rfl rfl rfl ?_
                  clear hev hdep hb
                  go_simp
                  exact ⟨_, rfl, rfl, Below.refl _ _⟩
                · have e6 : a.tmps[6]?.getD undef = .pointer (some ⟨p, 0, none⟩) := hev 6 rfl
                  have dg : a.tmps[122]?.getD undef = .bool false := hdep 20 rfl
                  refine Drawn.wpOp_flow 123 rfl (Drawn.wanted_of rfl rfl rfl dg) rfl ?_
                  clear hev hdep
                  obtain ⟨c0, c1, c2⟩ := HRA.out w1 hb
                  refine Law25.wp_load_ms (.tmp 6) rfl p (by rw [Drawn.eval_tmp]; exact e6) mv (HMS.out w1 hb) ?_
                  exact ⟨_, rfl, rfl, Below.refl _ _⟩
                · have d21 : a.tmps[123]?.getD undef = .agg #[.int .i64 mv.m.K, .int .i64 mv.m.F, .int .i64 mv.m.T, .int .i64 mv.m.B, .string mv.m.s, .int .i64 mv.m.A, .int .i64 mv.m.E, .int .i64 mv.m.M, .int .i64 mv.m.S, .int .i64 mv.m.W, .slice mv.P mv.m.who.length mv.p, .slice mv.Q mv.m.names.length mv.q, .slice mv.D mv.m.data.length mv.d] := hdep 21 rfl
                  have dg : a.tmps[122]?.getD undef = .bool false := hdep 20 rfl
                  refine Drawn.wpOp_flow 124 rfl (Drawn.wanted_of rfl rfl rfl dg) rfl ?_
                  clear hev hdep
                  go_simp
                  refine (CRR.out w1 hb).mono ?_
                  rintro e w2 ⟨rfl, hb2⟩
                  exact ⟨_, rfl, rfl, hb2⟩
                · have d22 : a.tmps[124]?.getD undef = .bool R := hdep 22 rfl
                  have dg : a.tmps[122]?.getD undef = .bool false := hdep 20 rfl
                  refine Drawn.wpOp_flow 125 rfl (Drawn.wanted_of rfl rfl rfl dg) rfl ?_
                  clear dg
                  clear hev hdep hb
                  go_simp
                  exact ⟨_, rfl, rfl, Below.refl _ _⟩
                · have d20 : a.tmps[122]?.getD undef = .bool false := hdep 20 rfl
                  have d23 : a.tmps[125]?.getD undef = .bool (!R) := hdep 23 rfl
                  refine Drawn.wpOp_flow 126 rfl rfl rfl ?_
                  clear hev hdep hb
                  go_simp
                  exact ⟨_, rfl, rfl, Below.refl _ _⟩
              · intro xq w1 hb hxq
                have vq0 : xq 0 = .int .i64 77 := hxq 0 (by omega)
                have vq1 : xq 1 = .bool false := hxq 1 (by omega)
                have vq2 : xq 2 = .bool false := hxq 2 (by omega)
                have vq3 : xq 3 = .pointer (some ⟨r, 0, none⟩) := hxq 3 (by omega)
                have vq4 : xq 4 = .pointer (some ⟨r, 0, none⟩) := hxq 4 (by omega)
                have vq5 : xq 5 = .pointer (some ⟨r, 2, none⟩) := hxq 5 (by omega)
                have vq6 : xq 6 = .bool false := hxq 6 (by omega)
                have vq7 : xq 7 = .bool false := hxq 7 (by omega)
                have vq8 : xq 8 = .bool false := hxq 8 (by omega)
                have vq9 : xq 9 = .pointer (some ⟨r, 0, none⟩) := hxq 9 (by omega)
                have vq10 : xq 10 = .pointer (some ⟨r, 0, none⟩) := hxq 10 (by omega)
                have vq11 : xq 11 = .pointer (some ⟨r, 1, none⟩) := hxq 11 (by omega)
                have vq12 : xq 12 = .int .i64 (m : Nat) := hxq 12 (by omega)
                have vq13 : xq 13 = .pointer (some ⟨r, 0, none⟩) := hxq 13 (by omega)
                have vq14 : xq 14 = .pointer (some ⟨r, 0, none⟩) := hxq 14 (by omega)
                have vq15 : xq 15 = .pointer (some ⟨r, 0, none⟩) := hxq 15 (by omega)
                have vq16 : xq 16 = .slice A m c := hxq 16 (by omega)
                have vq17 : xq 17 = .int .i64 (m : Nat) := hxq 17 (by omega)
                have vq18 : xq 18 = .bool false := hxq 18 (by omega)
                have vq19 : xq 19 = .bool false := hxq 19 (by omega)
                have vq20 : xq 20 = .bool false := hxq 20 (by omega)
                have vq21 : xq 21 = .agg #[.int .i64 mv.m.K, .int .i64 mv.m.F, .int .i64 mv.m.T, .int .i64 mv.m.B, .string mv.m.s, .int .i64 mv.m.A, .int .i64 mv.m.E, .int .i64 mv.m.M, .int .i64 mv.m.S, .int .i64 mv.m.W, .slice mv.P mv.m.who.length mv.p, .slice mv.Q mv.m.names.length mv.q, .slice mv.D mv.m.data.length mv.d] := hxq 21 (by omega)
                have vq22 : xq 22 = .bool R := hxq 22 (by omega)
                have vq23 : xq 23 = .bool (!R) := hxq 23 (by omega)
                have vq24 : xq 24 = .bool (!R) := hxq 24 (by omega)
                show Exit.then _ _ Exit.normal (Drawn.acts _ [(126, some (xq 24)), (125, some (xq 23)), (124, some (xq 22)), (123, some (xq 21)), (122, some (xq 20)), (121, some (xq 19)), (120, some (xq 18)), (119, some (xq 17)), (118, some (xq 16)), (117, some (xq 15)), (116, some (xq 14)), (115, some (xq 13)), (114, some (xq 12)), (113, some (xq 11)), (112, some (xq 10)), (111, some (xq 9)), (110, some (xq 8)), (109, some (xq 7)), (108, some (xq 6)), (107, some (xq 5)), (106, some (xq 4)), (105, some (xq 3)), (104, some (xq 2)), (103, some (xq 1)), (102, some (xq 0))]) _
                rw [vq0, vq1, vq2, vq3, vq4, vq5, vq6, vq7, vq8, vq9, vq10, vq11, vq12, vq13, vq14, vq15, vq16, vq17, vq18, vq19, vq20, vq21, vq22, vq23, vq24]
                clear hxq vq0 vq1 vq2 vq3 vq4 vq5 vq6 vq7 vq8 vq9 vq10 vq11 vq12 vq13 vq14 vq15 vq16 vq17 vq18 vq19 vq20 vq21 vq22 vq23 vq24
                clear xq
                simp only [Drawn.acts]
                go_simp
                have HRq := Lib.hid (RH.out.rs.below hb); have HRp := Lib.hid (RH.out.rc.below hb); have HB9 := Lib.hid (bstep RH.out.below hb); have HL9 := Lib.hid (HLI.out.below hb)
                clear hb CRR HMS HRA RH HLI
                rcases R with _ | _
                · obtain ⟨rfl, rfl⟩ := HNS.out rfl
                  clear HNS HYS HFAR HRp HL9
                  go_wp2_with ((with_reducible show wpList _ _ _ (_ :: _) _ _); refine wpList_store_ms rfl (.tmp 2) (.tmp 127) rfl q mv0 (by kernel_rfl) (by kernel_rfl) mv0 HRq.out ?_; intro w9 hr9 hk9; have HR9 := Lib.hid hr9; have HK9 := Lib.hid hk9; clear hr9 hk9; refine Stop.out ?_)
                  refine ⟨?_⟩
                  refine wpList_assign' rfl _ rfl ?_
                  refine wpList_nil ?_
                  rename_i hret
                  refine hret _ _ (wp_ret ?_)
                  dsimp +zetaDelta only [Exit.then]
                  exact Go.bodyPost_ret (results_ms2 rfl _ _ q mv0 (by kernel_rfl) HR9.out (.int .i64 3) (by kernel_rfl)) rfl ⟨mv0, rfl, rfl, lies0 _, below_keeps HB9.out HK9.out (fun i e => by have h2 := HQ.out; omega) HB9.out.size⟩
                · obtain ⟨rfl, rfl⟩ := HYS.out rfl
                  clear HNS HYS
                  go_wp2_with (first
                    | ((with_reducible show wpList _ _ _ (_ :: _) _ _); refine Law25.wpList_load_msw rfl _ rfl p rfl mv HRp.out ?_)
                    | ((with_reducible show wpList _ _ _ (_ :: _) _ _); refine wpList_store_ms rfl _ _ rfl q mv rfl rfl mv0 HRq.out ?_; intro w9 hr9 hk9; have HR9 := Lib.hid hr9; have HK9 := Lib.hid hk9; clear hr9 hk9; refine Stop.out ?_))
                  have hfr := HFAR.out; have hq2 := HQ.out
                  refine ⟨?_⟩
                  refine wpList_assign' rfl _ rfl ?_
                  refine wpList_nil ?_
                  rename_i hret
                  refine hret _ _ (wp_ret ?_)
                  dsimp +zetaDelta only [Exit.then]
                  exact Go.bodyPost_ret (results_ms2 rfl _ _ q mv rfl HR9.out (.int .i64 0) rfl) rfl ⟨mv, rfl, rfl, Lies.keep HL9.out HK9.out (fun _ a e => by have := hfr.1 a e; omega) (fun _ a e => by have := hfr.2.1 a e; omega) (fun h0 a e => by have := hfr.2.2 h0 a e; omega), below_keeps HB9.out HK9.out (fun k e => by omega) HB9.out.size⟩
            · clear cbad HX2
              have HD12 := Lib.hid (CRT.out r (T2 S14 k2).2 wr HJ.out.1.rd)
              obtain ⟨S15, hS15⟩ : ∃ S15, S15 = (T2 S14 k2).2 := ⟨_, rfl⟩
              obtain ⟨NL, hNL⟩ : ∃ NL, NL = (T2 S14 k2).1 := ⟨_, rfl⟩
              rw [← hS15] at HD12 HEE HJ
              rw [← hNL] at HJ HEE
              obtain ⟨DL, hDL⟩ : ∃ DL, DL = PackM.textL b S15 := ⟨_, rfl⟩
              obtain ⟨S16, hS16⟩ : ∃ S16, S16 = PackM.textS b S15 := ⟨_, rfl⟩
              rw [← hDL, ← hS16] at HD12 HEE
              clear hS15 hNL hDL hS16
              go_wp2_with fail
              refine HD12.out.mono ?_
              rintro e w7 ⟨XD, dd, rfl, hX, hnew, hd1, hd2, k1, k3⟩
              have RG := Lib.hid (HJ.out.1.grown k1 k3)
              have HLI : Hid (Lies (w7.setCell ⟨p, 12, none⟩ (.slice XD DL.length dd)) ⟨⟨(v1 : Nat), (v2 : Nat), (v3 : Nat), (v4 : Nat), v5, (v6 : Nat), (v7 : Nat), (v8 : Nat), (v9 : Nat), (v10 : Nat), W1, NL, DL⟩, A1, c1, A2, c2, XD, dd⟩) := Lib.hid (by
                obtain ⟨AA, cA, hv, q1, q2, q3, q4⟩ := HJ.out.2.1.strs
                injection hv with e1 _ e3
                subst e1 e3
                have hp := HJ.out.1.rc.lt
                have hnb := HNBB.out
                have hrp := HJ.out.1.n2
                have hw7 : IntsAt w7 A1 W1 := CellsAt.keep (F := fun i => i = r) HJ.out.2.2.1 (.grow k3 rfl) (fun _ a e q => by have h1 := HWN.out.1 a e; have h2 : a.block = r := q; omega)
                have hn7 : StrsAt w7 A2 NL := CellsAt.keep (F := fun i => i = r) q3 (.grow k3 rfl) (fun _ a e q => by have h1 := q4 a e; have h2 : a.block = r := q; omega)
                exact Lies.keep (F := fun i => i = p) (w := w7) (x := ⟨⟨(v1 : Nat), (v2 : Nat), (v3 : Nat), (v4 : Nat), v5, (v6 : Nat), (v7 : Nat), (v8 : Nat), (v9 : Nat), (v10 : Nat), W1, NL, DL⟩, A1, c1, A2, c2, XD, dd⟩) ⟨hw7, hn7, hX, HWC.out.1, q1, hd1, HWC.out.2, q2, hd2⟩ (.set (fun i => i = p) _ ⟨p, 12, none⟩ (.slice XD DL.length dd) rfl) (fun _ a e q => by have h1 := HWN.out.1 a e; have h2 : a.block = p := q; omega) (fun _ a e q => by have h1 := q4 a e; have h2 : a.block = p := q; omega) (fun _ a e q => by have h1 := hnew a e; have h2 : a.block = p := q; omega))
              have HFAR : Hid (From (q + 1) ⟨⟨(v1 : Nat), (v2 : Nat), (v3 : Nat), (v4 : Nat), v5, (v6 : Nat), (v7 : Nat), (v8 : Nat), (v9 : Nat), (v10 : Nat), W1, NL, DL⟩, A1, c1, A2, c2, XD, dd⟩) := Lib.hid (by
                obtain ⟨AA, cA, hv, q1, q2, q3, q4⟩ := HJ.out.2.1.strs
                injection hv with e1 _ e3
                subst e1 e3
                have hp := HJ.out.1.rc.lt
                have hnb := HNBB.out
                have hrp := HJ.out.1.n2
                have hqr := HJ.out.1.n1
                exact ⟨fun a e => by have h1 := HWN.out.1 a e; omega, fun a e => by have h1 := q4 a e; omega, fun _ a e => by have h1 := hnew a e; omega⟩)
              have cc12 := RG.out.rc.c12; have ff12 := RG.out.rc.fr 12
              have RH : Hid (Rdg w (w7.setCell ⟨p, 12, none⟩ (.slice XD DL.length dd)) r q p A c b S16 ⟨⟨(v1 : Nat), (v2 : Nat), (v3 : Nat), (v4 : Nat), v5, (v6 : Nat), (v7 : Nat), (v8 : Nat), (v9 : Nat), (v10 : Nat), W1, NL, DL⟩, A1, c1, A2, c2, XD, dd⟩) := Lib.hid (RG.out.stored (.set (fun i => i = p) _ ⟨p, 12, none⟩ (.slice XD DL.length dd) rfl) (MsB.set RG.out.rc 12 (.slice XD DL.length dd)))
              obtain ⟨W8, hW8⟩ : ∃ W8, W8 = (w7.setCell ⟨p, 12, none⟩ (.slice XD DL.length dd)) := ⟨_, rfl⟩
              rw [← hW8] at RH HLI
              clear hX hnew hd1 hd2 k1 k3 HJ RG HD12
              have cb := RH.out.rd.cb; have ca := RH.out.rd.ca; have cd := RH.out.rd.cd
              go_wp2_with fail
              rw [← hW8]
              clear hW8 cc12 ff12
              by_cases hz : z0 = 77
              rotate_left
              · obtain ⟨rfl, rfl⟩ := HNO.out k k2 _ _ HEE.out (fun h => hz h.1)
                have hz1 : ((z0 : Int) != 77) = true := by simp only [bne_iff_ne]; omega
                clear HEE HNO HYES HFI HLI HFAR
                go_quiet (fail)
                go_wp2_with ((with_reducible show wpList _ _ _ (_ :: _) _ _); refine wpList_store_ms rfl (.tmp 2) (.tmp 127) rfl q mv0 (by kernel_rfl) (by kernel_rfl) mv0 RH.out.rs ?_; intro w9 hr9 hk9; have HR9 := Lib.hid hr9; have HK9 := Lib.hid hk9; clear hr9 hk9; refine Stop.out ?_)
                refine ⟨?_⟩
                refine wpList_assign' rfl _ rfl ?_
                refine wpList_nil ?_
                rename_i hret
                refine hret _ _ (wp_ret ?_)
                dsimp +zetaDelta only [Exit.then]
                exact Go.bodyPost_ret (results_ms2 rfl _ _ q mv0 (by kernel_rfl) HR9.out (.int .i64 3) (by kernel_rfl)) rfl ⟨mv0, rfl, rfl, lies0 _, below_keeps (bstep RH.out.below (bdraw W8 nq)) HK9.out (fun i e => by have h2 := HQ.out; omega) (bstep RH.out.below (bdraw W8 nq)).size⟩
              subst hz
              rcases hbad : S16.bad with _ | _
              rotate_left
              · obtain ⟨rfl, rfl⟩ := HNO.out k k2 _ _ HEE.out (fun h => by rw [hbad] at h; cases h.2.1)
                rw [hbad] at cd
                clear HEE HNO HYES HFI HLI HFAR
                go_quiet (fail)
                go_wp2_with ((with_reducible show wpList _ _ _ (_ :: _) _ _); refine wpList_store_ms rfl (.tmp 2) (.tmp 127) rfl q mv0 (by kernel_rfl) (by kernel_rfl) mv0 RH.out.rs ?_; intro w9 hr9 hk9; have HR9 := Lib.hid hr9; have HK9 := Lib.hid hk9; clear hr9 hk9; refine Stop.out ?_)
                refine ⟨?_⟩
                refine wpList_assign' rfl _ rfl ?_
                refine wpList_nil ?_
                rename_i hret
                refine hret _ _ (wp_ret ?_)
                dsimp +zetaDelta only [Exit.then]
                exact Go.bodyPost_ret (results_ms2 rfl _ _ q mv0 (by kernel_rfl) HR9.out (.int .i64 3) (by kernel_rfl)) rfl ⟨mv0, rfl, rfl, lies0 _, below_keeps (bstep RH.out.below (bdraw W8 nq)) HK9.out (fun i e => by have h2 := HQ.out; omega) (bstep RH.out.below (bdraw W8 nq)).size⟩
              by_cases hat : S16.at_ = b.length
              rotate_left
              · obtain ⟨rfl, rfl⟩ := HNO.out k k2 _ _ HEE.out (fun h => hat h.2.2.1)
                rw [hbad] at cd
                have hat1 : ((S16.at_ : Int) != (b.length : Int)) = true := by simp only [bne_iff_ne]; omega
                clear HEE HNO HYES HFI HLI HFAR hat
                generalize S16.at_ = sa at *
                generalize b.length = bl at *
                go_quiet (fail)
                go_wp2_with ((with_reducible show wpList _ _ _ (_ :: _) _ _); refine wpList_store_ms rfl (.tmp 2) (.tmp 127) rfl q mv0 (by kernel_rfl) (by kernel_rfl) mv0 RH.out.rs ?_; intro w9 hr9 hk9; have HR9 := Lib.hid hr9; have HK9 := Lib.hid hk9; clear hr9 hk9; refine Stop.out ?_)
                refine ⟨?_⟩
                refine wpList_assign' rfl _ rfl ?_
                refine wpList_nil ?_
                rename_i hret
                refine hret _ _ (wp_ret ?_)
                dsimp +zetaDelta only [Exit.then]
                exact Go.bodyPost_ret (results_ms2 rfl _ _ q mv0 (by kernel_rfl) HR9.out (.int .i64 3) (by kernel_rfl)) rfl ⟨mv0, rfl, rfl, lies0 _, below_keeps (bstep RH.out.below (bdraw W8 nq)) HK9.out (fun i e => by have h2 := HQ.out; omega) (bstep RH.out.below (bdraw W8 nq)).size⟩
              obtain ⟨mv, hmv⟩ : ∃ mv : Mv, mv = ⟨⟨(v1 : Nat), (v2 : Nat), (v3 : Nat), (v4 : Nat), v5, (v6 : Nat), (v7 : Nat), (v8 : Nat), (v9 : Nat), (v10 : Nat), W1, NL, DL⟩, A1, c1, A2, c2, XD, dd⟩ := ⟨_, rfl⟩
              rw [← hmv] at RH HLI HFAR
              have HEE2 : Hid (Endg b k k2 mv.m S16) := Lib.hid (by rw [hmv]; exact HEE.out)
              have HMW : Hid (mv.m.who.length ≤ 1048576) := Lib.hid (by rw [hmv]; exact HW1L.out)
              clear hmv HEE cb ca cd
              have HFM := Lib.hid (HFI.out k k2 _ _ HEE2.out)
              obtain ⟨R, hR⟩ : ∃ R, R = mv.m.right := ⟨_, rfl⟩
              have CRR : Hid (∀ W, Below W8.heap.size W8 W → Calls Try.prog 11 #[.agg #[.int .i64 mv.m.K, .int .i64 mv.m.F, .int .i64 mv.m.T, .int .i64 mv.m.B, .string mv.m.s, .int .i64 mv.m.A, .int .i64 mv.m.E, .int .i64 mv.m.M, .int .i64 mv.m.S, .int .i64 mv.m.W, .slice mv.P mv.m.who.length mv.p, .slice mv.Q mv.m.names.length mv.q, .slice mv.D mv.m.data.length mv.d]] W fun e w' => e = .returned (.bool R) ∧ Below W.heap.size W w') := Lib.hid fun W hb => by rw [hR]; exact right_any mv HFM.out W (HLI.out.below hb) HMW.out
              have HMS : Hid (∀ W, Below W8.heap.size W8 W → MsB W p mv) := Lib.hid fun W hb => RH.out.rc.below hb
              have HRA : Hid (∀ W, Below W8.heap.size W8 W → W.cell? ⟨r, 0, none⟩ = some (.slice A m c) ∧ W.cell? ⟨r, 1, none⟩ = some (.int .i64 (m : Nat)) ∧ W.cell? ⟨r, 2, none⟩ = some (.bool false)) := Lib.hid fun W hb => by
                have h := RH.out.rd.below hb
                exact ⟨by rw [HM.out]; exact h.cb, by rw [HM.out, ← hat]; exact h.ca, by rw [← hbad]; exact h.cd⟩
              have HYS : Hid (R = true → GV = mv.m ∧ GE = 0) := Lib.hid fun h => HYES.out k k2 _ _ HEE2.out rfl hbad hat (by rw [← hR]; exact h)
              have HNS : Hid (R = false → GV = ms0 ∧ GE = 3) := Lib.hid fun h => HNO.out k k2 _ _ HEE2.out (fun hh => by rw [← hR, h] at hh; cases hh.2.2.2)
              clear hR hbad hat HEE2 HYES HNO HFI HFM HMW
              refine Drawn.wp_region_flowL 25 [Drawn.SP.is (.int .i64 77), Drawn.SP.is (.bool false), Drawn.SP.is (.bool false), Drawn.SP.is (.pointer (some ⟨r, 0, none⟩)), Drawn.SP.is (.pointer (some ⟨r, 0, none⟩)), Drawn.SP.is (.pointer (some ⟨r, 2, none⟩)), Drawn.SP.is (.bool false), Drawn.SP.is (.bool false), Drawn.SP.is (.bool false), Drawn.SP.is (.pointer (some ⟨r, 0, none⟩)), Drawn.SP.is (.pointer (some ⟨r, 0, none⟩)), Drawn.SP.is (.pointer (some ⟨r, 1, none⟩)), Drawn.SP.is (.int .i64 (m : Nat)), Drawn.SP.is (.pointer (some ⟨r, 0, none⟩)), Drawn.SP.is (.pointer (some ⟨r, 0, none⟩)), Drawn.SP.is (.pointer (some ⟨r, 0, none⟩)), Drawn.SP.is (.slice A m c), Drawn.SP.is (.int .i64 (m : Nat)), Drawn.SP.is (.bool false), Drawn.SP.is (.bool false), Drawn.SP.is (.bool false), Drawn.SP.is (.agg #[.int .i64 mv.m.K, .int .i64 mv.m.F, .int .i64 mv.m.T, .int .i64 mv.m.B, .string mv.m.s, .int .i64 mv.m.A, .int .i64 mv.m.E, .int .i64 mv.m.M, .int .i64 mv.m.S, .int .i64 mv.m.W, .slice mv.P mv.m.who.length mv.p, .slice mv.Q mv.m.names.length mv.q, .slice mv.D mv.m.data.length mv.d]), Drawn.SP.is (.bool R), Drawn.SP.is (.bool (!R)), Drawn.SP.is (.bool (!R))] (by kernel_rfl) (by kernel_rfl) ?_ ?_
              · intro i hi a w1 hb hev hdep
                rcases (show i = 0 ∨ i = 1 ∨ i = 2 ∨ i = 3 ∨ i = 4 ∨ i = 5 ∨ i = 6 ∨ i = 7 ∨ i = 8 ∨ i = 9 ∨ i = 10 ∨ i = 11 ∨ i = 12 ∨ i = 13 ∨ i = 14 ∨ i = 15 ∨ i = 16 ∨ i = 17 ∨ i = 18 ∨ i = 19 ∨ i = 20 ∨ i = 21 ∨ i = 22 ∨ i = 23 ∨ i = 24 by omega) with rfl | rfl | rfl | rfl | rfl | rfl | rfl | rfl | rfl | rfl | rfl | rfl | rfl | rfl | rfl | rfl | rfl | rfl | rfl | rfl | rfl | rfl | rfl | rfl | rfl
                · have e5 : a.tmps[5]?.getD undef = .int .i64 77 := hev 5 rfl
                  refine Drawn.wpOp_flow 102 rfl rfl rfl ?_
                  clear hev hdep hb
                  go_simp
                  exact ⟨_, rfl, rfl, Below.refl _ _⟩
                · have d0 : a.tmps[102]?.getD undef = .int .i64 77 := hdep 0 rfl
                  refine Drawn.wpOp_flow 103 rfl rfl rfl ?_
                  clear hev hdep hb
                  go_simp
                  exact ⟨_, rfl, rfl, Below.refl _ _⟩
                · have d1 : a.tmps[103]?.getD undef = .bool false := hdep 1 rfl
                  refine Drawn.wpOp_flow 104 rfl rfl rfl ?_
                  clear hev hdep hb
                  go_simp
                  exact ⟨_, rfl, rfl, Below.refl _ _⟩
                · have e4 : a.tmps[4]?.getD undef = .pointer (some ⟨r, 0, none⟩) := hev 4 rfl
                  have dg : a.tmps[104]?.getD undef = .bool false := hdep 2 rfl
                  refine Drawn.wpOp_flow 105 rfl (Drawn.wanted_of rfl rfl rfl dg) rfl ?_
                  clear dg
                  clear hev hdep hb
                  go_simp
                  exact ⟨_, rfl, rfl, Below.refl _ _⟩
                · have d3 : a.tmps[105]?.getD undef = .pointer (some ⟨r, 0, none⟩) := hdep 3 rfl
                  have dg : a.tmps[104]?.getD undef = .bool false := hdep 2 rfl
                  refine Drawn.wpOp_flow 106 rfl (Drawn.wanted_of rfl rfl rfl dg) rfl ?_
                  clear dg
                  clear hev hdep hb
                  go_simp
                  exact ⟨_, rfl, rfl, Below.refl _ _⟩
                · have d4 : a.tmps[106]?.getD undef = .pointer (some ⟨r, 0, none⟩) := hdep 4 rfl
                  have dg : a.tmps[104]?.getD undef = .bool false := hdep 2 rfl
                  refine Drawn.wpOp_flow 107 rfl (Drawn.wanted_of rfl rfl rfl dg) rfl ?_
                  clear dg
                  clear hev hdep hb
                  go_simp
                  exact ⟨_, rfl, rfl, Below.refl _ _⟩
                · have d5 : a.tmps[107]?.getD undef = .pointer (some ⟨r, 2, none⟩) := hdep 5 rfl
                  have dg : a.tmps[104]?.getD undef = .bool false := hdep 2 rfl
                  refine Drawn.wpOp_flow 108 rfl (Drawn.wanted_of rfl rfl rfl dg) rfl ?_
                  obtain ⟨c0, c1, c2⟩ := HRA.out w1 hb
                  clear dg
                  clear hev hdep hb
                  go_simp
                  exact ⟨_, rfl, rfl, Below.refl _ _⟩
                · have d2 : a.tmps[104]?.getD undef = .bool false := hdep 2 rfl
                  have d6 : a.tmps[108]?.getD undef = .bool false := hdep 6 rfl
                  refine Drawn.wpOp_flow 109 rfl rfl rfl ?_
                  clear hev hdep hb
                  go_simp
                  exact ⟨_, rfl, rfl, Below.refl _ _⟩
                · have d7 : a.tmps[109]?.getD undef = .bool false := hdep 7 rfl
                  refine Drawn.wpOp_flow 110 rfl rfl rfl ?_
                  clear hev hdep hb
                  go_simp
                  exact ⟨_, rfl, rfl, Below.refl _ _⟩
                · have e4 : a.tmps[4]?.getD undef = .pointer (some ⟨r, 0, none⟩) := hev 4 rfl
                  have dg : a.tmps[110]?.getD undef = .bool false := hdep 8 rfl
                  refine Drawn.wpOp_flow 111 rfl (Drawn.wanted_of rfl rfl rfl dg) rfl ?_
                  clear dg
                  clear hev hdep hb
                  go_simp
                  exact ⟨_, rfl, rfl, Below.refl _ _⟩
                · have d9 : a.tmps[111]?.getD undef = .pointer (some ⟨r, 0, none⟩) := hdep 9 rfl
                  have dg : a.tmps[110]?.getD undef = .bool false := hdep 8 rfl
                  refine Drawn.wpOp_flow 112 rfl (Drawn.wanted_of rfl rfl rfl dg) rfl ?_
                  clear dg
                  clear hev hdep hb
                  go_simp
                  exact ⟨_, rfl, rfl, Below.refl _ _⟩
                · have d10 : a.tmps[112]?.getD undef = .pointer (some ⟨r, 0, none⟩) := hdep 10 rfl
                  have dg : a.tmps[110]?.getD undef = .bool false := hdep 8 rfl
                  refine Drawn.wpOp_flow 113 rfl (Drawn.wanted_of rfl rfl rfl dg) rfl ?_
                  clear dg
                  clear hev hdep hb
                  go_simp
                  exact ⟨_, rfl, rfl, Below.refl _ _⟩
                · have d11 : a.tmps[113]?.getD undef = .pointer (some ⟨r, 1, none⟩) := hdep 11 rfl
                  have dg : a.tmps[110]?.getD undef = .bool false := hdep 8 rfl
                  refine Drawn.wpOp_flow 114 rfl (Drawn.wanted_of rfl rfl rfl dg) rfl ?_
                  obtain ⟨c0, c1, c2⟩ := HRA.out w1 hb
                  clear dg
                  clear hev hdep hb
                  go_simp
                  exact ⟨_, rfl, rfl, Below.refl _ _⟩
                · have e4 : a.tmps[4]?.getD undef = .pointer (some ⟨r, 0, none⟩) := hev 4 rfl
                  have dg : a.tmps[110]?.getD undef = .bool false := hdep 8 rfl
                  refine Drawn.wpOp_flow 115 rfl (Drawn.wanted_of rfl rfl rfl dg) rfl ?_
                  clear dg
                  clear hev hdep hb
                  go_simp
                  exact ⟨_, rfl, rfl, Below.refl _ _⟩
                · have d13 : a.tmps[115]?.getD undef = .pointer (some ⟨r, 0, none⟩) := hdep 13 rfl
                  have dg : a.tmps[110]?.getD undef = .bool false := hdep 8 rfl
                  refine Drawn.wpOp_flow 116 rfl (Drawn.wanted_of rfl rfl rfl dg) rfl ?_
                  clear dg
                  clear hev hdep hb
                  go_simp
                  exact ⟨_, rfl, rfl, Below.refl _ _⟩
                · have d14 : a.tmps[116]?.getD undef = .pointer (some ⟨r, 0, none⟩) := hdep 14 rfl
                  have dg : a.tmps[110]?.getD undef = .bool false := hdep 8 rfl
                  refine Drawn.wpOp_flow 117 rfl (Drawn.wanted_of rfl rfl rfl dg) rfl ?_
                  clear dg
                  clear hev hdep hb
                  go_simp
                  exact ⟨_, rfl, rfl, Below.refl _ _⟩
                · have d15 : a.tmps[117]?.getD undef = .pointer (some ⟨r, 0, none⟩) := hdep 15 rfl
                  have dg : a.tmps[110]?.getD undef = .bool false := hdep 8 rfl
                  refine Drawn.wpOp_flow 118 rfl (Drawn.wanted_of rfl rfl rfl dg) rfl ?_
                  obtain ⟨c0, c1, c2⟩ := HRA.out w1 hb
                  clear dg
                  clear hev hdep hb
                  go_simp
                  exact ⟨_, rfl, rfl, Below.refl _ _⟩
                · have d16 : a.tmps[118]?.getD undef = .slice A m c := hdep 16 rfl
                  have dg : a.tmps[110]?.getD undef = .bool false := hdep 8 rfl
                  refine Drawn.wpOp_flow 119 rfl (Drawn.wanted_of rfl rfl rfl dg) rfl ?_
                  clear dg
                  clear hev hdep hb
                  go_simp
                  exact ⟨_, rfl, rfl, Below.refl _ _⟩
                · have d12 : a.tmps[114]?.getD undef = .int .i64 (m : Nat) := hdep 12 rfl
                  have d17 : a.tmps[119]?.getD undef = .int .i64 (m : Nat) := hdep 17 rfl
                  have dg : a.tmps[110]?.getD undef = .bool false := hdep 8 rfl
                  refine Drawn.wpOp_flow 120 rfl (Drawn.wanted_of rfl rfl rfl dg) rfl ?_
                  clear dg
                  clear hev hdep hb
                  go_simp
                  exact ⟨_, rfl, rfl, Below.refl _ _⟩
                · have d8 : a.tmps[110]?.getD undef = .bool false := hdep 8 rfl
                  have d18 : a.tmps[120]?.getD undef = .bool false := hdep 18 rfl
                  refine Drawn.wpOp_flow 121 rfl rfl rfl ?_
                  clear hev hdep hb
                  go_simp
                  exact ⟨_, rfl, rfl, Below.refl _ _⟩
                · have d19 : a.tmps[121]?.getD undef = .bool false := hdep 19 rfl
                  refine Drawn.wpOp_flow 122 rfl rfl rfl ?_
                  clear hev hdep hb
                  go_simp
                  exact ⟨_, rfl, rfl, Below.refl _ _⟩
                · have e6 : a.tmps[6]?.getD undef = .pointer (some ⟨p, 0, none⟩) := hev 6 rfl
                  have dg : a.tmps[122]?.getD undef = .bool false := hdep 20 rfl
                  refine Drawn.wpOp_flow 123 rfl (Drawn.wanted_of rfl rfl rfl dg) rfl ?_
                  clear hev hdep
                  obtain ⟨c0, c1, c2⟩ := HRA.out w1 hb
                  refine Law25.wp_load_ms (.tmp 6) rfl p (by rw [Drawn.eval_tmp]; exact e6) mv (HMS.out w1 hb) ?_
                  exact ⟨_, rfl, rfl, Below.refl _ _⟩
                · have d21 : a.tmps[123]?.getD undef = .agg #[.int .i64 mv.m.K, .int .i64 mv.m.F, .int .i64 mv.m.T, .int .i64 mv.m.B, .string mv.m.s, .int .i64 mv.m.A, .int .i64 mv.m.E, .int .i64 mv.m.M, .int .i64 mv.m.S, .int .i64 mv.m.W, .slice mv.P mv.m.who.length mv.p, .slice mv.Q mv.m.names.length mv.q, .slice mv.D mv.m.data.length mv.d] := hdep 21 rfl
                  have dg : a.tmps[122]?.getD undef = .bool false := hdep 20 rfl
                  refine Drawn.wpOp_flow 124 rfl (Drawn.wanted_of rfl rfl rfl dg) rfl ?_
                  clear hev hdep
                  go_simp
                  refine (CRR.out w1 hb).mono ?_
                  rintro e w2 ⟨rfl, hb2⟩
                  exact ⟨_, rfl, rfl, hb2⟩
                · have d22 : a.tmps[124]?.getD undef = .bool R := hdep 22 rfl
                  have dg : a.tmps[122]?.getD undef = .bool false := hdep 20 rfl
                  refine Drawn.wpOp_flow 125 rfl (Drawn.wanted_of rfl rfl rfl dg) rfl ?_
                  clear dg
                  clear hev hdep hb
                  go_simp
                  exact ⟨_, rfl, rfl, Below.refl _ _⟩
                · have d20 : a.tmps[122]?.getD undef = .bool false := hdep 20 rfl
                  have d23 : a.tmps[125]?.getD undef = .bool (!R) := hdep 23 rfl
                  refine Drawn.wpOp_flow 126 rfl rfl rfl ?_
                  clear hev hdep hb
                  go_simp
                  exact ⟨_, rfl, rfl, Below.refl _ _⟩
              · intro xq w1 hb hxq
                have vq0 : xq 0 = .int .i64 77 := hxq 0 (by omega)
                have vq1 : xq 1 = .bool false := hxq 1 (by omega)
                have vq2 : xq 2 = .bool false := hxq 2 (by omega)
                have vq3 : xq 3 = .pointer (some ⟨r, 0, none⟩) := hxq 3 (by omega)
                have vq4 : xq 4 = .pointer (some ⟨r, 0, none⟩) := hxq 4 (by omega)
                have vq5 : xq 5 = .pointer (some ⟨r, 2, none⟩) := hxq 5 (by omega)
                have vq6 : xq 6 = .bool false := hxq 6 (by omega)
                have vq7 : xq 7 = .bool false := hxq 7 (by omega)
                have vq8 : xq 8 = .bool false := hxq 8 (by omega)
                have vq9 : xq 9 = .pointer (some ⟨r, 0, none⟩) := hxq 9 (by omega)
                have vq10 : xq 10 = .pointer (some ⟨r, 0, none⟩) := hxq 10 (by omega)
                have vq11 : xq 11 = .pointer (some ⟨r, 1, none⟩) := hxq 11 (by omega)
                have vq12 : xq 12 = .int .i64 (m : Nat) := hxq 12 (by omega)
                have vq13 : xq 13 = .pointer (some ⟨r, 0, none⟩) := hxq 13 (by omega)
                have vq14 : xq 14 = .pointer (some ⟨r, 0, none⟩) := hxq 14 (by omega)
                have vq15 : xq 15 = .pointer (some ⟨r, 0, none⟩) := hxq 15 (by omega)
                have vq16 : xq 16 = .slice A m c := hxq 16 (by omega)
                have vq17 : xq 17 = .int .i64 (m : Nat) := hxq 17 (by omega)
                have vq18 : xq 18 = .bool false := hxq 18 (by omega)
                have vq19 : xq 19 = .bool false := hxq 19 (by omega)
                have vq20 : xq 20 = .bool false := hxq 20 (by omega)
                have vq21 : xq 21 = .agg #[.int .i64 mv.m.K, .int .i64 mv.m.F, .int .i64 mv.m.T, .int .i64 mv.m.B, .string mv.m.s, .int .i64 mv.m.A, .int .i64 mv.m.E, .int .i64 mv.m.M, .int .i64 mv.m.S, .int .i64 mv.m.W, .slice mv.P mv.m.who.length mv.p, .slice mv.Q mv.m.names.length mv.q, .slice mv.D mv.m.data.length mv.d] := hxq 21 (by omega)
                have vq22 : xq 22 = .bool R := hxq 22 (by omega)
                have vq23 : xq 23 = .bool (!R) := hxq 23 (by omega)
                have vq24 : xq 24 = .bool (!R) := hxq 24 (by omega)
                show Exit.then _ _ Exit.normal (Drawn.acts _ [(126, some (xq 24)), (125, some (xq 23)), (124, some (xq 22)), (123, some (xq 21)), (122, some (xq 20)), (121, some (xq 19)), (120, some (xq 18)), (119, some (xq 17)), (118, some (xq 16)), (117, some (xq 15)), (116, some (xq 14)), (115, some (xq 13)), (114, some (xq 12)), (113, some (xq 11)), (112, some (xq 10)), (111, some (xq 9)), (110, some (xq 8)), (109, some (xq 7)), (108, some (xq 6)), (107, some (xq 5)), (106, some (xq 4)), (105, some (xq 3)), (104, some (xq 2)), (103, some (xq 1)), (102, some (xq 0))]) _
                rw [vq0, vq1, vq2, vq3, vq4, vq5, vq6, vq7, vq8, vq9, vq10, vq11, vq12, vq13, vq14, vq15, vq16, vq17, vq18, vq19, vq20, vq21, vq22, vq23, vq24]
                clear hxq vq0 vq1 vq2 vq3 vq4 vq5 vq6 vq7 vq8 vq9 vq10 vq11 vq12 vq13 vq14 vq15 vq16 vq17 vq18 vq19 vq20 vq21 vq22 vq23 vq24
                clear xq
                simp only [Drawn.acts]
                go_simp
                have HRq := Lib.hid (RH.out.rs.below hb); have HRp := Lib.hid (RH.out.rc.below hb); have HB9 := Lib.hid (bstep RH.out.below hb); have HL9 := Lib.hid (HLI.out.below hb)
                clear hb CRR HMS HRA RH HLI
                rcases R with _ | _
                · obtain ⟨rfl, rfl⟩ := HNS.out rfl
                  clear HNS HYS HFAR HRp HL9
                  go_wp2_with ((with_reducible show wpList _ _ _ (_ :: _) _ _); refine wpList_store_ms rfl (.tmp 2) (.tmp 127) rfl q mv0 (by kernel_rfl) (by kernel_rfl) mv0 HRq.out ?_; intro w9 hr9 hk9; have HR9 := Lib.hid hr9; have HK9 := Lib.hid hk9; clear hr9 hk9; refine Stop.out ?_)
                  refine ⟨?_⟩
                  refine wpList_assign' rfl _ rfl ?_
                  refine wpList_nil ?_
                  rename_i hret
                  refine hret _ _ (wp_ret ?_)
                  dsimp +zetaDelta only [Exit.then]
                  exact Go.bodyPost_ret (results_ms2 rfl _ _ q mv0 (by kernel_rfl) HR9.out (.int .i64 3) (by kernel_rfl)) rfl ⟨mv0, rfl, rfl, lies0 _, below_keeps HB9.out HK9.out (fun i e => by have h2 := HQ.out; omega) HB9.out.size⟩
                · obtain ⟨rfl, rfl⟩ := HYS.out rfl
                  clear HNS HYS
                  go_wp2_with (first
                    | ((with_reducible show wpList _ _ _ (_ :: _) _ _); refine Law25.wpList_load_msw rfl _ rfl p rfl mv HRp.out ?_)
                    | ((with_reducible show wpList _ _ _ (_ :: _) _ _); refine wpList_store_ms rfl _ _ rfl q mv rfl rfl mv0 HRq.out ?_; intro w9 hr9 hk9; have HR9 := Lib.hid hr9; have HK9 := Lib.hid hk9; clear hr9 hk9; refine Stop.out ?_))
                  have hfr := HFAR.out; have hq2 := HQ.out
                  refine ⟨?_⟩
                  refine wpList_assign' rfl _ rfl ?_
                  refine wpList_nil ?_
                  rename_i hret
                  refine hret _ _ (wp_ret ?_)
                  dsimp +zetaDelta only [Exit.then]
                  exact Go.bodyPost_ret (results_ms2 rfl _ _ q mv rfl HR9.out (.int .i64 0) rfl) rfl ⟨mv, rfl, rfl, Lies.keep HL9.out HK9.out (fun _ a e => by have := hfr.1 a e; omega) (fun _ a e => by have := hfr.2.1 a e; omega) (fun h0 a e => by have := hfr.2.2 h0 a e; omega), below_keeps HB9.out HK9.out (fun k e => by omega) HB9.out.size⟩
      · clear cbad
        have HC12 := Lib.hid (CRN.out r (T1 k).2 1 wr HJ.out.1.rd)
        have HE2 := Lib.hid (fun k2 h1 h2 => HEND.out k k2 HKN.out HX.out h1 h2)
        have HN2 := Lib.hid (PackM.numV_lt b (T1 k).2 1)
        obtain ⟨S14, hS14⟩ : ∃ S14, S14 = PackM.numS b (T1 k).2 1 := ⟨_, rfl⟩
        obtain ⟨N2, hN2⟩ : ∃ N2, N2 = PackM.numV b (T1 k).2 1 := ⟨_, rfl⟩
        obtain ⟨W1, hW1⟩ : ∃ W1, W1 = (T1 k).1 := ⟨_, rfl⟩
        rw [← hS14, ← hN2] at HC12 HE2
        rw [← hN2] at HN2
        rw [← hW1] at HJ HE2
        have HW1L : Hid (W1.length ≤ 1048576) := Lib.hid (by have h1 := (HT1.out k).2.2; rw [← hW1] at h1; have h2 := HKN.out; have h3 := HNS.out; omega)
        clear hS14 hN2
        go_wp2_with fail
        refine HC12.out.mono ?_
        rintro e w6 ⟨rfl, k1, k2⟩
        obtain ⟨nb, hnbe⟩ : ∃ nb, nb = w6.heap.size := ⟨_, rfl⟩
        have HNBB : Hid (p + 1 ≤ nb) := Lib.hid (by have h1 := HJ.out.1.rc.lt; have h2 := k2.size; omega)
        have HJ2 := Lib.hid (HJ.out.1.grown k1 k2)
        have HW6 : Hid (IntsAt w6 A1 W1 ∧ W1.length ≤ c1 ∧ c1 ≤ maxLen) := Lib.hid (by
          have ho6 : OwnI w6 (p + 1) (.slice A1 W1.length c1) W1 := ownV_keep (F := fun i => i = r) HJ.out.2 (.grow k2 rfl) (fun j e q => by have h1 := (World.ownsRow.lt HJ.out.2 j e).1; have h2 := HJ.out.1.n2; omega)
          obtain ⟨AA, cA, hv, q1, q2, q3, q4⟩ := ho6.ints
          injection hv with e1 _ e3
          subst e1 e3
          exact ⟨q3, q1, q2⟩)
        have HWN : Hid ((∀ a, A1 = some a → p + 1 ≤ a.block ∧ r < a.block) ∧ (0 < W1.length → ∀ a, A1 = some a → a.block < nb)) := Lib.hid (by
          obtain ⟨AA, cA, hv, q1, q2, q3, q4⟩ := HJ.out.2.ints
          injection hv with e1 _ e3
          subst e1 e3
          exact ⟨fun a e => ⟨q4 a e, by have := q4 a e; have := HJ.out.1.n2; omega⟩, fun h0 a e => by have := CellsAt.lt HW6.out.1 (by rw [intV_len]; exact h0) a e; omega⟩)
        have HZ2 : Hid (Rdg w w6 r q p A c b (T2 S14 0).2 ⟨⟨(v1 : Nat), (v2 : Nat), (v3 : Nat), (v4 : Nat), v5, (v6 : Nat), (v7 : Nat), (v8 : Nat), (v9 : Nat), (v10 : Nat), W1, (T2 S14 0).1, []⟩, A1, c1, none, 0, none, 0⟩ ∧ OwnS w6 nb (.slice none (T2 S14 0).1.length 0) (T2 S14 0).1 ∧ IntsAt w6 A1 W1 ∧ nb ≤ w6.heap.size) := Lib.hid (by
          rw [(HT20.out S14).1, (HT20.out S14).2]
          exact ⟨HJ2.out, OwnS.nil _ _, HW6.out.1, by omega⟩)
        have HWC := Lib.hid HW6.out.2
        clear k1 k2 HJ HJ2 HC12 HW6 HEND HX HKN hlt hk hnbe hW1
        go_wp2_with fail
        go_loopw [10] (fun i wr => ∃ (k2 : Nat) (A2 : Option Addr) (c2 : Nat), k2 ≤ N2 ∧ i = .int .i64 k2 ∧ Hid (Rdg w wr r q p A c b (T2 S14 k2).2 ⟨⟨(v1 : Nat), (v2 : Nat), (v3 : Nat), (v4 : Nat), v5, (v6 : Nat), (v7 : Nat), (v8 : Nat), (v9 : Nat), (v10 : Nat), W1, (T2 S14 k2).1, []⟩, A1, c1, A2, c2, none, 0⟩ ∧ OwnS wr nb (.slice A2 (T2 S14 k2).1.length c2) (T2 S14 k2).1 ∧ IntsAt wr A1 W1 ∧ nb ≤ wr.heap.size))
          (fun i _ => N2 - (intOf i).toNat)
        case atStart => exact ⟨0, none, 0, Nat.zero_le _, rfl, HZ2⟩
        case round =>
          clear HZ2
          obtain ⟨k2, A2, c2, hk2, rfl, HJ⟩ := hrel
          rename World => wr
          have cbad := HJ.out.1.rd.cd
          have HX0 := Lib.hid (HT2.out S14 k2)
          by_cases hgo : k2 < N2 ∧ (T2 S14 k2).2.bad = false
          · obtain ⟨hlt, hbf⟩ := hgo
            rw [hbf] at cbad
            have HC := Lib.hid (fun W h => CRT.out r (T2 S14 k2).2 W h)
            have CVX := Lib.hid (fun X d V h => CVT.out (T2 S14 k2).2 X d V h)
            obtain ⟨L, hL⟩ : ∃ L, L = (T2 S14 k2).1 := ⟨_, rfl⟩
            obtain ⟨S, hS⟩ : ∃ S, S = (T2 S14 k2).2 := ⟨_, rfl⟩
            obtain ⟨TL, hTL⟩ : ∃ TL, TL = PackM.textL b (T2 S14 k2).2 := ⟨_, rfl⟩
            obtain ⟨S', hS'⟩ : ∃ S', S' = PackM.textS b (T2 S14 k2).2 := ⟨_, rfl⟩
            rw [← hL, ← hS] at HJ
            rw [← hL, ← hTL, ← hS'] at HX0
            rw [← hS', ← hTL, ← hS] at HC
            rw [← hTL] at CVX
            clear hL hS hTL hS' hbf
            have hn2 := HN2.out
            have HLL : Hid (L.length < 4294967296) := Lib.hid (by have := HX0.out.2.2; omega)
            go_wp2
            clear cbad
            refine Drawn.wp_region_heldT 8 (RdF wr 3 4 5 6 r (.slice A2 L.length c2) (fun W => R06.RAt W r A c b S) (fun W => R06.RAt W r A c b S') (fun W u => OwnS W nb u L) (fun W u => OwnS W nb u (L ++ [txt TL])) (TxR TL) (fun W u => ∃ blk, u = .slice (some ⟨blk, 0, none⟩) 1 1 ∧ StrsAt W (some ⟨blk, 0, none⟩) [txt TL]) (fun i => [some (.pointer (some ⟨p, 11, none⟩)), some (.slice A2 L.length c2), some (.pointer (some ⟨r, 0, none⟩)), none, some (.string (txt TL)), none, none, some (.pointer (some ⟨p, 11, none⟩))].getD i none)) (by kernel_rfl) (by kernel_rfl) (fun f xs hf => RdF.begin (n := 8) (by omega) (by omega) (by omega) (by omega) (getD_lt rfl) hf (HJ.out.1.rd.below (bdraw wr 1)) (HJ.out.2.1.below (bdraw wr 1))) ?_ ?_
            · intro i hi f xs a w3 hf hI hev hdep
              have hpr := HJ.out.1.n2
              have hown : ∀ j, Value.ownBlock (.slice A2 L.length c2) = some j → p + 1 ≤ j := fun j e => by have hnb := HNBB.out; have := (World.ownsRow.lt HJ.out.2.1 j e).1; omega
              rcases (show i = 0 ∨ i = 1 ∨ i = 2 ∨ i = 3 ∨ i = 4 ∨ i = 5 ∨ i = 6 ∨ i = 7 by omega) with rfl | rfl | rfl | rfl | rfl | rfl | rfl | rfl
              · have e6 : a.tmps[6]?.getD undef = .pointer (some ⟨p, 0, none⟩) := hev 6 rfl
                refine Drawn.wpOp_held 91 rfl rfl rfl ?_
                have HK := Lib.hid (hI.pure_ (i := 0) (by decide) (by decide) (by decide) (fun u h => by injection h) (fun e => absurd e (by decide)))
                clear hev hdep hI hf
                go_simp
                exact ⟨_, rfl, HK.out⟩
              · have d0 : a.tmps[91]?.getD undef = .pointer (some ⟨p, 11, none⟩) := (hdep 0 rfl).2.trans (hI.vals 0 _ rfl (hdep 0 rfl).1)
                refine Drawn.wpOp_held 92 rfl rfl rfl ?_
                have hc := (HJ.out.1.rc.keep hI.keep (fun e => e.elim (fun e => by omega) (fun e => by have := hown _ e; omega))).c11
                have HK := Lib.hid (hI.pure_ (i := 1) (by decide) (by decide) (by decide) (fun u h => by injection h) (fun e => absurd e (by decide)))
                clear hev hdep hI hf
                go_simp
                exact ⟨_, rfl, HK.out⟩
              · have e4 : a.tmps[4]?.getD undef = .pointer (some ⟨r, 0, none⟩) := hev 4 rfl
                refine Drawn.wpOp_held 93 rfl rfl rfl ?_
                have HK := Lib.hid (hI.pure_ (i := 2) (by decide) (by decide) (by decide) (fun u h => by injection h) (fun e => absurd e (by decide)))
                clear hev hdep hI hf
                go_simp
                exact ⟨_, rfl, HK.out⟩
              · have d2 : a.tmps[93]?.getD undef = .pointer (some ⟨r, 0, none⟩) := (hdep 2 rfl).2.trans (hI.vals 2 _ rfl (hdep 2 rfl).1)
                refine Drawn.wpOp_held 94 rfl rfl rfl ?_
                have hC := HC.out w3 (hI.rd0 hf)
                have ho := hI.own0 (hI.noA (hI.noB hf))
                have hlt : ∀ j, Value.ownBlock (.slice A2 L.length c2) = some j → p + 1 ≤ j := fun j e => by have hnb := HNBB.out; have := (World.ownsRow.lt ho j e).1; omega
                clear hev hdep
                go_simp
                refine hC.mono ?_
                rintro e w4 ⟨X, d, rfl, hX, -, hd1, hd2, h1, h2⟩
                exact ⟨_, rfl, hI.call (by decide) rfl hf (hI.keep.trans (.grow h2 (.inl rfl))) h1 (ownV_keep (F := fun i => i = r) ho (.grow h2 rfl) (fun j e q => by have := hlt j e; omega)) ⟨X, d, rfl, hX⟩⟩
              · obtain ⟨X, d, hxe, hX⟩ := hI.res (hdep 3 rfl).1 hf
                have d3 : a.tmps[94]?.getD undef = .slice X TL.length d := (hdep 3 rfl).2.trans hxe
                refine Drawn.wpOp_held 95 rfl rfl rfl ?_
                have hcv := CVX.out X d w3 hX
                have HK := Lib.hid (hI.pure_ (i := 4) (by decide) (by decide) (by decide) (fun u h => by injection h) (fun _ => (hdep 3 rfl).1))
                clear hev hdep hI hf hX hxe
                generalize TL.length = tn at *
                go_simp
                exact ⟨_, rfl, HK.out⟩
              · have d4 : a.tmps[95]?.getD undef = .string (txt TL) := (hdep 4 rfl).2.trans (hI.vals 4 _ rfl (hdep 4 rfl).1)
                have h3 : f 4 = true := (hdep 4 rfl).1
                have hc3 : f 3 = true := hI.o4 h3
                refine Drawn.wpOp_held 96 rfl rfl rfl ?_
                have HK := Lib.hid (hI.build (w' := w3.alloc (.cells #[.string (txt TL)] 9)) (u := .slice (some ⟨w3.heap.size, 0, none⟩) 1 1) (by decide) (.inr h3) rfl hf hc3 (hI.keep.trans (.of_below _ (balloc _ _))) ((hI.rd1 hc3).below (balloc _ _)) ((hI.own0 (hI.noA hf)).below (balloc _ _)) ⟨_, rfl, CellsAt.lit _ _ _⟩)
                clear hev hdep hI hf h3 hc3
                go_simp
                exact ⟨_, rfl, HK.out⟩
              · have d1 : a.tmps[92]?.getD undef = (.slice A2 L.length c2) := (hdep 1 rfl).2.trans (hI.vals 1 _ rfl (hdep 1 rfl).1)
                have hb := (hdep 5 rfl).1
                obtain ⟨blk, hxe, hlit⟩ := hI.lit hb hf
                have d4 : a.tmps[96]?.getD undef = .slice (some ⟨blk, 0, none⟩) 1 1 := (hdep 5 rfl).2.trans hxe
                have ho := hI.own0 hf
                have hrd := hI.rd1 (hI.o2 hb)
                have hsz : nb ≤ w3.heap.size := Nat.le_trans HJ.out.2.2.2 hI.keep.size
                refine Drawn.wpOp_held 97 rfl rfl rfl ?_
                refine wp_append_strs (.tmp 92) (.tmp 96) rfl nb (.slice A2 L.length c2) L (by rw [Drawn.eval_tmp]; exact d1) ho (some ⟨blk, 0, none⟩) (txt TL) (by rw [Drawn.eval_tmp]; exact d4) hlit (by have := HLL.out; omega) hsz ?_
                intro v' w' ha
                have hk : Keeps (fun i => Value.ownBlock (.slice A2 L.length c2) = some i) w3 w' := ⟨ha.grow.os, ha.grow.tape, ha.grow.output, ha.grow.size, fun i hi hf => ha.grow.block i hi (fun e => hf e.symm)⟩
                exact ⟨v', rfl, hI.app (by decide) rfl hb (hI.keep.trans (hk.mono fun i _ e => .inr e)) (RAt.keep hrd hk (fun e => by have := hown _ e; omega) (fun h0 a e q => by have h1 := hown _ q; have h2 := HJ.out.1.nb h0 a e; have h3 := HJ.out.1.n0; have h4 := HJ.out.1.n1; omega)) ha.own⟩
              · have e6 : a.tmps[6]?.getD undef = .pointer (some ⟨p, 0, none⟩) := hev 6 rfl
                refine Drawn.wpOp_held 98 rfl rfl rfl ?_
                have HK := Lib.hid (hI.pure_ (i := 7) (by decide) (by decide) (by decide) (fun u h => by injection h) (fun e => absurd e (by decide)))
                clear hev hdep hI hf
                go_simp
                exact ⟨_, rfl, HK.out⟩
            · intro f xs w3 hall hI
              have hpr := HJ.out.1.n2
              have hown : ∀ j, Value.ownBlock (.slice A2 L.length c2) = some j → p + 1 ≤ j := fun j e => by have hnb := HNBB.out; have := (World.ownsRow.lt HJ.out.2.1 j e).1; omega
              have h1 := hI.own1 (hall 6 (by omega))
              have h2 := hI.rd1 (hall 3 (by omega))
              have RK := Lib.hid (HJ.out.1.kept h2 hI.keep (fun i e => e.elim .inl (fun e => .inr (by have := hown _ e; omega))))
              have vq0 : xs 0 = (.pointer (some ⟨p, 11, none⟩)) := hI.vals 0 _ rfl (hall 0 (by omega))
              have vq1 : xs 1 = (.slice A2 L.length c2) := hI.vals 1 _ rfl (hall 1 (by omega))
              have vq2 : xs 2 = (.pointer (some ⟨r, 0, none⟩)) := hI.vals 2 _ rfl (hall 2 (by omega))
              have vq4 : xs 4 = (.string (txt TL)) := hI.vals 4 _ rfl (hall 4 (by omega))
              have vq7 : xs 7 = (.pointer (some ⟨p, 11, none⟩)) := hI.vals 7 _ rfl (hall 7 (by omega))
              show wpList _ _ _ _ (Drawn.acts _ [(98, some (xs 7)), (97, some (xs 6)), (96, some (xs 5)), (95, some (xs 4)), (94, some (xs 3)), (93, some (xs 2)), (92, some (xs 1)), (91, some (xs 0))]) _
              rw [vq0, vq1, vq2, vq4, vq7]
              have HWK : Hid (0 < W1.length → IntsAt w3 A1 W1) := Lib.hid fun h0 => CellsAt.keep (F := fun i => i = r ∨ Value.ownBlock (.slice A2 L.length c2) = some i) HJ.out.2.2.1 hI.keep (fun _ a e q => by
                    have h1 := HWN.out.1 a e
                    have h3 := HWN.out.2 h0 a e
                    rcases q with q | q
                    · omega
                    · have h4 := (World.ownsRow.lt HJ.out.2.1 _ q).1; omega)
              have HSZ : Hid (nb ≤ w3.heap.size) := Lib.hid (Nat.le_trans HJ.out.2.2.2 hI.keep.size)
              clear vq0 vq1 vq2 vq4 vq7 hI hall h2
              generalize xs 3 = yy3
              generalize xs 5 = yy5
              generalize xs 6 = v' at *
              clear xs f
              obtain ⟨AN, cN, hv, hq1, hq2, -, -⟩ := h1.strs
              subst hv
              have cc := RK.out.rc.c11; have ff := RK.out.rc.fr 11
              have RN : Hid (Rdg w (w3.setCell ⟨p, 11, none⟩ (.slice AN (L ++ [txt TL]).length cN)) r q p A c b S' ⟨⟨(v1 : Nat), (v2 : Nat), (v3 : Nat), (v4 : Nat), v5, (v6 : Nat), (v7 : Nat), (v8 : Nat), (v9 : Nat), (v10 : Nat), W1, L ++ [txt TL], []⟩, A1, c1, AN, cN, none, 0⟩) := Lib.hid (RK.out.stored (.set (fun i => i = p) _ ⟨p, 11, none⟩ (.slice AN (L ++ [txt TL]).length cN) rfl) (MsB.set RK.out.rc 11 (.slice AN (L ++ [txt TL]).length cN)))
              have ON : Hid (OwnS (w3.setCell ⟨p, 11, none⟩ (.slice AN (L ++ [txt TL]).length cN)) nb (.slice AN (L ++ [txt TL]).length cN) (L ++ [txt TL])) := Lib.hid (ownV_keep h1 (.set (fun i => i = p) _ ⟨p, 11, none⟩ _ rfl) (fun j e q => by have q1 := (World.ownsRow.lt h1 j e).1; have q2 := HNBB.out; have q3 : j = p := q; omega))
              have WN : Hid (IntsAt (w3.setCell ⟨p, 11, none⟩ (.slice AN (L ++ [txt TL]).length cN)) A1 W1) := Lib.hid (by
                rcases Nat.eq_zero_or_pos W1.length with h0 | h0
                · rw [List.eq_nil_of_length_eq_zero h0]; exact CellsAt.nil _ _
                · exact CellsAt.keep (HWK.out h0) (.set (fun i => i = p) _ ⟨p, 11, none⟩ _ rfl) (fun _ a e q => by have q1 := HWN.out.1 a e; have q3 : a.block = p := q; omega))
              have SN : Hid (nb ≤ (w3.setCell ⟨p, 11, none⟩ (.slice AN (L ++ [txt TL]).length cN)).heap.size) := Lib.hid (by have := (Keeps.set (fun i => i = p) w3 ⟨p, 11, none⟩ (.slice AN (L ++ [txt TL]).length cN) rfl).size; have := HSZ.out; omega)
              clear h1 RK hq1 hq2 HJ HWK HSZ
              obtain ⟨ln, hln⟩ : ∃ ln, ln = (L ++ [txt TL]).length := ⟨_, rfl⟩
              rw [← hln] at RN ON WN SN ⊢
              have HLN := Lib.hid hln
              clear hln
              simp only [Drawn.acts, List.drop_succ_cons, List.drop_zero]
              go_wp2
              go_roundw
              case rel => exact ⟨k2 + 1, AN, cN, by omega, by go_num, Lib.hid (by rw [HX0.out.1, HX0.out.2.1]; rw [← HLN.out]; exact ⟨RN.out, ON.out, WN.out, SN.out⟩)⟩
              case measure => simp [intOf] <;> omega
          · have HX2 : Hid (k2 < N2 → (T2 S14 k2).2.bad = true) := Lib.hid fun h => by
              rcases hb : (T2 S14 k2).2.bad with _ | _
              · exact absurd ⟨h, hb⟩ hgo
              · rfl
            have HEE := Lib.hid (HE2.out k2 hk2 HX2.out)
            clear hgo HX0 HE2 hk2
            by_cases hlt : k2 < N2
            · have hbt := HX2.out hlt
              rw [hbt] at cbad
              clear hbt HX2
              have HD12 := Lib.hid (CRT.out r (T2 S14 k2).2 wr HJ.out.1.rd)
              obtain ⟨S15, hS15⟩ : ∃ S15, S15 = (T2 S14 k2).2 := ⟨_, rfl⟩
              obtain ⟨NL, hNL⟩ : ∃ NL, NL = (T2 S14 k2).1 := ⟨_, rfl⟩
              rw [← hS15] at HD12 HEE HJ
              rw [← hNL] at HJ HEE
              obtain ⟨DL, hDL⟩ : ∃ DL, DL = PackM.textL b S15 := ⟨_, rfl⟩
              obtain ⟨S16, hS16⟩ : ∃ S16, S16 = PackM.textS b S15 := ⟨_, rfl⟩
              rw [← hDL, ← hS16] at HD12 HEE
              clear hS15 hNL hDL hS16
              go_wp2_with fail
              refine HD12.out.mono ?_
              rintro e w7 ⟨XD, dd, rfl, hX, hnew, hd1, hd2, k1, k3⟩
              have RG := Lib.hid (HJ.out.1.grown k1 k3)
              have HLI : Hid (Lies (w7.setCell ⟨p, 12, none⟩ (.slice XD DL.length dd)) ⟨⟨(v1 : Nat), (v2 : Nat), (v3 : Nat), (v4 : Nat), v5, (v6 : Nat), (v7 : Nat), (v8 : Nat), (v9 : Nat), (v10 : Nat), W1, NL, DL⟩, A1, c1, A2, c2, XD, dd⟩) := Lib.hid (by
                obtain ⟨AA, cA, hv, q1, q2, q3, q4⟩ := HJ.out.2.1.strs
                injection hv with e1 _ e3
                subst e1 e3
                have hp := HJ.out.1.rc.lt
                have hnb := HNBB.out
                have hrp := HJ.out.1.n2
                have hw7 : IntsAt w7 A1 W1 := CellsAt.keep (F := fun i => i = r) HJ.out.2.2.1 (.grow k3 rfl) (fun _ a e q => by have h1 := HWN.out.1 a e; have h2 : a.block = r := q; omega)
                have hn7 : StrsAt w7 A2 NL := CellsAt.keep (F := fun i => i = r) q3 (.grow k3 rfl) (fun _ a e q => by have h1 := q4 a e; have h2 : a.block = r := q; omega)
                exact Lies.keep (F := fun i => i = p) (w := w7) (x := ⟨⟨(v1 : Nat), (v2 : Nat), (v3 : Nat), (v4 : Nat), v5, (v6 : Nat), (v7 : Nat), (v8 : Nat), (v9 : Nat), (v10 : Nat), W1, NL, DL⟩, A1, c1, A2, c2, XD, dd⟩) ⟨hw7, hn7, hX, HWC.out.1, q1, hd1, HWC.out.2, q2, hd2⟩ (.set (fun i => i = p) _ ⟨p, 12, none⟩ (.slice XD DL.length dd) rfl) (fun _ a e q => by have h1 := HWN.out.1 a e; have h2 : a.block = p := q; omega) (fun _ a e q => by have h1 := q4 a e; have h2 : a.block = p := q; omega) (fun _ a e q => by have h1 := hnew a e; have h2 : a.block = p := q; omega))
              have HFAR : Hid (From (q + 1) ⟨⟨(v1 : Nat), (v2 : Nat), (v3 : Nat), (v4 : Nat), v5, (v6 : Nat), (v7 : Nat), (v8 : Nat), (v9 : Nat), (v10 : Nat), W1, NL, DL⟩, A1, c1, A2, c2, XD, dd⟩) := Lib.hid (by
                obtain ⟨AA, cA, hv, q1, q2, q3, q4⟩ := HJ.out.2.1.strs
                injection hv with e1 _ e3
                subst e1 e3
                have hp := HJ.out.1.rc.lt
                have hnb := HNBB.out
                have hrp := HJ.out.1.n2
                have hqr := HJ.out.1.n1
                exact ⟨fun a e => by have h1 := HWN.out.1 a e; omega, fun a e => by have h1 := q4 a e; omega, fun _ a e => by have h1 := hnew a e; omega⟩)
              have cc12 := RG.out.rc.c12; have ff12 := RG.out.rc.fr 12
              have RH : Hid (Rdg w (w7.setCell ⟨p, 12, none⟩ (.slice XD DL.length dd)) r q p A c b S16 ⟨⟨(v1 : Nat), (v2 : Nat), (v3 : Nat), (v4 : Nat), v5, (v6 : Nat), (v7 : Nat), (v8 : Nat), (v9 : Nat), (v10 : Nat), W1, NL, DL⟩, A1, c1, A2, c2, XD, dd⟩) := Lib.hid (RG.out.stored (.set (fun i => i = p) _ ⟨p, 12, none⟩ (.slice XD DL.length dd) rfl) (MsB.set RG.out.rc 12 (.slice XD DL.length dd)))
              obtain ⟨W8, hW8⟩ : ∃ W8, W8 = (w7.setCell ⟨p, 12, none⟩ (.slice XD DL.length dd)) := ⟨_, rfl⟩
              rw [← hW8] at RH HLI
              clear hX hnew hd1 hd2 k1 k3 HJ RG HD12
              have cb := RH.out.rd.cb; have ca := RH.out.rd.ca; have cd := RH.out.rd.cd
              go_wp2_with fail
              rw [← hW8]
              clear hW8 cc12 ff12
              by_cases hz : z0 = 77
              rotate_left
              · obtain ⟨rfl, rfl⟩ := HNO.out k k2 _ _ HEE.out (fun h => hz h.1)
                have hz1 : ((z0 : Int) != 77) = true := by simp only [bne_iff_ne]; omega
                clear HEE HNO HYES HFI HLI HFAR
                go_quiet (fail)
                go_wp2_with ((with_reducible show wpList _ _ _ (_ :: _) _ _); refine wpList_store_ms rfl (.tmp 2) (.tmp 127) rfl q mv0 (by kernel_rfl) (by kernel_rfl) mv0 RH.out.rs ?_; intro w9 hr9 hk9; have HR9 := Lib.hid hr9; have HK9 := Lib.hid hk9; clear hr9 hk9; refine Stop.out ?_)
                refine ⟨?_⟩
                refine wpList_assign' rfl _ rfl ?_
                refine wpList_nil ?_
                rename_i hret
                refine hret _ _ (wp_ret ?_)
                dsimp +zetaDelta only [Exit.then]
                exact Go.bodyPost_ret (results_ms2 rfl _ _ q mv0 (by kernel_rfl) HR9.out (.int .i64 3) (by kernel_rfl)) rfl ⟨mv0, rfl, rfl, lies0 _, below_keeps (bstep RH.out.below (bdraw W8 nq)) HK9.out (fun i e => by have h2 := HQ.out; omega) (bstep RH.out.below (bdraw W8 nq)).size⟩
              subst hz
              rcases hbad : S16.bad with _ | _
              rotate_left
              · obtain ⟨rfl, rfl⟩ := HNO.out k k2 _ _ HEE.out (fun h => by rw [hbad] at h; cases h.2.1)
                rw [hbad] at cd
                clear HEE HNO HYES HFI HLI HFAR
                go_quiet (fail)
                go_wp2_with ((with_reducible show wpList _ _ _ (_ :: _) _ _); refine wpList_store_ms rfl (.tmp 2) (.tmp 127) rfl q mv0 (by kernel_rfl) (by kernel_rfl) mv0 RH.out.rs ?_; intro w9 hr9 hk9; have HR9 := Lib.hid hr9; have HK9 := Lib.hid hk9; clear hr9 hk9; refine Stop.out ?_)
                refine ⟨?_⟩
                refine wpList_assign' rfl _ rfl ?_
                refine wpList_nil ?_
                rename_i hret
                refine hret _ _ (wp_ret ?_)
                dsimp +zetaDelta only [Exit.then]
                exact Go.bodyPost_ret (results_ms2 rfl _ _ q mv0 (by kernel_rfl) HR9.out (.int .i64 3) (by kernel_rfl)) rfl ⟨mv0, rfl, rfl, lies0 _, below_keeps (bstep RH.out.below (bdraw W8 nq)) HK9.out (fun i e => by have h2 := HQ.out; omega) (bstep RH.out.below (bdraw W8 nq)).size⟩
              by_cases hat : S16.at_ = b.length
              rotate_left
              · obtain ⟨rfl, rfl⟩ := HNO.out k k2 _ _ HEE.out (fun h => hat h.2.2.1)
                rw [hbad] at cd
                have hat1 : ((S16.at_ : Int) != (b.length : Int)) = true := by simp only [bne_iff_ne]; omega
                clear HEE HNO HYES HFI HLI HFAR hat
                generalize S16.at_ = sa at *
                generalize b.length = bl at *
                go_quiet (fail)
                go_wp2_with ((with_reducible show wpList _ _ _ (_ :: _) _ _); refine wpList_store_ms rfl (.tmp 2) (.tmp 127) rfl q mv0 (by kernel_rfl) (by kernel_rfl) mv0 RH.out.rs ?_; intro w9 hr9 hk9; have HR9 := Lib.hid hr9; have HK9 := Lib.hid hk9; clear hr9 hk9; refine Stop.out ?_)
                refine ⟨?_⟩
                refine wpList_assign' rfl _ rfl ?_
                refine wpList_nil ?_
                rename_i hret
                refine hret _ _ (wp_ret ?_)
                dsimp +zetaDelta only [Exit.then]
                exact Go.bodyPost_ret (results_ms2 rfl _ _ q mv0 (by kernel_rfl) HR9.out (.int .i64 3) (by kernel_rfl)) rfl ⟨mv0, rfl, rfl, lies0 _, below_keeps (bstep RH.out.below (bdraw W8 nq)) HK9.out (fun i e => by have h2 := HQ.out; omega) (bstep RH.out.below (bdraw W8 nq)).size⟩
              obtain ⟨mv, hmv⟩ : ∃ mv : Mv, mv = ⟨⟨(v1 : Nat), (v2 : Nat), (v3 : Nat), (v4 : Nat), v5, (v6 : Nat), (v7 : Nat), (v8 : Nat), (v9 : Nat), (v10 : Nat), W1, NL, DL⟩, A1, c1, A2, c2, XD, dd⟩ := ⟨_, rfl⟩
              rw [← hmv] at RH HLI HFAR
              have HEE2 : Hid (Endg b k k2 mv.m S16) := Lib.hid (by rw [hmv]; exact HEE.out)
              have HMW : Hid (mv.m.who.length ≤ 1048576) := Lib.hid (by rw [hmv]; exact HW1L.out)
              clear hmv HEE cb ca cd
              have HFM := Lib.hid (HFI.out k k2 _ _ HEE2.out)
              obtain ⟨R, hR⟩ : ∃ R, R = mv.m.right := ⟨_, rfl⟩
              have CRR : Hid (∀ W, Below W8.heap.size W8 W → Calls Try.prog 11 #[.agg #[.int .i64 mv.m.K, .int .i64 mv.m.F, .int .i64 mv.m.T, .int .i64 mv.m.B, .string mv.m.s, .int .i64 mv.m.A, .int .i64 mv.m.E, .int .i64 mv.m.M, .int .i64 mv.m.S, .int .i64 mv.m.W, .slice mv.P mv.m.who.length mv.p, .slice mv.Q mv.m.names.length mv.q, .slice mv.D mv.m.data.length mv.d]] W fun e w' => e = .returned (.bool R) ∧ Below W.heap.size W w') := Lib.hid fun W hb => by rw [hR]; exact right_any mv HFM.out W (HLI.out.below hb) HMW.out
              have HMS : Hid (∀ W, Below W8.heap.size W8 W → MsB W p mv) := Lib.hid fun W hb => RH.out.rc.below hb
              have HRA : Hid (∀ W, Below W8.heap.size W8 W → W.cell? ⟨r, 0, none⟩ = some (.slice A m c) ∧ W.cell? ⟨r, 1, none⟩ = some (.int .i64 (m : Nat)) ∧ W.cell? ⟨r, 2, none⟩ = some (.bool false)) := Lib.hid fun W hb => by
                have h := RH.out.rd.below hb
                exact ⟨by rw [HM.out]; exact h.cb, by rw [HM.out, ← hat]; exact h.ca, by rw [← hbad]; exact h.cd⟩
              have HYS : Hid (R = true → GV = mv.m ∧ GE = 0) := Lib.hid fun h => HYES.out k k2 _ _ HEE2.out rfl hbad hat (by rw [← hR]; exact h)
              have HNS : Hid (R = false → GV = ms0 ∧ GE = 3) := Lib.hid fun h => HNO.out k k2 _ _ HEE2.out (fun hh => by rw [← hR, h] at hh; cases hh.2.2.2)
              clear hR hbad hat HEE2 HYES HNO HFI HFM HMW
              refine Drawn.wp_region_flowL 25 [Drawn.SP.is (.int .i64 77), Drawn.SP.is (.bool false), Drawn.SP.is (.bool false), Drawn.SP.is (.pointer (some ⟨r, 0, none⟩)), Drawn.SP.is (.pointer (some ⟨r, 0, none⟩)), Drawn.SP.is (.pointer (some ⟨r, 2, none⟩)), Drawn.SP.is (.bool false), Drawn.SP.is (.bool false), Drawn.SP.is (.bool false), Drawn.SP.is (.pointer (some ⟨r, 0, none⟩)), Drawn.SP.is (.pointer (some ⟨r, 0, none⟩)), Drawn.SP.is (.pointer (some ⟨r, 1, none⟩)), Drawn.SP.is (.int .i64 (m : Nat)), Drawn.SP.is (.pointer (some ⟨r, 0, none⟩)), Drawn.SP.is (.pointer (some ⟨r, 0, none⟩)), Drawn.SP.is (.pointer (some ⟨r, 0, none⟩)), Drawn.SP.is (.slice A m c), Drawn.SP.is (.int .i64 (m : Nat)), Drawn.SP.is (.bool false), Drawn.SP.is (.bool false), Drawn.SP.is (.bool false), Drawn.SP.is (.agg #[.int .i64 mv.m.K, .int .i64 mv.m.F, .int .i64 mv.m.T, .int .i64 mv.m.B, .string mv.m.s, .int .i64 mv.m.A, .int .i64 mv.m.E, .int .i64 mv.m.M, .int .i64 mv.m.S, .int .i64 mv.m.W, .slice mv.P mv.m.who.length mv.p, .slice mv.Q mv.m.names.length mv.q, .slice mv.D mv.m.data.length mv.d]), Drawn.SP.is (.bool R), Drawn.SP.is (.bool (!R)), Drawn.SP.is (.bool (!R))] (by kernel_rfl) (by kernel_rfl) ?_ ?_
              · intro i hi a w1 hb hev hdep
                rcases (show i = 0 ∨ i = 1 ∨ i = 2 ∨ i = 3 ∨ i = 4 ∨ i = 5 ∨ i = 6 ∨ i = 7 ∨ i = 8 ∨ i = 9 ∨ i = 10 ∨ i = 11 ∨ i = 12 ∨ i = 13 ∨ i = 14 ∨ i = 15 ∨ i = 16 ∨ i = 17 ∨ i = 18 ∨ i = 19 ∨ i = 20 ∨ i = 21 ∨ i = 22 ∨ i = 23 ∨ i = 24 by omega) with rfl | rfl | rfl | rfl | rfl | rfl | rfl | rfl | rfl | rfl | rfl | rfl | rfl | rfl | rfl | rfl | rfl | rfl | rfl | rfl | rfl | rfl | rfl | rfl | rfl
                · have e5 : a.tmps[5]?.getD undef = .int .i64 77 := hev 5 rfl
                  refine Drawn.wpOp_flow 102 rfl rfl rfl ?_
                  clear hev hdep hb
                  go_simp
                  exact ⟨_, rfl, rfl, Below.refl _ _⟩
                · have d0 : a.tmps[102]?.getD undef = .int .i64 77 := hdep 0 rfl
                  refine Drawn.wpOp_flow 103 rfl rfl rfl ?_
                  clear hev hdep hb
                  go_simp
                  exact ⟨_, rfl, rfl, Below.refl _ _⟩
                · have d1 : a.tmps[103]?.getD undef = .bool false := hdep 1 rfl
                  refine Drawn.wpOp_flow 104 rfl rfl rfl ?_
                  clear hev hdep hb
                  go_simp
                  exact ⟨_, rfl, rfl, Below.refl _ _⟩
                · have e4 : a.tmps[4]?.getD undef = .pointer (some ⟨r, 0, none⟩) := hev 4 rfl
                  have dg : a.tmps[104]?.getD undef = .bool false := hdep 2 rfl
                  refine Drawn.wpOp_flow 105 rfl (Drawn.wanted_of rfl rfl rfl dg) rfl ?_
                  clear dg
                  clear hev hdep hb
                  go_simp
                  exact ⟨_, rfl, rfl, Below.refl _ _⟩
                · have d3 : a.tmps[105]?.getD undef = .pointer (some ⟨r, 0, none⟩) := hdep 3 rfl
                  have dg : a.tmps[104]?.getD undef = .bool false := hdep 2 rfl
                  refine Drawn.wpOp_flow 106 rfl (Drawn.wanted_of rfl rfl rfl dg) rfl ?_
                  clear dg
                  clear hev hdep hb
                  go_simp
                  exact ⟨_, rfl, rfl, Below.refl _ _⟩
                · have d4 : a.tmps[106]?.getD undef = .pointer (some ⟨r, 0, none⟩) := hdep 4 rfl
                  have dg : a.tmps[104]?.getD undef = .bool false := hdep 2 rfl
                  refine Drawn.wpOp_flow 107 rfl (Drawn.wanted_of rfl rfl rfl dg) rfl ?_
                  clear dg
                  clear hev hdep hb
                  go_simp
                  exact ⟨_, rfl, rfl, Below.refl _ _⟩
                · have d5 : a.tmps[107]?.getD undef = .pointer (some ⟨r, 2, none⟩) := hdep 5 rfl
                  have dg : a.tmps[104]?.getD undef = .bool false := hdep 2 rfl
                  refine Drawn.wpOp_flow 108 rfl (Drawn.wanted_of rfl rfl rfl dg) rfl ?_
                  obtain ⟨c0, c1, c2⟩ := HRA.out w1 hb
                  clear dg
                  clear hev hdep hb
                  go_simp
                  exact ⟨_, rfl, rfl, Below.refl _ _⟩
                · have d2 : a.tmps[104]?.getD undef = .bool false := hdep 2 rfl
                  have d6 : a.tmps[108]?.getD undef = .bool false := hdep 6 rfl
                  refine Drawn.wpOp_flow 109 rfl rfl rfl ?_
                  clear hev hdep hb
                  go_simp
                  exact ⟨_, rfl, rfl, Below.refl _ _⟩
                · have d7 : a.tmps[109]?.getD undef = .bool false := hdep 7 rfl
                  refine Drawn.wpOp_flow 110 rfl rfl rfl ?_
                  clear hev hdep hb
                  go_simp
                  exact ⟨_, rfl, rfl, Below.refl _ _⟩
                · have e4 : a.tmps[4]?.getD undef = .pointer (some ⟨r, 0, none⟩) := hev 4 rfl
                  have dg : a.tmps[110]?.getD undef = .bool false := hdep 8 rfl
                  refine Drawn.wpOp_flow 111 rfl (Drawn.wanted_of rfl rfl rfl dg) rfl ?_
                  clear dg
                  clear hev hdep hb
                  go_simp
                  exact ⟨_, rfl, rfl, Below.refl _ _⟩
                · have d9 : a.tmps[111]?.getD undef = .pointer (some ⟨r, 0, none⟩) := hdep 9 rfl
                  have dg : a.tmps[110]?.getD undef = .bool false := hdep 8 rfl
                  refine Drawn.wpOp_flow 112 rfl (Drawn.wanted_of rfl rfl rfl dg) rfl ?_
                  clear dg
                  clear hev hdep hb
                  go_simp
                  exact ⟨_, rfl, rfl, Below.refl _ _⟩
                · have d10 : a.tmps[112]?.getD undef = .pointer (some ⟨r, 0, none⟩) := hdep 10 rfl
                  have dg : a.tmps[110]?.getD undef = .bool false := hdep 8 rfl
                  refine Drawn.wpOp_flow 113 rfl (Drawn.wanted_of rfl rfl rfl dg) rfl ?_
                  clear dg
                  clear hev hdep hb
                  go_simp
                  exact ⟨_, rfl, rfl, Below.refl _ _⟩
                · have d11 : a.tmps[113]?.getD undef = .pointer (some ⟨r, 1, none⟩) := hdep 11 rfl
                  have dg : a.tmps[110]?.getD undef = .bool false := hdep 8 rfl
                  refine Drawn.wpOp_flow 114 rfl (Drawn.wanted_of rfl rfl rfl dg) rfl ?_
                  obtain ⟨c0, c1, c2⟩ := HRA.out w1 hb
                  clear dg
                  clear hev hdep hb
                  go_simp
                  exact ⟨_, rfl, rfl, Below.refl _ _⟩
                · have e4 : a.tmps[4]?.getD undef = .pointer (some ⟨r, 0, none⟩) := hev 4 rfl
                  have dg : a.tmps[110]?.getD undef = .bool false := hdep 8 rfl
                  refine Drawn.wpOp_flow 115 rfl (Drawn.wanted_of rfl rfl rfl dg) rfl ?_
                  clear dg
                  clear hev hdep hb
                  go_simp
                  exact ⟨_, rfl, rfl, Below.refl _ _⟩
                · have d13 : a.tmps[115]?.getD undef = .pointer (some ⟨r, 0, none⟩) := hdep 13 rfl
                  have dg : a.tmps[110]?.getD undef = .bool false := hdep 8 rfl
                  refine Drawn.wpOp_flow 116 rfl (Drawn.wanted_of rfl rfl rfl dg) rfl ?_
                  clear dg
                  clear hev hdep hb
                  go_simp
                  exact ⟨_, rfl, rfl, Below.refl _ _⟩
                · have d14 : a.tmps[116]?.getD undef = .pointer (some ⟨r, 0, none⟩) := hdep 14 rfl
                  have dg : a.tmps[110]?.getD undef = .bool false := hdep 8 rfl
                  refine Drawn.wpOp_flow 117 rfl (Drawn.wanted_of rfl rfl rfl dg) rfl ?_
                  clear dg
                  clear hev hdep hb
                  go_simp
                  exact ⟨_, rfl, rfl, Below.refl _ _⟩
                · have d15 : a.tmps[117]?.getD undef = .pointer (some ⟨r, 0, none⟩) := hdep 15 rfl
                  have dg : a.tmps[110]?.getD undef = .bool false := hdep 8 rfl
                  refine Drawn.wpOp_flow 118 rfl (Drawn.wanted_of rfl rfl rfl dg) rfl ?_
                  obtain ⟨c0, c1, c2⟩ := HRA.out w1 hb
                  clear dg
                  clear hev hdep hb
                  go_simp
                  exact ⟨_, rfl, rfl, Below.refl _ _⟩
                · have d16 : a.tmps[118]?.getD undef = .slice A m c := hdep 16 rfl
                  have dg : a.tmps[110]?.getD undef = .bool false := hdep 8 rfl
                  refine Drawn.wpOp_flow 119 rfl (Drawn.wanted_of rfl rfl rfl dg) rfl ?_
                  clear dg
                  clear hev hdep hb
                  go_simp
                  exact ⟨_, rfl, rfl, Below.refl _ _⟩
                · have d12 : a.tmps[114]?.getD undef = .int .i64 (m : Nat) := hdep 12 rfl
                  have d17 : a.tmps[119]?.getD undef = .int .i64 (m : Nat) := hdep 17 rfl
                  have dg : a.tmps[110]?.getD undef = .bool false := hdep 8 rfl
                  refine Drawn.wpOp_flow 120 rfl (Drawn.wanted_of rfl rfl rfl dg) rfl ?_
                  clear dg
                  clear hev hdep hb
                  go_simp
                  exact ⟨_, rfl, rfl, Below.refl _ _⟩
                · have d8 : a.tmps[110]?.getD undef = .bool false := hdep 8 rfl
                  have d18 : a.tmps[120]?.getD undef = .bool false := hdep 18 rfl
                  refine Drawn.wpOp_flow 121 rfl rfl rfl ?_
                  clear hev hdep hb
                  go_simp
                  exact ⟨_, rfl, rfl, Below.refl _ _⟩
                · have d19 : a.tmps[121]?.getD undef = .bool false := hdep 19 rfl
                  refine Drawn.wpOp_flow 122 rfl rfl rfl ?_
                  clear hev hdep hb
                  go_simp
                  exact ⟨_, rfl, rfl, Below.refl _ _⟩
                · have e6 : a.tmps[6]?.getD undef = .pointer (some ⟨p, 0, none⟩) := hev 6 rfl
                  have dg : a.tmps[122]?.getD undef = .bool false := hdep 20 rfl
                  refine Drawn.wpOp_flow 123 rfl (Drawn.wanted_of rfl rfl rfl dg) rfl ?_
                  clear hev hdep
                  obtain ⟨c0, c1, c2⟩ := HRA.out w1 hb
                  refine Law25.wp_load_ms (.tmp 6) rfl p (by rw [Drawn.eval_tmp]; exact e6) mv (HMS.out w1 hb) ?_
                  exact ⟨_, rfl, rfl, Below.refl _ _⟩
                · have d21 : a.tmps[123]?.getD undef = .agg #[.int .i64 mv.m.K, .int .i64 mv.m.F, .int .i64 mv.m.T, .int .i64 mv.m.B, .string mv.m.s, .int .i64 mv.m.A, .int .i64 mv.m.E, .int .i64 mv.m.M, .int .i64 mv.m.S, .int .i64 mv.m.W, .slice mv.P mv.m.who.length mv.p, .slice mv.Q mv.m.names.length mv.q, .slice mv.D mv.m.data.length mv.d] := hdep 21 rfl
                  have dg : a.tmps[122]?.getD undef = .bool false := hdep 20 rfl
                  refine Drawn.wpOp_flow 124 rfl (Drawn.wanted_of rfl rfl rfl dg) rfl ?_
                  clear hev hdep
                  go_simp
                  refine (CRR.out w1 hb).mono ?_
                  rintro e w2 ⟨rfl, hb2⟩
                  exact ⟨_, rfl, rfl, hb2⟩
                · have d22 : a.tmps[124]?.getD undef = .bool R := hdep 22 rfl
                  have dg : a.tmps[122]?.getD undef = .bool false := hdep 20 rfl
                  refine Drawn.wpOp_flow 125 rfl (Drawn.wanted_of rfl rfl rfl dg) rfl ?_
                  clear dg
                  clear hev hdep hb
                  go_simp
                  exact ⟨_, rfl, rfl, Below.refl _ _⟩
                · have d20 : a.tmps[122]?.getD undef = .bool false := hdep 20 rfl
                  have d23 : a.tmps[125]?.getD undef = .bool (!R) := hdep 23 rfl
                  refine Drawn.wpOp_flow 126 rfl rfl rfl ?_
                  clear hev hdep hb
                  go_simp
                  exact ⟨_, rfl, rfl, Below.refl _ _⟩
              · intro xq w1 hb hxq
                have vq0 : xq 0 = .int .i64 77 := hxq 0 (by omega)
                have vq1 : xq 1 = .bool false := hxq 1 (by omega)
                have vq2 : xq 2 = .bool false := hxq 2 (by omega)
                have vq3 : xq 3 = .pointer (some ⟨r, 0, none⟩) := hxq 3 (by omega)
                have vq4 : xq 4 = .pointer (some ⟨r, 0, none⟩) := hxq 4 (by omega)
                have vq5 : xq 5 = .pointer (some ⟨r, 2, none⟩) := hxq 5 (by omega)
                have vq6 : xq 6 = .bool false := hxq 6 (by omega)
                have vq7 : xq 7 = .bool false := hxq 7 (by omega)
                have vq8 : xq 8 = .bool false := hxq 8 (by omega)
                have vq9 : xq 9 = .pointer (some ⟨r, 0, none⟩) := hxq 9 (by omega)
                have vq10 : xq 10 = .pointer (some ⟨r, 0, none⟩) := hxq 10 (by omega)
                have vq11 : xq 11 = .pointer (some ⟨r, 1, none⟩) := hxq 11 (by omega)
                have vq12 : xq 12 = .int .i64 (m : Nat) := hxq 12 (by omega)
                have vq13 : xq 13 = .pointer (some ⟨r, 0, none⟩) := hxq 13 (by omega)
                have vq14 : xq 14 = .pointer (some ⟨r, 0, none⟩) := hxq 14 (by omega)
                have vq15 : xq 15 = .pointer (some ⟨r, 0, none⟩) := hxq 15 (by omega)
                have vq16 : xq 16 = .slice A m c := hxq 16 (by omega)
                have vq17 : xq 17 = .int .i64 (m : Nat) := hxq 17 (by omega)
                have vq18 : xq 18 = .bool false := hxq 18 (by omega)
                have vq19 : xq 19 = .bool false := hxq 19 (by omega)
                have vq20 : xq 20 = .bool false := hxq 20 (by omega)
                have vq21 : xq 21 = .agg #[.int .i64 mv.m.K, .int .i64 mv.m.F, .int .i64 mv.m.T, .int .i64 mv.m.B, .string mv.m.s, .int .i64 mv.m.A, .int .i64 mv.m.E, .int .i64 mv.m.M, .int .i64 mv.m.S, .int .i64 mv.m.W, .slice mv.P mv.m.who.length mv.p, .slice mv.Q mv.m.names.length mv.q, .slice mv.D mv.m.data.length mv.d] := hxq 21 (by omega)
                have vq22 : xq 22 = .bool R := hxq 22 (by omega)
                have vq23 : xq 23 = .bool (!R) := hxq 23 (by omega)
                have vq24 : xq 24 = .bool (!R) := hxq 24 (by omega)
                show Exit.then _ _ Exit.normal (Drawn.acts _ [(126, some (xq 24)), (125, some (xq 23)), (124, some (xq 22)), (123, some (xq 21)), (122, some (xq 20)), (121, some (xq 19)), (120, some (xq 18)), (119, some (xq 17)), (118, some (xq 16)), (117, some (xq 15)), (116, some (xq 14)), (115, some (xq 13)), (114, some (xq 12)), (113, some (xq 11)), (112, some (xq 10)), (111, some (xq 9)), (110, some (xq 8)), (109, some (xq 7)), (108, some (xq 6)), (107, some (xq 5)), (106, some (xq 4)), (105, some (xq 3)), (104, some (xq 2)), (103, some (xq 1)), (102, some (xq 0))]) _
                rw [vq0, vq1, vq2, vq3, vq4, vq5, vq6, vq7, vq8, vq9, vq10, vq11, vq12, vq13, vq14, vq15, vq16, vq17, vq18, vq19, vq20, vq21, vq22, vq23, vq24]
                clear hxq vq0 vq1 vq2 vq3 vq4 vq5 vq6 vq7 vq8 vq9 vq10 vq11 vq12 vq13 vq14 vq15 vq16 vq17 vq18 vq19 vq20 vq21 vq22 vq23 vq24
                clear xq
                simp only [Drawn.acts]
                go_simp
                have HRq := Lib.hid (RH.out.rs.below hb); have HRp := Lib.hid (RH.out.rc.below hb); have HB9 := Lib.hid (bstep RH.out.below hb); have HL9 := Lib.hid (HLI.out.below hb)
                clear hb CRR HMS HRA RH HLI
                rcases R with _ | _
                · obtain ⟨rfl, rfl⟩ := HNS.out rfl
                  clear HNS HYS HFAR HRp HL9
                  go_wp2_with ((with_reducible show wpList _ _ _ (_ :: _) _ _); refine wpList_store_ms rfl (.tmp 2) (.tmp 127) rfl q mv0 (by kernel_rfl) (by kernel_rfl) mv0 HRq.out ?_; intro w9 hr9 hk9; have HR9 := Lib.hid hr9; have HK9 := Lib.hid hk9; clear hr9 hk9; refine Stop.out ?_)
                  refine ⟨?_⟩
                  refine wpList_assign' rfl _ rfl ?_
                  refine wpList_nil ?_
                  rename_i hret
                  refine hret _ _ (wp_ret ?_)
                  dsimp +zetaDelta only [Exit.then]
                  exact Go.bodyPost_ret (results_ms2 rfl _ _ q mv0 (by kernel_rfl) HR9.out (.int .i64 3) (by kernel_rfl)) rfl ⟨mv0, rfl, rfl, lies0 _, below_keeps HB9.out HK9.out (fun i e => by have h2 := HQ.out; omega) HB9.out.size⟩
                · obtain ⟨rfl, rfl⟩ := HYS.out rfl
                  clear HNS HYS
                  go_wp2_with (first
                    | ((with_reducible show wpList _ _ _ (_ :: _) _ _); refine Law25.wpList_load_msw rfl _ rfl p rfl mv HRp.out ?_)
                    | ((with_reducible show wpList _ _ _ (_ :: _) _ _); refine wpList_store_ms rfl _ _ rfl q mv rfl rfl mv0 HRq.out ?_; intro w9 hr9 hk9; have HR9 := Lib.hid hr9; have HK9 := Lib.hid hk9; clear hr9 hk9; refine Stop.out ?_))
                  have hfr := HFAR.out; have hq2 := HQ.out
                  refine ⟨?_⟩
                  refine wpList_assign' rfl _ rfl ?_
                  refine wpList_nil ?_
                  rename_i hret
                  refine hret _ _ (wp_ret ?_)
                  dsimp +zetaDelta only [Exit.then]
                  exact Go.bodyPost_ret (results_ms2 rfl _ _ q mv rfl HR9.out (.int .i64 0) rfl) rfl ⟨mv, rfl, rfl, Lies.keep HL9.out HK9.out (fun _ a e => by have := hfr.1 a e; omega) (fun _ a e => by have := hfr.2.1 a e; omega) (fun h0 a e => by have := hfr.2.2 h0 a e; omega), below_keeps HB9.out HK9.out (fun k e => by omega) HB9.out.size⟩
            · clear cbad HX2
              have HD12 := Lib.hid (CRT.out r (T2 S14 k2).2 wr HJ.out.1.rd)
              obtain ⟨S15, hS15⟩ : ∃ S15, S15 = (T2 S14 k2).2 := ⟨_, rfl⟩
              obtain ⟨NL, hNL⟩ : ∃ NL, NL = (T2 S14 k2).1 := ⟨_, rfl⟩
              rw [← hS15] at HD12 HEE HJ
              rw [← hNL] at HJ HEE
              obtain ⟨DL, hDL⟩ : ∃ DL, DL = PackM.textL b S15 := ⟨_, rfl⟩
              obtain ⟨S16, hS16⟩ : ∃ S16, S16 = PackM.textS b S15 := ⟨_, rfl⟩
              rw [← hDL, ← hS16] at HD12 HEE
              clear hS15 hNL hDL hS16
              go_wp2_with fail
              refine HD12.out.mono ?_
              rintro e w7 ⟨XD, dd, rfl, hX, hnew, hd1, hd2, k1, k3⟩
              have RG := Lib.hid (HJ.out.1.grown k1 k3)
              have HLI : Hid (Lies (w7.setCell ⟨p, 12, none⟩ (.slice XD DL.length dd)) ⟨⟨(v1 : Nat), (v2 : Nat), (v3 : Nat), (v4 : Nat), v5, (v6 : Nat), (v7 : Nat), (v8 : Nat), (v9 : Nat), (v10 : Nat), W1, NL, DL⟩, A1, c1, A2, c2, XD, dd⟩) := Lib.hid (by
                obtain ⟨AA, cA, hv, q1, q2, q3, q4⟩ := HJ.out.2.1.strs
                injection hv with e1 _ e3
                subst e1 e3
                have hp := HJ.out.1.rc.lt
                have hnb := HNBB.out
                have hrp := HJ.out.1.n2
                have hw7 : IntsAt w7 A1 W1 := CellsAt.keep (F := fun i => i = r) HJ.out.2.2.1 (.grow k3 rfl) (fun _ a e q => by have h1 := HWN.out.1 a e; have h2 : a.block = r := q; omega)
                have hn7 : StrsAt w7 A2 NL := CellsAt.keep (F := fun i => i = r) q3 (.grow k3 rfl) (fun _ a e q => by have h1 := q4 a e; have h2 : a.block = r := q; omega)
                exact Lies.keep (F := fun i => i = p) (w := w7) (x := ⟨⟨(v1 : Nat), (v2 : Nat), (v3 : Nat), (v4 : Nat), v5, (v6 : Nat), (v7 : Nat), (v8 : Nat), (v9 : Nat), (v10 : Nat), W1, NL, DL⟩, A1, c1, A2, c2, XD, dd⟩) ⟨hw7, hn7, hX, HWC.out.1, q1, hd1, HWC.out.2, q2, hd2⟩ (.set (fun i => i = p) _ ⟨p, 12, none⟩ (.slice XD DL.length dd) rfl) (fun _ a e q => by have h1 := HWN.out.1 a e; have h2 : a.block = p := q; omega) (fun _ a e q => by have h1 := q4 a e; have h2 : a.block = p := q; omega) (fun _ a e q => by have h1 := hnew a e; have h2 : a.block = p := q; omega))
              have HFAR : Hid (From (q + 1) ⟨⟨(v1 : Nat), (v2 : Nat), (v3 : Nat), (v4 : Nat), v5, (v6 : Nat), (v7 : Nat), (v8 : Nat), (v9 : Nat), (v10 : Nat), W1, NL, DL⟩, A1, c1, A2, c2, XD, dd⟩) := Lib.hid (by
                obtain ⟨AA, cA, hv, q1, q2, q3, q4⟩ := HJ.out.2.1.strs
                injection hv with e1 _ e3
                subst e1 e3
                have hp := HJ.out.1.rc.lt
                have hnb := HNBB.out
                have hrp := HJ.out.1.n2
                have hqr := HJ.out.1.n1
                exact ⟨fun a e => by have h1 := HWN.out.1 a e; omega, fun a e => by have h1 := q4 a e; omega, fun _ a e => by have h1 := hnew a e; omega⟩)
              have cc12 := RG.out.rc.c12; have ff12 := RG.out.rc.fr 12
              have RH : Hid (Rdg w (w7.setCell ⟨p, 12, none⟩ (.slice XD DL.length dd)) r q p A c b S16 ⟨⟨(v1 : Nat), (v2 : Nat), (v3 : Nat), (v4 : Nat), v5, (v6 : Nat), (v7 : Nat), (v8 : Nat), (v9 : Nat), (v10 : Nat), W1, NL, DL⟩, A1, c1, A2, c2, XD, dd⟩) := Lib.hid (RG.out.stored (.set (fun i => i = p) _ ⟨p, 12, none⟩ (.slice XD DL.length dd) rfl) (MsB.set RG.out.rc 12 (.slice XD DL.length dd)))
              obtain ⟨W8, hW8⟩ : ∃ W8, W8 = (w7.setCell ⟨p, 12, none⟩ (.slice XD DL.length dd)) := ⟨_, rfl⟩
              rw [← hW8] at RH HLI
              clear hX hnew hd1 hd2 k1 k3 HJ RG HD12
              have cb := RH.out.rd.cb; have ca := RH.out.rd.ca; have cd := RH.out.rd.cd
              go_wp2_with fail
              rw [← hW8]
              clear hW8 cc12 ff12
              by_cases hz : z0 = 77
              rotate_left
              · obtain ⟨rfl, rfl⟩ := HNO.out k k2 _ _ HEE.out (fun h => hz h.1)
                have hz1 : ((z0 : Int) != 77) = true := by simp only [bne_iff_ne]; omega
                clear HEE HNO HYES HFI HLI HFAR
                go_quiet (fail)
                go_wp2_with ((with_reducible show wpList _ _ _ (_ :: _) _ _); refine wpList_store_ms rfl (.tmp 2) (.tmp 127) rfl q mv0 (by kernel_rfl) (by kernel_rfl) mv0 RH.out.rs ?_; intro w9 hr9 hk9; have HR9 := Lib.hid hr9; have HK9 := Lib.hid hk9; clear hr9 hk9; refine Stop.out ?_)
                refine ⟨?_⟩
                refine wpList_assign' rfl _ rfl ?_
                refine wpList_nil ?_
                rename_i hret
                refine hret _ _ (wp_ret ?_)
                dsimp +zetaDelta only [Exit.then]
                exact Go.bodyPost_ret (results_ms2 rfl _ _ q mv0 (by kernel_rfl) HR9.out (.int .i64 3) (by kernel_rfl)) rfl ⟨mv0, rfl, rfl, lies0 _, below_keeps (bstep RH.out.below (bdraw W8 nq)) HK9.out (fun i e => by have h2 := HQ.out; omega) (bstep RH.out.below (bdraw W8 nq)).size⟩
              subst hz
              rcases hbad : S16.bad with _ | _
              rotate_left
              · obtain ⟨rfl, rfl⟩ := HNO.out k k2 _ _ HEE.out (fun h => by rw [hbad] at h; cases h.2.1)
                rw [hbad] at cd
                clear HEE HNO HYES HFI HLI HFAR
                go_quiet (fail)
                go_wp2_with ((with_reducible show wpList _ _ _ (_ :: _) _ _); refine wpList_store_ms rfl (.tmp 2) (.tmp 127) rfl q mv0 (by kernel_rfl) (by kernel_rfl) mv0 RH.out.rs ?_; intro w9 hr9 hk9; have HR9 := Lib.hid hr9; have HK9 := Lib.hid hk9; clear hr9 hk9; refine Stop.out ?_)
                refine ⟨?_⟩
                refine wpList_assign' rfl _ rfl ?_
                refine wpList_nil ?_
                rename_i hret
                refine hret _ _ (wp_ret ?_)
                dsimp +zetaDelta only [Exit.then]
                exact Go.bodyPost_ret (results_ms2 rfl _ _ q mv0 (by kernel_rfl) HR9.out (.int .i64 3) (by kernel_rfl)) rfl ⟨mv0, rfl, rfl, lies0 _, below_keeps (bstep RH.out.below (bdraw W8 nq)) HK9.out (fun i e => by have h2 := HQ.out; omega) (bstep RH.out.below (bdraw W8 nq)).size⟩
              by_cases hat : S16.at_ = b.length
              rotate_left
              · obtain ⟨rfl, rfl⟩ := HNO.out k k2 _ _ HEE.out (fun h => hat h.2.2.1)
                rw [hbad] at cd
                have hat1 : ((S16.at_ : Int) != (b.length : Int)) = true := by simp only [bne_iff_ne]; omega
                clear HEE HNO HYES HFI HLI HFAR hat
                generalize S16.at_ = sa at *
                generalize b.length = bl at *
                go_quiet (fail)
                go_wp2_with ((with_reducible show wpList _ _ _ (_ :: _) _ _); refine wpList_store_ms rfl (.tmp 2) (.tmp 127) rfl q mv0 (by kernel_rfl) (by kernel_rfl) mv0 RH.out.rs ?_; intro w9 hr9 hk9; have HR9 := Lib.hid hr9; have HK9 := Lib.hid hk9; clear hr9 hk9; refine Stop.out ?_)
                refine ⟨?_⟩
                refine wpList_assign' rfl _ rfl ?_
                refine wpList_nil ?_
                rename_i hret
                refine hret _ _ (wp_ret ?_)
                dsimp +zetaDelta only [Exit.then]
                exact Go.bodyPost_ret (results_ms2 rfl _ _ q mv0 (by kernel_rfl) HR9.out (.int .i64 3) (by kernel_rfl)) rfl ⟨mv0, rfl, rfl, lies0 _, below_keeps (bstep RH.out.below (bdraw W8 nq)) HK9.out (fun i e => by have h2 := HQ.out; omega) (bstep RH.out.below (bdraw W8 nq)).size⟩
              obtain ⟨mv, hmv⟩ : ∃ mv : Mv, mv = ⟨⟨(v1 : Nat), (v2 : Nat), (v3 : Nat), (v4 : Nat), v5, (v6 : Nat), (v7 : Nat), (v8 : Nat), (v9 : Nat), (v10 : Nat), W1, NL, DL⟩, A1, c1, A2, c2, XD, dd⟩ := ⟨_, rfl⟩
              rw [← hmv] at RH HLI HFAR
              have HEE2 : Hid (Endg b k k2 mv.m S16) := Lib.hid (by rw [hmv]; exact HEE.out)
              have HMW : Hid (mv.m.who.length ≤ 1048576) := Lib.hid (by rw [hmv]; exact HW1L.out)
              clear hmv HEE cb ca cd
              have HFM := Lib.hid (HFI.out k k2 _ _ HEE2.out)
              obtain ⟨R, hR⟩ : ∃ R, R = mv.m.right := ⟨_, rfl⟩
              have CRR : Hid (∀ W, Below W8.heap.size W8 W → Calls Try.prog 11 #[.agg #[.int .i64 mv.m.K, .int .i64 mv.m.F, .int .i64 mv.m.T, .int .i64 mv.m.B, .string mv.m.s, .int .i64 mv.m.A, .int .i64 mv.m.E, .int .i64 mv.m.M, .int .i64 mv.m.S, .int .i64 mv.m.W, .slice mv.P mv.m.who.length mv.p, .slice mv.Q mv.m.names.length mv.q, .slice mv.D mv.m.data.length mv.d]] W fun e w' => e = .returned (.bool R) ∧ Below W.heap.size W w') := Lib.hid fun W hb => by rw [hR]; exact right_any mv HFM.out W (HLI.out.below hb) HMW.out
              have HMS : Hid (∀ W, Below W8.heap.size W8 W → MsB W p mv) := Lib.hid fun W hb => RH.out.rc.below hb
              have HRA : Hid (∀ W, Below W8.heap.size W8 W → W.cell? ⟨r, 0, none⟩ = some (.slice A m c) ∧ W.cell? ⟨r, 1, none⟩ = some (.int .i64 (m : Nat)) ∧ W.cell? ⟨r, 2, none⟩ = some (.bool false)) := Lib.hid fun W hb => by
                have h := RH.out.rd.below hb
                exact ⟨by rw [HM.out]; exact h.cb, by rw [HM.out, ← hat]; exact h.ca, by rw [← hbad]; exact h.cd⟩
              have HYS : Hid (R = true → GV = mv.m ∧ GE = 0) := Lib.hid fun h => HYES.out k k2 _ _ HEE2.out rfl hbad hat (by rw [← hR]; exact h)
              have HNS : Hid (R = false → GV = ms0 ∧ GE = 3) := Lib.hid fun h => HNO.out k k2 _ _ HEE2.out (fun hh => by rw [← hR, h] at hh; cases hh.2.2.2)
              clear hR hbad hat HEE2 HYES HNO HFI HFM HMW
              refine Drawn.wp_region_flowL 25 [Drawn.SP.is (.int .i64 77), Drawn.SP.is (.bool false), Drawn.SP.is (.bool false), Drawn.SP.is (.pointer (some ⟨r, 0, none⟩)), Drawn.SP.is (.pointer (some ⟨r, 0, none⟩)), Drawn.SP.is (.pointer (some ⟨r, 2, none⟩)), Drawn.SP.is (.bool false), Drawn.SP.is (.bool false), Drawn.SP.is (.bool false), Drawn.SP.is (.pointer (some ⟨r, 0, none⟩)), Drawn.SP.is (.pointer (some ⟨r, 0, none⟩)), Drawn.SP.is (.pointer (some ⟨r, 1, none⟩)), Drawn.SP.is (.int .i64 (m : Nat)), Drawn.SP.is (.pointer (some ⟨r, 0, none⟩)), Drawn.SP.is (.pointer (some ⟨r, 0, none⟩)), Drawn.SP.is (.pointer (some ⟨r, 0, none⟩)), Drawn.SP.is (.slice A m c), Drawn.SP.is (.int .i64 (m : Nat)), Drawn.SP.is (.bool false), Drawn.SP.is (.bool false), Drawn.SP.is (.bool false), Drawn.SP.is (.agg #[.int .i64 mv.m.K, .int .i64 mv.m.F, .int .i64 mv.m.T, .int .i64 mv.m.B, .string mv.m.s, .int .i64 mv.m.A, .int .i64 mv.m.E, .int .i64 mv.m.M, .int .i64 mv.m.S, .int .i64 mv.m.W, .slice mv.P mv.m.who.length mv.p, .slice mv.Q mv.m.names.length mv.q, .slice mv.D mv.m.data.length mv.d]), Drawn.SP.is (.bool R), Drawn.SP.is (.bool (!R)), Drawn.SP.is (.bool (!R))] (by kernel_rfl) (by kernel_rfl) ?_ ?_
              · intro i hi a w1 hb hev hdep
                rcases (show i = 0 ∨ i = 1 ∨ i = 2 ∨ i = 3 ∨ i = 4 ∨ i = 5 ∨ i = 6 ∨ i = 7 ∨ i = 8 ∨ i = 9 ∨ i = 10 ∨ i = 11 ∨ i = 12 ∨ i = 13 ∨ i = 14 ∨ i = 15 ∨ i = 16 ∨ i = 17 ∨ i = 18 ∨ i = 19 ∨ i = 20 ∨ i = 21 ∨ i = 22 ∨ i = 23 ∨ i = 24 by omega) with rfl | rfl | rfl | rfl | rfl | rfl | rfl | rfl | rfl | rfl | rfl | rfl | rfl | rfl | rfl | rfl | rfl | rfl | rfl | rfl | rfl | rfl | rfl | rfl | rfl
                · have e5 : a.tmps[5]?.getD undef = .int .i64 77 := hev 5 rfl
                  refine Drawn.wpOp_flow 102 rfl rfl rfl ?_
                  clear hev hdep hb
                  go_simp
                  exact ⟨_, rfl, rfl, Below.refl _ _⟩
                · have d0 : a.tmps[102]?.getD undef = .int .i64 77 := hdep 0 rfl
                  refine Drawn.wpOp_flow 103 rfl rfl rfl ?_
                  clear hev hdep hb
                  go_simp
                  exact ⟨_, rfl, rfl, Below.refl _ _⟩
                · have d1 : a.tmps[103]?.getD undef = .bool false := hdep 1 rfl
                  refine Drawn.wpOp_flow 104 rfl rfl rfl ?_
                  clear hev hdep hb
                  go_simp
                  exact ⟨_, rfl, rfl, Below.refl _ _⟩
                · have e4 : a.tmps[4]?.getD undef = .pointer (some ⟨r, 0, none⟩) := hev 4 rfl
                  have dg : a.tmps[104]?.getD undef = .bool false := hdep 2 rfl
                  refine Drawn.wpOp_flow 105 rfl (Drawn.wanted_of rfl rfl rfl dg) rfl ?_
                  clear dg
                  clear hev hdep hb
                  go_simp
                  exact ⟨_, rfl, rfl, Below.refl _ _⟩
                · have d3 : a.tmps[105]?.getD undef = .pointer (some ⟨r, 0, none⟩) := hdep 3 rfl
                  have dg : a.tmps[104]?.getD undef = .bool false := hdep 2 rfl
                  refine Drawn.wpOp_flow 106 rfl (Drawn.wanted_of rfl rfl rfl dg) rfl ?_
                  clear dg
                  clear hev hdep hb
                  go_simp
                  exact ⟨_, rfl, rfl, Below.refl _ _⟩
                · have d4 : a.tmps[106]?.getD undef = .pointer (some ⟨r, 0, none⟩) := hdep 4 rfl
                  have dg : a.tmps[104]?.getD undef = .bool false := hdep 2 rfl
                  refine Drawn.wpOp_flow 107 rfl (Drawn.wanted_of rfl rfl rfl dg) rfl ?_
                  clear dg
                  clear hev hdep hb
                  go_simp
                  exact ⟨_, rfl, rfl, Below.refl _ _⟩
                · have d5 : a.tmps[107]?.getD undef = .pointer (some ⟨r, 2, none⟩) := hdep 5 rfl
                  have dg : a.tmps[104]?.getD undef = .bool false := hdep 2 rfl
                  refine Drawn.wpOp_flow 108 rfl (Drawn.wanted_of rfl rfl rfl dg) rfl ?_
                  obtain ⟨c0, c1, c2⟩ := HRA.out w1 hb
                  clear dg
                  clear hev hdep hb
                  go_simp
                  exact ⟨_, rfl, rfl, Below.refl _ _⟩
                · have d2 : a.tmps[104]?.getD undef = .bool false := hdep 2 rfl
                  have d6 : a.tmps[108]?.getD undef = .bool false := hdep 6 rfl
                  refine Drawn.wpOp_flow 109 rfl rfl rfl ?_
                  clear hev hdep hb
                  go_simp
                  exact ⟨_, rfl, rfl, Below.refl _ _⟩
                · have d7 : a.tmps[109]?.getD undef = .bool false := hdep 7 rfl
                  refine Drawn.wpOp_flow 110 rfl rfl rfl ?_
                  clear hev hdep hb
                  go_simp
                  exact ⟨_, rfl, rfl, Below.refl _ _⟩
                · have e4 : a.tmps[4]?.getD undef = .pointer (some ⟨r, 0, none⟩) := hev 4 rfl
                  have dg : a.tmps[110]?.getD undef = .bool false := hdep 8 rfl
                  refine Drawn.wpOp_flow 111 rfl (Drawn.wanted_of rfl rfl rfl dg) rfl ?_
                  clear dg
                  clear hev hdep hb
                  go_simp
                  exact ⟨_, rfl, rfl, Below.refl _ _⟩
                · have d9 : a.tmps[111]?.getD undef = .pointer (some ⟨r, 0, none⟩) := hdep 9 rfl
                  have dg : a.tmps[110]?.getD undef = .bool false := hdep 8 rfl
                  refine Drawn.wpOp_flow 112 rfl (Drawn.wanted_of rfl rfl rfl dg) rfl ?_
                  clear dg
                  clear hev hdep hb
                  go_simp
                  exact ⟨_, rfl, rfl, Below.refl _ _⟩
                · have d10 : a.tmps[112]?.getD undef = .pointer (some ⟨r, 0, none⟩) := hdep 10 rfl
                  have dg : a.tmps[110]?.getD undef = .bool false := hdep 8 rfl
                  refine Drawn.wpOp_flow 113 rfl (Drawn.wanted_of rfl rfl rfl dg) rfl ?_
                  clear dg
                  clear hev hdep hb
                  go_simp
                  exact ⟨_, rfl, rfl, Below.refl _ _⟩
                · have d11 : a.tmps[113]?.getD undef = .pointer (some ⟨r, 1, none⟩) := hdep 11 rfl
                  have dg : a.tmps[110]?.getD undef = .bool false := hdep 8 rfl
                  refine Drawn.wpOp_flow 114 rfl (Drawn.wanted_of rfl rfl rfl dg) rfl ?_
                  obtain ⟨c0, c1, c2⟩ := HRA.out w1 hb
                  clear dg
                  clear hev hdep hb
                  go_simp
                  exact ⟨_, rfl, rfl, Below.refl _ _⟩
                · have e4 : a.tmps[4]?.getD undef = .pointer (some ⟨r, 0, none⟩) := hev 4 rfl
                  have dg : a.tmps[110]?.getD undef = .bool false := hdep 8 rfl
                  refine Drawn.wpOp_flow 115 rfl (Drawn.wanted_of rfl rfl rfl dg) rfl ?_
                  clear dg
                  clear hev hdep hb
                  go_simp
                  exact ⟨_, rfl, rfl, Below.refl _ _⟩
                · have d13 : a.tmps[115]?.getD undef = .pointer (some ⟨r, 0, none⟩) := hdep 13 rfl
                  have dg : a.tmps[110]?.getD undef = .bool false := hdep 8 rfl
                  refine Drawn.wpOp_flow 116 rfl (Drawn.wanted_of rfl rfl rfl dg) rfl ?_
                  clear dg
                  clear hev hdep hb
                  go_simp
                  exact ⟨_, rfl, rfl, Below.refl _ _⟩
                · have d14 : a.tmps[116]?.getD undef = .pointer (some ⟨r, 0, none⟩) := hdep 14 rfl
                  have dg : a.tmps[110]?.getD undef = .bool false := hdep 8 rfl
                  refine Drawn.wpOp_flow 117 rfl (Drawn.wanted_of rfl rfl rfl dg) rfl ?_
                  clear dg
                  clear hev hdep hb
                  go_simp
                  exact ⟨_, rfl, rfl, Below.refl _ _⟩
                · have d15 : a.tmps[117]?.getD undef = .pointer (some ⟨r, 0, none⟩) := hdep 15 rfl
                  have dg : a.tmps[110]?.getD undef = .bool false := hdep 8 rfl
                  refine Drawn.wpOp_flow 118 rfl (Drawn.wanted_of rfl rfl rfl dg) rfl ?_
                  obtain ⟨c0, c1, c2⟩ := HRA.out w1 hb
                  clear dg
                  clear hev hdep hb
                  go_simp
                  exact ⟨_, rfl, rfl, Below.refl _ _⟩
                · have d16 : a.tmps[118]?.getD undef = .slice A m c := hdep 16 rfl
                  have dg : a.tmps[110]?.getD undef = .bool false := hdep 8 rfl
                  refine Drawn.wpOp_flow 119 rfl (Drawn.wanted_of rfl rfl rfl dg) rfl ?_
                  clear dg
                  clear hev hdep hb
                  go_simp
                  exact ⟨_, rfl, rfl, Below.refl _ _⟩
                · have d12 : a.tmps[114]?.getD undef = .int .i64 (m : Nat) := hdep 12 rfl
                  have d17 : a.tmps[119]?.getD undef = .int .i64 (m : Nat) := hdep 17 rfl
                  have dg : a.tmps[110]?.getD undef = .bool false := hdep 8 rfl
                  refine Drawn.wpOp_flow 120 rfl (Drawn.wanted_of rfl rfl rfl dg) rfl ?_
                  clear dg
                  clear hev hdep hb
                  go_simp
                  exact ⟨_, rfl, rfl, Below.refl _ _⟩
                · have d8 : a.tmps[110]?.getD undef = .bool false := hdep 8 rfl
                  have d18 : a.tmps[120]?.getD undef = .bool false := hdep 18 rfl
                  refine Drawn.wpOp_flow 121 rfl rfl rfl ?_
                  clear hev hdep hb
                  go_simp
                  exact ⟨_, rfl, rfl, Below.refl _ _⟩
                · have d19 : a.tmps[121]?.getD undef = .bool false := hdep 19 rfl
                  refine Drawn.wpOp_flow 122 rfl rfl rfl ?_
                  clear hev hdep hb
                  go_simp
                  exact ⟨_, rfl, rfl, Below.refl _ _⟩
                · have e6 : a.tmps[6]?.getD undef = .pointer (some ⟨p, 0, none⟩) := hev 6 rfl
                  have dg : a.tmps[122]?.getD undef = .bool false := hdep 20 rfl
                  refine Drawn.wpOp_flow 123 rfl (Drawn.wanted_of rfl rfl rfl dg) rfl ?_
                  clear hev hdep
                  obtain ⟨c0, c1, c2⟩ := HRA.out w1 hb
                  refine Law25.wp_load_ms (.tmp 6) rfl p (by rw [Drawn.eval_tmp]; exact e6) mv (HMS.out w1 hb) ?_
                  exact ⟨_, rfl, rfl, Below.refl _ _⟩
                · have d21 : a.tmps[123]?.getD undef = .agg #[.int .i64 mv.m.K, .int .i64 mv.m.F, .int .i64 mv.m.T, .int .i64 mv.m.B, .string mv.m.s, .int .i64 mv.m.A, .int .i64 mv.m.E, .int .i64 mv.m.M, .int .i64 mv.m.S, .int .i64 mv.m.W, .slice mv.P mv.m.who.length mv.p, .slice mv.Q mv.m.names.length mv.q, .slice mv.D mv.m.data.length mv.d] := hdep 21 rfl
                  have dg : a.tmps[122]?.getD undef = .bool false := hdep 20 rfl
                  refine Drawn.wpOp_flow 124 rfl (Drawn.wanted_of rfl rfl rfl dg) rfl ?_
                  clear hev hdep
                  go_simp
                  refine (CRR.out w1 hb).mono ?_
                  rintro e w2 ⟨rfl, hb2⟩
                  exact ⟨_, rfl, rfl, hb2⟩
                · have d22 : a.tmps[124]?.getD undef = .bool R := hdep 22 rfl
                  have dg : a.tmps[122]?.getD undef = .bool false := hdep 20 rfl
                  refine Drawn.wpOp_flow 125 rfl (Drawn.wanted_of rfl rfl rfl dg) rfl ?_
                  clear dg
                  clear hev hdep hb
                  go_simp
                  exact ⟨_, rfl, rfl, Below.refl _ _⟩
                · have d20 : a.tmps[122]?.getD undef = .bool false := hdep 20 rfl
                  have d23 : a.tmps[125]?.getD undef = .bool (!R) := hdep 23 rfl
                  refine Drawn.wpOp_flow 126 rfl rfl rfl ?_
                  clear hev hdep hb
                  go_simp
                  exact ⟨_, rfl, rfl, Below.refl _ _⟩
              · intro xq w1 hb hxq
                have vq0 : xq 0 = .int .i64 77 := hxq 0 (by omega)
                have vq1 : xq 1 = .bool false := hxq 1 (by omega)
                have vq2 : xq 2 = .bool false := hxq 2 (by omega)
                have vq3 : xq 3 = .pointer (some ⟨r, 0, none⟩) := hxq 3 (by omega)
                have vq4 : xq 4 = .pointer (some ⟨r, 0, none⟩) := hxq 4 (by omega)
                have vq5 : xq 5 = .pointer (some ⟨r, 2, none⟩) := hxq 5 (by omega)
                have vq6 : xq 6 = .bool false := hxq 6 (by omega)
                have vq7 : xq 7 = .bool false := hxq 7 (by omega)
                have vq8 : xq 8 = .bool false := hxq 8 (by omega)
                have vq9 : xq 9 = .pointer (some ⟨r, 0, none⟩) := hxq 9 (by omega)
                have vq10 : xq 10 = .pointer (some ⟨r, 0, none⟩) := hxq 10 (by omega)
                have vq11 : xq 11 = .pointer (some ⟨r, 1, none⟩) := hxq 11 (by omega)
                have vq12 : xq 12 = .int .i64 (m : Nat) := hxq 12 (by omega)
                have vq13 : xq 13 = .pointer (some ⟨r, 0, none⟩) := hxq 13 (by omega)
                have vq14 : xq 14 = .pointer (some ⟨r, 0, none⟩) := hxq 14 (by omega)
                have vq15 : xq 15 = .pointer (some ⟨r, 0, none⟩) := hxq 15 (by omega)
                have vq16 : xq 16 = .slice A m c := hxq 16 (by omega)
                have vq17 : xq 17 = .int .i64 (m : Nat) := hxq 17 (by omega)
                have vq18 : xq 18 = .bool false := hxq 18 (by omega)
                have vq19 : xq 19 = .bool false := hxq 19 (by omega)
                have vq20 : xq 20 = .bool false := hxq 20 (by omega)
                have vq21 : xq 21 = .agg #[.int .i64 mv.m.K, .int .i64 mv.m.F, .int .i64 mv.m.T, .int .i64 mv.m.B, .string mv.m.s, .int .i64 mv.m.A, .int .i64 mv.m.E, .int .i64 mv.m.M, .int .i64 mv.m.S, .int .i64 mv.m.W, .slice mv.P mv.m.who.length mv.p, .slice mv.Q mv.m.names.length mv.q, .slice mv.D mv.m.data.length mv.d] := hxq 21 (by omega)
                have vq22 : xq 22 = .bool R := hxq 22 (by omega)
                have vq23 : xq 23 = .bool (!R) := hxq 23 (by omega)
                have vq24 : xq 24 = .bool (!R) := hxq 24 (by omega)
                show Exit.then _ _ Exit.normal (Drawn.acts _ [(126, some (xq 24)), (125, some (xq 23)), (124, some (xq 22)), (123, some (xq 21)), (122, some (xq 20)), (121, some (xq 19)), (120, some (xq 18)), (119, some (xq 17)), (118, some (xq 16)), (117, some (xq 15)), (116, some (xq 14)), (115, some (xq 13)), (114, some (xq 12)), (113, some (xq 11)), (112, some (xq 10)), (111, some (xq 9)), (110, some (xq 8)), (109, some (xq 7)), (108, some (xq 6)), (107, some (xq 5)), (106, some (xq 4)), (105, some (xq 3)), (104, some (xq 2)), (103, some (xq 1)), (102, some (xq 0))]) _
                rw [vq0, vq1, vq2, vq3, vq4, vq5, vq6, vq7, vq8, vq9, vq10, vq11, vq12, vq13, vq14, vq15, vq16, vq17, vq18, vq19, vq20, vq21, vq22, vq23, vq24]
                clear hxq vq0 vq1 vq2 vq3 vq4 vq5 vq6 vq7 vq8 vq9 vq10 vq11 vq12 vq13 vq14 vq15 vq16 vq17 vq18 vq19 vq20 vq21 vq22 vq23 vq24
                clear xq
                simp only [Drawn.acts]
                go_simp
                have HRq := Lib.hid (RH.out.rs.below hb); have HRp := Lib.hid (RH.out.rc.below hb); have HB9 := Lib.hid (bstep RH.out.below hb); have HL9 := Lib.hid (HLI.out.below hb)
                clear hb CRR HMS HRA RH HLI
                rcases R with _ | _
                · obtain ⟨rfl, rfl⟩ := HNS.out rfl
                  clear HNS HYS HFAR HRp HL9
                  go_wp2_with ((with_reducible show wpList _ _ _ (_ :: _) _ _); refine wpList_store_ms rfl (.tmp 2) (.tmp 127) rfl q mv0 (by kernel_rfl) (by kernel_rfl) mv0 HRq.out ?_; intro w9 hr9 hk9; have HR9 := Lib.hid hr9; have HK9 := Lib.hid hk9; clear hr9 hk9; refine Stop.out ?_)
                  refine ⟨?_⟩
                  refine wpList_assign' rfl _ rfl ?_
                  refine wpList_nil ?_
                  rename_i hret
                  refine hret _ _ (wp_ret ?_)
                  dsimp +zetaDelta only [Exit.then]
                  exact Go.bodyPost_ret (results_ms2 rfl _ _ q mv0 (by kernel_rfl) HR9.out (.int .i64 3) (by kernel_rfl)) rfl ⟨mv0, rfl, rfl, lies0 _, below_keeps HB9.out HK9.out (fun i e => by have h2 := HQ.out; omega) HB9.out.size⟩
                · obtain ⟨rfl, rfl⟩ := HYS.out rfl
                  clear HNS HYS
                  go_wp2_with (first
                    | ((with_reducible show wpList _ _ _ (_ :: _) _ _); refine Law25.wpList_load_msw rfl _ rfl p rfl mv HRp.out ?_)
                    | ((with_reducible show wpList _ _ _ (_ :: _) _ _); refine wpList_store_ms rfl _ _ rfl q mv rfl rfl mv0 HRq.out ?_; intro w9 hr9 hk9; have HR9 := Lib.hid hr9; have HK9 := Lib.hid hk9; clear hr9 hk9; refine Stop.out ?_))
                  have hfr := HFAR.out; have hq2 := HQ.out
                  refine ⟨?_⟩
                  refine wpList_assign' rfl _ rfl ?_
                  refine wpList_nil ?_
                  rename_i hret
                  refine hret _ _ (wp_ret ?_)
                  dsimp +zetaDelta only [Exit.then]
                  exact Go.bodyPost_ret (results_ms2 rfl _ _ q mv rfl HR9.out (.int .i64 0) rfl) rfl ⟨mv, rfl, rfl, Lies.keep HL9.out HK9.out (fun _ a e => by have := hfr.1 a e; omega) (fun _ a e => by have := hfr.2.1 a e; omega) (fun h0 a e => by have := hfr.2.2 h0 a e; omega), below_keeps HB9.out HK9.out (fun k e => by omega) HB9.out.size⟩
theorem get_any (A : Option Addr) (bb : List UInt8) (c : Nat) (w : World) (h : BytesAt w A bb) (hc : bb.length ≤ c) (hc2 : c ≤ maxLen) (hbl : bb.length ≤ 1048576) :
    Calls Try.prog 20 #[.slice A bb.length c] w (RetGot w bb) := by
  rcases hg : CrcM.good bb with _ | _
  · exact get_sumV A bb c w h hc hc2 hbl hg
  · exact get_good A bb c w h hc hc2 hbl hg
end Go.Proofs.Ytjoocjkakgjgmaa.R25
