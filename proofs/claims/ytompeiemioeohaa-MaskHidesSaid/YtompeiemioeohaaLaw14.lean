/- the walks of layer 14's laws: the example, MaskShifts -/
import Derived.Test.YtompeiemioeohaaMR
import Derived.Test.YtompeiemioeohaaMK
import Derived.Test.YtompeiemioeohaaR01
set_option maxRecDepth 100000
namespace Go.Proofs.Ytompeiemioeohaa.Law14
open Go.RowKit PlanM StripeM LagrM DealM RebM ZeroM MaskM Law08 Law10

def two : PlanM.P := ⟨2, 1, 1, 2, 9, 1⟩
theorem two_in : two.In := by unfold two; constructor <;> (unfold In64; simp)
theorem two_val : two.val = .agg #[.int .i64 2, .int .i64 1, .int .i64 1, .int .i64 2, .int .i64 9, .int .i64 1] := rfl
theorem two_mask : Mask.shiftA two [4] [1] = [0, 2] ∧ mcheck two [4] [1] = 0 ∧ Mask.dealA two [4] [0, 2] = [2] ∧ apply [1, 2] 1 [3, 4] = [1, 1] := by decide +kernel
def SP.bN (l : List UInt8) (n : Nat) : Drawn.SP := ⟨fun v w => ∃ X d, v = .slice X n d ∧ BytesAt w X l, fun _ _ _ h hb => by
  obtain ⟨X, d, h1, h2⟩ := h; exact ⟨X, d, h1, h2.below hb⟩⟩
def SP.iN (l : List Int) (n : Nat) : Drawn.SP := ⟨fun v w => ∃ X d, v = .slice X n d ∧ IntsAt w X l, fun _ _ _ h hb => by
  obtain ⟨X, d, h1, h2⟩ := h; exact ⟨X, d, h1, h2.below hb⟩⟩
def SP.sE (l : List UInt8) (n : Nat) (r : Int) : Drawn.SP := ⟨fun v w => ∃ X d, v = .tuple #[.slice X n d, .int .i64 r] ∧ BytesAt w X l, fun _ _ _ h hb => by
  obtain ⟨X, d, h1, h2⟩ := h; exact ⟨X, d, h1, h2.below hb⟩⟩
theorem same_yes (A1 A2 : Option Addr) (l : List UInt8) (n : Nat) (hn : n = l.length) (c1 c2 : Nat) (w : World) (h1 : BytesAt w A1 l) (h2 : BytesAt w A2 l) (m1 : n ≤ maxLen) :
    Calls Try.prog 13 #[.slice A1 n c1, .slice A2 n c2] w fun e w' => e = .returned (.bool true) ∧ Below w.heap.size w w' := by
  subst hn
  have C := R01.same_any A1 A2 l l c1 c2 w h1 h2 m1 m1
  rw [same_self] at C
  exact C.mono fun e w' ⟨h1, h2⟩ => ⟨h1, bquiet h2⟩

set_option maxHeartbeats 4000000 in
theorem alive_any (w : World) : Calls Try.prog 9 #[] w fun e w' => e = .returned (.bool true) ∧ Below w.heap.size w w' := by
  obtain ⟨e1, e2, e3, e4⟩ := two_mask
  have K1 := fun b0 V ht X1 d1 h1 X2 d2 h2 => Mask.shift_any b0 two X1 X2 [4] d1 [1] d2 V two_in ht h1 h2 (by simp) (fun x hx => by simp at hx; subst hx; unfold In64; omega)
  have K2 := fun b0 V ht X1 d1 h1 X2 d2 h2 => Mask.deal_any b0 two X1 X2 [4] [0, 2] d1 d2 V two_in ht h1 h2 (by simp)
  have K3 := fun V X1 d1 h1 X2 d2 h2 => Mask.apply_any X1 X2 [1, 2] [3, 4] 1 d1 d2 V h1 h2 (by simp) (by simp) (by unfold In64; omega)
  rw [e1, e2, two_val] at K1
  rw [e3, two_val] at K2
  rw [e4] at K3
  unfold Mask.RetSE at K1
  unfold Mask.RetB at K2
  unfold RetNew at K3
  simp only [List.length_cons, List.length_nil] at K1 K2 K3
  have H1 := Lib.hid K1; have H2 := Lib.hid K2; have H3 := Lib.hid K3
  have HM : Hid (2 ≤ maxLen) := Lib.hid (by unfold maxLen; omega)
  have HM1 : Hid (1 ≤ maxLen) := Lib.hid (by unfold maxLen; omega)
  clear K1 K2 K3 e1 e2 e3 e4
  go_enter Try.func9, Try.ntmps9
  go_wp2_with fail
  have HA := Lib.hid (PlanLies.new w 2 1 1 2 9 1)
  have HB0 := Lib.hid (balloc w (.cells #[.int .i64 2, .int .i64 1, .int .i64 1, .int .i64 2, .int .i64 9, .int .i64 1] 23))
  generalize w.alloc (.cells #[.int .i64 2, .int .i64 1, .int .i64 1, .int .i64 2, .int .i64 9, .int .i64 1] 23) = w0 at *
  refine Drawn.wp_region_flowL 10 [Drawn.SP.tab, Drawn.SP.is (.agg #[.int .i64 2, .int .i64 1, .int .i64 1, .int .i64 2, .int .i64 9, .int .i64 1]), SP.bN [4] 1, SP.iN [1] 1, SP.sE [0, 2] 2 0, SP.sE [0, 2] 2 0, SP.bN [0, 2] 2, Drawn.SP.is (.int .i64 0), SP.bN [0, 2] 2, Drawn.SP.is (.int .i64 0)] (by kernel_rfl) (by kernel_rfl) ?_ ?_
  · intro i hi a wq hb hev hdep
    rcases (show i = 0 ∨ i = 1 ∨ i = 2 ∨ i = 3 ∨ i = 4 ∨ i = 5 ∨ i = 6 ∨ i = 7 ∨ i = 8 ∨ i = 9 by omega) with rfl | rfl | rfl | rfl | rfl | rfl | rfl | rfl | rfl | rfl
    · refine Drawn.wpOp_flow 6 rfl rfl rfl ?_
      clear hev hdep
      clear hb
      go_simp
      refine (Gf.new_any wq).mono ?_
      rintro e w' ⟨rfl, ht, hb', _⟩
      exact ⟨_, rfl, ⟨_, rfl, ht⟩, hb'⟩
    · have e1 : a.tmps[1]?.getD undef = .pointer (some ⟨w.heap.size, 0, none⟩) := hev 1 rfl
      refine Drawn.wpOp_flow 7 rfl rfl rfl ?_
      obtain ⟨c0, c1, c2, c3, c4, c5⟩ := six (HA.out.below hb)
      clear hev hdep hb
      go_simp
      exact ⟨_, rfl, rfl, Below.refl _ _⟩
    · refine Drawn.wpOp_flow 8 rfl rfl rfl ?_
      clear hev hdep
      clear hb
      go_simp
      exact ⟨_, rfl, ⟨_, _, rfl, (Row.new wq [4]).bytes⟩, balloc _ _⟩
    · refine Drawn.wpOp_flow 9 rfl rfl rfl ?_
      clear hev hdep
      clear hb
      go_simp
      exact ⟨_, rfl, ⟨_, _, rfl, Drawn.ints_new wq [1] 3⟩, balloc _ _⟩
    · obtain ⟨bf, d0, ht⟩ : (Drawn.SP.tab).p (a.tmps[6]?.getD undef) wq := hdep 0 rfl
      have d1 : a.tmps[7]?.getD undef = .agg #[.int .i64 2, .int .i64 1, .int .i64 1, .int .i64 2, .int .i64 9, .int .i64 1] := hdep 1 rfl
      obtain ⟨X1, d1, d2, x1⟩ : (SP.bN [4] 1).p (a.tmps[8]?.getD undef) wq := hdep 2 rfl
      obtain ⟨X2, d2, d3, x2⟩ : (SP.iN [1] 1).p (a.tmps[9]?.getD undef) wq := hdep 3 rfl
      refine Drawn.wpOp_flow 10 rfl rfl rfl ?_
      clear hev hdep
      have C := H1.out bf wq ht X1 d1 x1 X2 d2 x2
      clear x1 x2 ht
      clear hb
      go_simp
      refine C.mono ?_
      rintro e w' ⟨X, d, rfl, g3, hb'⟩
      exact ⟨_, rfl, ⟨X, d, rfl, g3⟩, hb'⟩
    · have d4 := hdep 4 rfl
      refine Drawn.wpOp_flow 5 rfl rfl rfl ?_
      clear hev hdep hb
      go_simp
      exact ⟨_, rfl, d4, Below.refl _ _⟩
    · obtain ⟨Z, cz, d5, hz⟩ : (SP.sE [0, 2] 2 0).p (a.tmps[5]?.getD undef) wq := hdep 5 rfl
      refine Drawn.wpOp_flow 11 rfl rfl rfl ?_
      clear hev hdep
      clear hb
      go_simp
      exact ⟨_, rfl, ⟨Z, cz, rfl, hz⟩, Below.refl _ _⟩
    · obtain ⟨Z, cz, d5, hz⟩ : (SP.sE [0, 2] 2 0).p (a.tmps[5]?.getD undef) wq := hdep 5 rfl
      refine Drawn.wpOp_flow 12 rfl rfl rfl ?_
      clear hev hdep hb
      go_simp
      exact ⟨_, rfl, rfl, Below.refl _ _⟩
    · have d6 := hdep 6 rfl
      refine Drawn.wpOp_flow 2 rfl rfl rfl ?_
      clear hev hdep hb
      go_simp
      exact ⟨_, rfl, d6, Below.refl _ _⟩
    · have d7 : a.tmps[12]?.getD undef = .int .i64 0 := hdep 7 rfl
      refine Drawn.wpOp_flow 3 rfl rfl rfl ?_
      clear hev hdep hb
      go_simp
      exact ⟨_, rfl, rfl, Below.refl _ _⟩
  · intro xq wq hb hxq
    have vq1 : xq 1 = .agg #[.int .i64 2, .int .i64 1, .int .i64 1, .int .i64 2, .int .i64 9, .int .i64 1] := hxq 1 (by omega)
    have vq7 : xq 7 = .int .i64 0 := hxq 7 (by omega)
    obtain ⟨Z, cz, vq8, hz⟩ : (SP.bN [0, 2] 2).p (xq 8) wq := hxq 8 (by omega)
    have vq9 : xq 9 = .int .i64 0 := hxq 9 (by omega)
    show Exit.then _ _ Exit.normal (Drawn.acts _ [(3, some (xq 9)), (2, some (xq 8)), (12, some (xq 7)), (11, some (xq 6)), (5, some (xq 5)), (10, some (xq 4)), (9, some (xq 3)), (8, some (xq 2)), (7, some (xq 1)), (6, some (xq 0))]) _
    rw [vq1, vq7, vq8, vq9]
    clear hxq vq1 vq7 vq8 vq9
    generalize xq 0 = yq0
    generalize xq 2 = yq2
    generalize xq 3 = yq3
    generalize xq 4 = yq4
    generalize xq 5 = yq5
    generalize xq 6 = yq6
    clear xq
    simp only [Drawn.acts]
    go_simp
    have HB1 := Lib.hid (bstep HB0.out hb)
    have HA1 := Lib.hid (HA.out.below hb)
    have HZ := Lib.hid hz
    clear hz hb HA HB0
    go_at_K
    go_wp2_with fail
    refine Drawn.wp_region_flowL 24 [Drawn.SP.is (.int .i64 0), Drawn.SP.is (.bool true), Drawn.SP.is (.bool true), Drawn.SP.is (.slice Z 2 cz), SP.bN [0, 2] 2, Drawn.SP.is (.bool true), Drawn.SP.is (.bool true), Drawn.SP.is (.bool true), Drawn.SP.tab, Drawn.SP.is (.agg #[.int .i64 2, .int .i64 1, .int .i64 1, .int .i64 2, .int .i64 9, .int .i64 1]), SP.bN [4] 1, Drawn.SP.is (.slice Z 2 cz), SP.bN [2] 1, SP.bN [2] 1, Drawn.SP.is (.bool true), Drawn.SP.is (.bool true), Drawn.SP.is (.bool true), SP.bN [1, 2] 2, SP.bN [3, 4] 2, SP.bN [1, 1] 2, SP.bN [1, 1] 2, Drawn.SP.is (.bool true), Drawn.SP.is (.bool true), Drawn.SP.is (.bool true)] (by kernel_rfl) (by kernel_rfl) ?_ ?_
    · intro i hi a wq2 hb hev hdep
      rcases (show i = 0 ∨ i = 1 ∨ i = 2 ∨ i = 3 ∨ i = 4 ∨ i = 5 ∨ i = 6 ∨ i = 7 ∨ i = 8 ∨ i = 9 ∨ i = 10 ∨ i = 11 ∨ i = 12 ∨ i = 13 ∨ i = 14 ∨ i = 15 ∨ i = 16 ∨ i = 17 ∨ i = 18 ∨ i = 19 ∨ i = 20 ∨ i = 21 ∨ i = 22 ∨ i = 23 by omega) with rfl | rfl | rfl | rfl | rfl | rfl | rfl | rfl | rfl | rfl | rfl | rfl | rfl | rfl | rfl | rfl | rfl | rfl | rfl | rfl | rfl | rfl | rfl | rfl
      · have e3 : a.tmps[3]?.getD undef = .int .i64 0 := hev 3 rfl
        refine Drawn.wpOp_flow 13 rfl rfl rfl ?_
        clear hev hdep hb
        go_simp
        exact ⟨_, rfl, rfl, Below.refl _ _⟩
      · have d0 : a.tmps[13]?.getD undef = .int .i64 0 := hdep 0 rfl
        refine Drawn.wpOp_flow 14 rfl rfl rfl ?_
        clear hev hdep hb
        go_simp
        exact ⟨_, rfl, rfl, Below.refl _ _⟩
      · have d1 : a.tmps[14]?.getD undef = .bool true := hdep 1 rfl
        refine Drawn.wpOp_flow 15 rfl rfl rfl ?_
        clear hev hdep hb
        go_simp
        exact ⟨_, rfl, rfl, Below.refl _ _⟩
      · have e2 : a.tmps[2]?.getD undef = .slice Z 2 cz := hev 2 rfl
        have dg : a.tmps[15]?.getD undef = .bool true := hdep 2 rfl
        refine Drawn.wpOp_flow 16 rfl (Drawn.wanted_of rfl rfl rfl dg) rfl ?_
        clear dg
        clear hev hdep hb
        go_simp
        exact ⟨_, rfl, rfl, Below.refl _ _⟩
      · have dg : a.tmps[15]?.getD undef = .bool true := hdep 2 rfl
        refine Drawn.wpOp_flow 17 rfl (Drawn.wanted_of rfl rfl rfl dg) rfl ?_
        clear hev hdep
        clear dg
        clear hb
        go_simp
        exact ⟨_, rfl, ⟨_, _, rfl, (Row.new wq2 [0, 2]).bytes⟩, balloc _ _⟩
      · have d3 : a.tmps[16]?.getD undef = .slice Z 2 cz := hdep 3 rfl
        obtain ⟨X17, d17, d4, x17⟩ : (SP.bN [0, 2] 2).p (a.tmps[17]?.getD undef) wq2 := hdep 4 rfl
        have dg : a.tmps[15]?.getD undef = .bool true := hdep 2 rfl
        refine Drawn.wpOp_flow 18 rfl (Drawn.wanted_of rfl rfl rfl dg) rfl ?_
        clear hev hdep
        clear dg
        have C := same_yes Z X17 [0, 2] 2 rfl cz d17 wq2 (HZ.out.below hb) x17 HM.out
        clear x17
        clear hb
        go_simp
        refine C.mono ?_
        rintro e w' ⟨rfl, hb'⟩
        exact ⟨_, rfl, rfl, hb'⟩
      · have d2 : a.tmps[15]?.getD undef = .bool true := hdep 2 rfl
        have d5 : a.tmps[18]?.getD undef = .bool true := hdep 5 rfl
        refine Drawn.wpOp_flow 19 rfl rfl rfl ?_
        clear hev hdep hb
        go_simp
        exact ⟨_, rfl, rfl, Below.refl _ _⟩
      · have d6 : a.tmps[19]?.getD undef = .bool true := hdep 6 rfl
        refine Drawn.wpOp_flow 20 rfl rfl rfl ?_
        clear hev hdep hb
        go_simp
        exact ⟨_, rfl, rfl, Below.refl _ _⟩
      · have dg : a.tmps[20]?.getD undef = .bool true := hdep 7 rfl
        refine Drawn.wpOp_flow 21 rfl (Drawn.wanted_of rfl rfl rfl dg) rfl ?_
        clear hev hdep
        clear dg
        clear hb
        go_simp
        refine (Gf.new_any wq2).mono ?_
        rintro e w' ⟨rfl, ht, hb', _⟩
        exact ⟨_, rfl, ⟨_, rfl, ht⟩, hb'⟩
      · have e1 : a.tmps[1]?.getD undef = .pointer (some ⟨w.heap.size, 0, none⟩) := hev 1 rfl
        have dg : a.tmps[20]?.getD undef = .bool true := hdep 7 rfl
        refine Drawn.wpOp_flow 22 rfl (Drawn.wanted_of rfl rfl rfl dg) rfl ?_
        obtain ⟨c0, c1, c2, c3, c4, c5⟩ := six (HA1.out.below hb)
        clear dg
        clear hev hdep hb
        go_simp
        exact ⟨_, rfl, rfl, Below.refl _ _⟩
      · have dg : a.tmps[20]?.getD undef = .bool true := hdep 7 rfl
        refine Drawn.wpOp_flow 23 rfl (Drawn.wanted_of rfl rfl rfl dg) rfl ?_
        clear hev hdep
        clear dg
        clear hb
        go_simp
        exact ⟨_, rfl, ⟨_, _, rfl, (Row.new wq2 [4]).bytes⟩, balloc _ _⟩
      · have e2 : a.tmps[2]?.getD undef = .slice Z 2 cz := hev 2 rfl
        have dg : a.tmps[20]?.getD undef = .bool true := hdep 7 rfl
        refine Drawn.wpOp_flow 24 rfl (Drawn.wanted_of rfl rfl rfl dg) rfl ?_
        clear dg
        clear hev hdep hb
        go_simp
        exact ⟨_, rfl, rfl, Below.refl _ _⟩
      · obtain ⟨bf, d8, ht⟩ : (Drawn.SP.tab).p (a.tmps[21]?.getD undef) wq2 := hdep 8 rfl
        have d9 : a.tmps[22]?.getD undef = .agg #[.int .i64 2, .int .i64 1, .int .i64 1, .int .i64 2, .int .i64 9, .int .i64 1] := hdep 9 rfl
        obtain ⟨X23, d23, d10, x23⟩ : (SP.bN [4] 1).p (a.tmps[23]?.getD undef) wq2 := hdep 10 rfl
        have d11 : a.tmps[24]?.getD undef = .slice Z 2 cz := hdep 11 rfl
        have dg : a.tmps[20]?.getD undef = .bool true := hdep 7 rfl
        refine Drawn.wpOp_flow 25 rfl (Drawn.wanted_of rfl rfl rfl dg) rfl ?_
        clear hev hdep
        clear dg
        have C := H2.out bf wq2 ht X23 d23 x23 Z cz (HZ.out.below hb)
        clear x23 ht
        clear hb
        go_simp
        refine C.mono ?_
        rintro e w' ⟨X, d, rfl, g3, hb'⟩
        exact ⟨_, rfl, ⟨X, d, rfl, g3⟩, hb'⟩
      · have dg : a.tmps[20]?.getD undef = .bool true := hdep 7 rfl
        refine Drawn.wpOp_flow 26 rfl (Drawn.wanted_of rfl rfl rfl dg) rfl ?_
        clear hev hdep
        clear dg
        clear hb
        go_simp
        exact ⟨_, rfl, ⟨_, _, rfl, (Row.new wq2 [2]).bytes⟩, balloc _ _⟩
      · obtain ⟨X25, d25, d12, x25⟩ : (SP.bN [2] 1).p (a.tmps[25]?.getD undef) wq2 := hdep 12 rfl
        obtain ⟨X26, d26, d13, x26⟩ : (SP.bN [2] 1).p (a.tmps[26]?.getD undef) wq2 := hdep 13 rfl
        have dg : a.tmps[20]?.getD undef = .bool true := hdep 7 rfl
        refine Drawn.wpOp_flow 27 rfl (Drawn.wanted_of rfl rfl rfl dg) rfl ?_
        clear hev hdep
        clear dg
        have C := same_yes X25 X26 [2] 1 rfl d25 d26 wq2 x25 x26 HM1.out
        clear x25 x26
        clear hb
        go_simp
        refine C.mono ?_
        rintro e w' ⟨rfl, hb'⟩
        exact ⟨_, rfl, rfl, hb'⟩
      · have d7 : a.tmps[20]?.getD undef = .bool true := hdep 7 rfl
        have d14 : a.tmps[27]?.getD undef = .bool true := hdep 14 rfl
        refine Drawn.wpOp_flow 28 rfl rfl rfl ?_
        clear hev hdep hb
        go_simp
        exact ⟨_, rfl, rfl, Below.refl _ _⟩
      · have d15 : a.tmps[28]?.getD undef = .bool true := hdep 15 rfl
        refine Drawn.wpOp_flow 29 rfl rfl rfl ?_
        clear hev hdep hb
        go_simp
        exact ⟨_, rfl, rfl, Below.refl _ _⟩
      · have dg : a.tmps[29]?.getD undef = .bool true := hdep 16 rfl
        refine Drawn.wpOp_flow 30 rfl (Drawn.wanted_of rfl rfl rfl dg) rfl ?_
        clear hev hdep
        clear dg
        clear hb
        go_simp
        exact ⟨_, rfl, ⟨_, _, rfl, (Row.new wq2 [1, 2]).bytes⟩, balloc _ _⟩
      · have dg : a.tmps[29]?.getD undef = .bool true := hdep 16 rfl
        refine Drawn.wpOp_flow 31 rfl (Drawn.wanted_of rfl rfl rfl dg) rfl ?_
        clear hev hdep
        clear dg
        clear hb
        go_simp
        exact ⟨_, rfl, ⟨_, _, rfl, (Row.new wq2 [3, 4]).bytes⟩, balloc _ _⟩
      · obtain ⟨X30, d30, d17, x30⟩ : (SP.bN [1, 2] 2).p (a.tmps[30]?.getD undef) wq2 := hdep 17 rfl
        obtain ⟨X31, d31, d18, x31⟩ : (SP.bN [3, 4] 2).p (a.tmps[31]?.getD undef) wq2 := hdep 18 rfl
        have dg : a.tmps[29]?.getD undef = .bool true := hdep 16 rfl
        refine Drawn.wpOp_flow 32 rfl (Drawn.wanted_of rfl rfl rfl dg) rfl ?_
        clear hev hdep
        clear dg
        have C := H3.out wq2 X30 d30 x30 X31 d31 x31
        clear x30 x31
        clear hb
        go_simp
        refine C.mono ?_
        rintro e w' ⟨X, d, rfl, _, _, g3, hb', _⟩
        exact ⟨_, rfl, ⟨X, d, rfl, g3⟩, hb'⟩
      · have dg : a.tmps[29]?.getD undef = .bool true := hdep 16 rfl
        refine Drawn.wpOp_flow 33 rfl (Drawn.wanted_of rfl rfl rfl dg) rfl ?_
        clear hev hdep
        clear dg
        clear hb
        go_simp
        exact ⟨_, rfl, ⟨_, _, rfl, (Row.new wq2 [1, 1]).bytes⟩, balloc _ _⟩
      · obtain ⟨X32, d32, d19, x32⟩ : (SP.bN [1, 1] 2).p (a.tmps[32]?.getD undef) wq2 := hdep 19 rfl
        obtain ⟨X33, d33, d20, x33⟩ : (SP.bN [1, 1] 2).p (a.tmps[33]?.getD undef) wq2 := hdep 20 rfl
        have dg : a.tmps[29]?.getD undef = .bool true := hdep 16 rfl
        refine Drawn.wpOp_flow 34 rfl (Drawn.wanted_of rfl rfl rfl dg) rfl ?_
        clear hev hdep
        clear dg
        have C := same_yes X32 X33 [1, 1] 2 rfl d32 d33 wq2 x32 x33 HM.out
        clear x32 x33
        clear hb
        go_simp
        refine C.mono ?_
        rintro e w' ⟨rfl, hb'⟩
        exact ⟨_, rfl, rfl, hb'⟩
      · have d16 : a.tmps[29]?.getD undef = .bool true := hdep 16 rfl
        have d21 : a.tmps[34]?.getD undef = .bool true := hdep 21 rfl
        refine Drawn.wpOp_flow 35 rfl rfl rfl ?_
        clear hev hdep hb
        go_simp
        exact ⟨_, rfl, rfl, Below.refl _ _⟩
      · have d22 : a.tmps[35]?.getD undef = .bool true := hdep 22 rfl
        refine Drawn.wpOp_flow 0 rfl rfl rfl ?_
        clear hev hdep hb
        go_simp
        exact ⟨_, rfl, rfl, Below.refl _ _⟩
    · intro xq wq2 hb hxq
      have vq0 : xq 0 = .int .i64 0 := hxq 0 (by omega)
      have vq1 : xq 1 = .bool true := hxq 1 (by omega)
      have vq2 : xq 2 = .bool true := hxq 2 (by omega)
      have vq3 : xq 3 = .slice Z 2 cz := hxq 3 (by omega)
      have vq5 : xq 5 = .bool true := hxq 5 (by omega)
      have vq6 : xq 6 = .bool true := hxq 6 (by omega)
      have vq7 : xq 7 = .bool true := hxq 7 (by omega)
      have vq9 : xq 9 = .agg #[.int .i64 2, .int .i64 1, .int .i64 1, .int .i64 2, .int .i64 9, .int .i64 1] := hxq 9 (by omega)
      have vq11 : xq 11 = .slice Z 2 cz := hxq 11 (by omega)
      have vq14 : xq 14 = .bool true := hxq 14 (by omega)
      have vq15 : xq 15 = .bool true := hxq 15 (by omega)
      have vq16 : xq 16 = .bool true := hxq 16 (by omega)
      have vq21 : xq 21 = .bool true := hxq 21 (by omega)
      have vq22 : xq 22 = .bool true := hxq 22 (by omega)
      have vq23 : xq 23 = .bool true := hxq 23 (by omega)
      show Exit.then _ _ Exit.normal (Drawn.acts _ [(0, some (xq 23)), (35, some (xq 22)), (34, some (xq 21)), (33, some (xq 20)), (32, some (xq 19)), (31, some (xq 18)), (30, some (xq 17)), (29, some (xq 16)), (28, some (xq 15)), (27, some (xq 14)), (26, some (xq 13)), (25, some (xq 12)), (24, some (xq 11)), (23, some (xq 10)), (22, some (xq 9)), (21, some (xq 8)), (20, some (xq 7)), (19, some (xq 6)), (18, some (xq 5)), (17, some (xq 4)), (16, some (xq 3)), (15, some (xq 2)), (14, some (xq 1)), (13, some (xq 0))]) _
      rw [vq0, vq1, vq2, vq3, vq5, vq6, vq7, vq9, vq11, vq14, vq15, vq16, vq21, vq22, vq23]
      clear hxq vq0 vq1 vq2 vq3 vq5 vq6 vq7 vq9 vq11 vq14 vq15 vq16 vq21 vq22 vq23
      generalize xq 4 = yq4
      generalize xq 8 = yq8
      generalize xq 10 = yq10
      generalize xq 12 = yq12
      generalize xq 13 = yq13
      generalize xq 17 = yq17
      generalize xq 18 = yq18
      generalize xq 19 = yq19
      generalize xq 20 = yq20
      clear xq
      simp only [Drawn.acts]
      go_simp
      have HB2 := Lib.hid (bstep HB1.out hb)
      clear hb
      go_at_K
      go_wp2
      go_ret
      exact ⟨rfl, HB2.out⟩
end Go.Proofs.Ytompeiemioeohaa.Law14
