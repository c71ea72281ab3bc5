/- merged: R18, R18B, R18C, R18D, R18E -/
import Derived.Test.YtapgpibindhlfaaGreatChs
import Derived.Test.YtapgpibindhlfaaGreatR06
import Derived.Test.YtapgpibindhlfaaGreatInts
import Derived.Deep.QuietTactic
import Derived.Test.YtapgpibindhlfaaGreatR15
import Derived.Test.YtapgpibindhlfaaGreatR05
import Derived.Test.YtapgpibindhlfaaGreatMEG

/- the document's own answers of layer 18: numbers to append to, Text -/
set_option maxRecDepth 100000
namespace Go.Proofs.YtapgpibindhlfaaGreat.R18
open Go.RowKit EntM

theorem Own.of_row {w : World} {g base : Nat} {l : List UInt8} (h : Row w g l) (hb : base ≤ g) (hl : l.length ≤ maxLen) : Own w base (.slice (some ⟨g, 0, none⟩) l.length l.length) l :=
  ⟨by rw [vals_len, Nat.mul_one], .inr ⟨g, l.length, cells l, rfl, hb, h, Nat.le_refl _, hl, by rw [cells_size, Nat.mul_one], by unfold cells; rw [Nat.mul_one]; exact List.take_of_length_le (by rw [vals_len]; exact Nat.le_refl _)⟩⟩
theorem num_own (k n : Int) (w : World) (hk : -9223372036854775808 ≤ n ∧ n ≤ 9223372036854775807) :
    Calls Tryz.prog 62 #[.int .i64 k, .int .i64 n] w (RetOwn w (PackM.numB k n)) := by
  obtain ⟨hw1, hw4⟩ := PackM.wid_range k
  obtain ⟨W, hW⟩ : ∃ W, W = PackM.wid k := ⟨_, rfl⟩
  obtain ⟨m, hm⟩ : ∃ m, m = n.toNat := ⟨_, rfl⟩
  have hres : PackM.numB k n = PackM.be W m := by unfold PackM.numB; rw [hW, hm]
  rw [hres]
  rw [← hW] at hw1 hw4
  have C := fun w => R06.width_any k w
  rw [← hW] at C
  have HC := Lib.hid C
  clear hres hW C
  have hmk := fun W' => make_u8 W (by omega) W'
  by_cases hneg : n < 0
  all_goals
    go_enter Tryz.func62, Tryz.ntmps62
    go_wp2_with fail
    refine (HC.out w).mono ?_
    rintro e w' ⟨rfl, rfl⟩
    rename World => w0
    go_wp2_with fail
    go_loopw [1, 6] (fun v i wr => ∃ s : Nat, s ≤ W ∧ i = .int .i64 ((W : Int) - 1 - s) ∧ v = .int .i64 ((m / 256 ^ s : Nat) : Int) ∧ Row wr w0.heap.size (PackM.numTo W m s) ∧ Below w0.heap.size w0 wr)
      (fun _ i _ => (intOf i + 1).toNat)
    case atStart =>
      refine ⟨0, Nat.zero_le _, by simp, ?_, by rw [PackM.numTo_zero]; exact Row.new _ _, balloc _ _⟩
      rw [Nat.pow_zero, Nat.div_one, hm]
      first
        | (congr 1; omega)
    case round =>
      obtain ⟨s, hs, rfl, rfl, hr, hb⟩ := hrel
      clear hmk
      by_cases hlt : s < W
      · have hst := PackM.numTo_step W m s hlt
        have hl := PackM.numTo_len W m s hs
        obtain ⟨d, hd⟩ : ∃ d, d = W - s - 1 := ⟨_, rfl⟩
        have hdl : d < (PackM.numTo W m s).length := by rw [hl]; omega
        have hf := hr.frozen d
        have hc := hr.cell d hdl
        have hdd : m / 256 ^ (s + 1) = m / 256 ^ s / 256 := by rw [Nat.pow_succ, Nat.div_div_eq_div_mul]
        have hq : m / 256 ^ s ≤ m := Nat.div_le_self _ _
        obtain ⟨q, hqq⟩ : ∃ q, q = m / 256 ^ s := ⟨_, rfl⟩
        rw [← hqq] at hst hdd hq ⊢
        rw [← hd] at hst
        have i1 : (W : Int) - 1 - s = (d : Int) := by omega
        rw [i1]
        obtain ⟨y, hy⟩ : ∃ y, y = UInt8.ofNat (q % 256) := ⟨_, rfl⟩
        have hyv : ((q : Int) % 256 % 256) = (y.toNat : Nat) := by rw [hy, UInt8.toNat_ofNat_of_lt' (by simp only [UInt8.size]; omega)]; omega
        have hyv2 : ((q : Int) % 256) = (y.toNat : Nat) := by omega
        have hml : (m : Int) ≤ 9223372036854775807 := by omega
        have hql : (q : Int) ≤ 9223372036854775807 := by omega
        rw [← hy] at hst
        have i2 : d < W := by omega
        have HST := Lib.hid hst; have HR := Lib.hid hr; have HDD := Lib.hid hdd; have HD := Lib.hid hd
        generalize (PackM.numTo W m s)[d] = old at *
        clear hst hr hl hdd hqq hd hy i1 hm hdl
        go_wp2
        go_roundw
        case rel =>
          refine ⟨s + 1, by omega, ?_, ?_, by rw [← HST.out]; exact HR.out.set d y, hb.setCell (Nat.le_refl _) _⟩
          · have := HD.out; congr 1; omega
          · rw [HDD.out]; congr 1
        case measure => simp [intOf] <;> omega
      · obtain rfl : s = W := by omega
        rw [PackM.numTo_done] at hr
        have HR := Lib.hid hr
        clear hr
        go_wp2
        go_ret
        have ho := Own.of_row HR.out (Nat.le_refl _) (by rw [PackM.be_len]; unfold maxLen; omega)
        rw [PackM.be_len] at ho
        exact ⟨_, rfl, ho, hb⟩

theorem item_as (c : Ch) : item c = if c.data = [] then PackM.numB 2 c.at_ ++ [0] else PackM.numB 2 c.at_ ++ [1] ++ c.data := by
  by_cases h : c.data = []
  · rw [if_pos h, item_bare h]
  · rw [if_neg h, item_given h]
set_option maxHeartbeats 1000000 in
theorem text_any (A : Option Addr) (l : List Ch) (c : Nat) (w : World) (h : ChsAt w A l) (hl : l.length ≤ 15000) (hd : ∀ x ∈ l, x.data.length ≤ 100) :
    Calls Tryz.prog 61 #[.slice A l.length c] w (RetOwn w (text l)) := by
  have H := Lib.hid h
  have HD := Lib.hid hd
  have HM : Hid (∀ k, (textTo l k).length ≤ 2 + 103 * 15000) := Lib.hid fun k => by
    have key : ∀ m : List Ch, (∀ x ∈ m, x.data.length ≤ 100) → (items m).length ≤ 103 * m.length := by
      intro m
      induction m with
      | nil => intro _; simp [items]
      | cons c m ih =>
        intro hm
        have h1 := ih fun x hx => hm x (List.mem_cons_of_mem _ hx)
        have h2 := hm c List.mem_cons_self
        have h3 : (item c).length ≤ 103 := by
          unfold item
          rw [List.length_append, PackM.be_len]
          split
          · simp
          · rw [List.length_cons]; omega
        rw [items_cons, List.length_append, List.length_cons]
        omega
    have h1 := key (l.take k) fun x hx => hd x (List.mem_of_mem_take hx)
    unfold textTo
    rw [List.length_append, PackM.be_len]
    rw [List.length_take] at h1
    omega
  clear h hd
  obtain ⟨n, hn⟩ : ∃ n, n = l.length := ⟨_, rfl⟩
  have HN := Lib.hid hn
  rw [← hn] at hl ⊢
  have C0 := Lib.hid (num_own 2 n w (by omega))
  have hz : textTo l 0 = PackM.numB 2 (n : Int) := by rw [hn]; exact textTo_zero l
  have ha : textTo l n = text l := by rw [hn]; exact textTo_all l
  rw [← hz] at C0
  have HA := Lib.hid ha
  clear hn hz ha
  go_enter Tryz.func61, Tryz.ntmps61
  go_wp2_with fail
  refine C0.out.mono ?_
  rintro e w1 ⟨v0, rfl, o0, hb0⟩
  have HO0 := Lib.hid o0; have HB0 := Lib.hid hb0
  clear o0 hb0 C0
  go_wp2
  go_loopw [3, 4] (fun v i wr => ∃ k : Nat, k ≤ n ∧ i = .int .i64 k ∧ Own wr w.heap.size v (textTo l k) ∧ Below w.heap.size w wr)
    (fun _ i _ => n - (intOf i).toNat)
  case atStart => exact ⟨0, Nat.zero_le _, rfl, HO0.out, HB0.out⟩
  case round =>
    obtain ⟨k, hk, rfl, ho, hb⟩ := hrel
    rename World => w2
    rename Value => v
    have HO := Lib.hid ho; have HB := Lib.hid hb
    clear HO0 HB0
    by_cases hlt : k < n
    · have hk2 : k < l.length := by rw [← HN.out]; exact hlt
      obtain ⟨bb, o, B, d, hAe, hx0⟩ := H.out k hk2
      subst hAe
      have hx := hx0.below hb
      have e0 := hx.c0; have e1 := hx.c1
      have HBY := Lib.hid hx0.bytes
      have HCL : Hid (w.cell? ⟨bb, o + k * 2 + 1, none⟩ = some (.slice B l[k].data.length d)) := Lib.hid hx0.c1
      have hi0 := hx.i0
      unfold AtIn at hi0
      have HSU := Lib.hid (textTo_succ l k hk2)
      have HMK := Lib.hid (HM.out k); have HMS := Lib.hid (HM.out (k + 1))
      have HIT := Lib.hid (item_as l[k])
      clear hx hx0
      obtain ⟨x, hxx⟩ : ∃ x, x = l[k] := ⟨_, rfl⟩
      rw [← hxx] at e0 e1 hi0 HBY HSU HIT HCL
      clear hxx
      obtain ⟨a, dd⟩ := x
      simp only at e0 e1 hi0 HBY HIT HCL
      have HGO : Hid (∀ wr v', Own wr w.heap.size v' (textTo l (k + 1)) → Below w.heap.size w wr → ∃ k2 : Nat, k2 ≤ n ∧ Value.int .i64 ((k : Int) + 1) = .int .i64 k2 ∧ Own wr w.heap.size v' (textTo l k2) ∧ Below w.heap.size w wr) := Lib.hid fun wr v' h1 h2 => ⟨k + 1, by omega, by go_num, h1, h2⟩
      generalize textTo l (k + 1) = T2 at *
      generalize textTo l k = T at *
      obtain ⟨A0, c0, hv0, _, _, _⟩ := ho.bytes
      generalize T.length = tn at hv0
      subst hv0
      have C1 := Lib.hid (num_own 2 a w2 hi0)
      clear ho hb
      have L1 : (PackM.numB 2 a).length = 2 := PackM.numB_len _ _
      have hT1 : (T ++ PackM.numB 2 a).length ≤ 2 + 103 * 15000 := by
        have := HMS.out
        rw [HSU.out, List.length_append] at this
        have h2 := item_len (⟨a, dd⟩ : Ch)
        rw [List.length_append, L1]; omega
      have HT1 := Lib.hid hT1
      have HL1 : Hid (2 = (PackM.numB 2 a).length) := Lib.hid L1.symm
      clear hT1 L1
      go_wp2_with fail
      refine C1.out.mono ?_
      rintro e w3 ⟨vX, rfl, oX, hbX⟩
      obtain ⟨X3, d3, hvX, hX1, hX2, hX3⟩ := oX.bytes
      rw [← HL1.out] at hvX
      subst hvX
      have HX3 := Lib.hid hX3
      have HO3 := Lib.hid (HO.out.below hbX)
      have HB3 := Lib.hid (bstep HB.out hbX)
      have HZ3 : Hid (w.heap.size ≤ w3.heap.size) := Lib.hid HB3.out.size
      have HTK : Hid (T.length + (PackM.numB 2 a).length < 1099511627776) := Lib.hid (by have := HMK.out; have := HL1.out; omega)
      clear hX1 hX2 hX3 oX hbX C1 HO HB
      by_cases hdd : dd = []
      · subst hdd
        have ht : T2 = T ++ PackM.numB 2 a ++ [0] := by rw [HSU.out, HIT.out, if_pos rfl, List.append_assoc]
        have HT := Lib.hid ht
        clear ht HSU HIT
        go_wp2_with (first
          | (at_builtin; refine wpList_append_bytes rfl (.tmp 14) (.tmp 20) rfl w.heap.size (.slice A0 tn c0) T (PackM.numB 2 a) rfl HO3.out X3 2 d3 rfl HL1.out HX3.out HTK.out HZ3.out ?_; intro v4 w4 own4 hb4; obtain ⟨A4, c4, hv4, _, _, _⟩ := own4.bytes; generalize (T ++ PackM.numB 2 a).length = n4 at hv4; subst hv4; have HO4 := Lib.hid own4; have hbb4 := HB3.out.trans hb4; have HB4 := Lib.hid hbb4; have f1 := (hbb4.cell (p := ⟨bb, o + k * 2 + 1, none⟩) (cell_lt HCL.out)).trans HCL.out; have hz4 := hbb4.size; clear own4 hb4 hbb4)
          | (at_builtin; refine wpList_append_u8 rfl _ _ rfl w.heap.size _ _ rfl (HO4.out.alloc _) w4.heap.size 1 0 rfl (by simp) (by have := HT1.out; omega) (by simp; omega) ?_; intro v5 w5 own5 hb5; rw [← HT.out] at own5; have HR := Lib.hid (HGO.out w5 v5 own5 ((HB4.out.alloc hz4 _).trans hb5)); clear own5 hb5))
        go_roundw
        case rel => exact HR.out
        case measure => simp [intOf] <;> omega
      · have hq : ((dd.length : Int) == 0) = false := by
          have : dd.length ≠ 0 := fun e => hdd (List.eq_nil_of_length_eq_zero e)
          simp; omega
        have ht : T2 = T ++ PackM.numB 2 a ++ [1] ++ dd := by rw [HSU.out, HIT.out, if_neg hdd]; simp
        have HT := Lib.hid ht
        have HTD : Hid ((T ++ PackM.numB 2 a ++ [1]).length + dd.length < 1099511627776) := Lib.hid (by
          have h1 := HMS.out; rw [ht, List.length_append] at h1; omega)
        clear ht HSU HIT hdd
        go_wp2_with (first
          | (at_builtin; refine wpList_append_bytes rfl (.tmp 14) (.tmp 20) rfl w.heap.size (.slice A0 tn c0) T (PackM.numB 2 a) rfl HO3.out X3 2 d3 rfl HL1.out HX3.out HTK.out HZ3.out ?_; intro v4 w4 own4 hb4; obtain ⟨A4, c4, hv4, _, _, _⟩ := own4.bytes; generalize (T ++ PackM.numB 2 a).length = n4 at hv4; subst hv4; have HO4 := Lib.hid own4; have hbb4 := HB3.out.trans hb4; have HB4 := Lib.hid hbb4; have f1 := (hbb4.cell (p := ⟨bb, o + k * 2 + 1, none⟩) (cell_lt HCL.out)).trans HCL.out; have hz4 := hbb4.size; clear own4 hb4 hbb4)
          | (at_builtin; refine wpList_append_u8 rfl (.tmp 32) (.tmp 33) rfl w.heap.size _ _ rfl (HO4.out.alloc _) w4.heap.size 1 1 rfl (by simp) (by have := HT1.out; omega) (by simp; omega) ?_; intro v5 w5 own5 hb5; obtain ⟨A5, c5, hv5, _, _, _⟩ := own5.bytes; generalize (T ++ PackM.numB 2 a ++ [1]).length = n5 at hv5; subst hv5; have HO5 := Lib.hid own5; have hbb5 := (HB4.out.alloc hz4 _).trans hb5; have HB5 := Lib.hid hbb5; have HBY5 := Lib.hid (HBY.out.below hbb5); have f2 := (hbb5.cell (p := ⟨bb, o + k * 2 + 1, none⟩) (cell_lt HCL.out)).trans HCL.out; have hz5 := hbb5.size; clear own5 hb5 hbb5)
          | (at_builtin; refine wpList_append_bytes rfl (.tmp 35) (.tmp 40) rfl w.heap.size (.slice A5 n5 c5) (T ++ PackM.numB 2 a ++ [1]) dd rfl HO5.out B dd.length d rfl rfl HBY5.out HTD.out hz5 ?_; intro v6 w6 own6 hb6; rw [← HT.out] at own6; have HR := Lib.hid (HGO.out w6 v6 own6 (HB5.out.trans hb6)); clear own6 hb6))
        go_roundw
        case rel => exact HR.out
        case measure => simp [intOf] <;> omega
    · obtain rfl : k = n := by omega
      have ho2 := HO.out
      rw [HA.out] at ho2
      have HO2 := Lib.hid ho2
      clear ho ho2 hb
      go_wp2
      go_ret
      exact ⟨_, rfl, HO2.out, HB.out⟩
end Go.Proofs.YtapgpibindhlfaaGreat.R18

/- the document's own answers of layer 18: Check -/
set_option maxRecDepth 100000
namespace Go.Proofs.YtapgpibindhlfaaGreat.R18
open Go.RowKit EntM

theorem any_at {l : List Ch} {p : Ch → Bool} {k : Nat} (h : k < l.length) (hp : p l[k] = true) : l.any p = true := List.any_eq_true.2 ⟨l[k], List.getElem_mem h, hp⟩
theorem none_at {l : List Ch} {p : Ch → Bool} (h : ∀ j, (hj : j < l.length) → p l[j] = false) : l.any p = false := any_false.2 fun x hx => by
  obtain ⟨j, hj, rfl⟩ := List.mem_iff_getElem.1 hx
  exact h j hj
theorem checkV_2 {l : List Ch} {k : Nat} (h : k < l.length) (hp : elsewhere l[k] = true) : checkV l = 2 := by
  unfold checkV; rw [any_at h hp]; rfl
theorem checkV_5 {l : List Ch} (h1 : ∀ j, (hj : j < l.length) → elsewhere l[j] = false) {i j : Nat} (hi : i < l.length) (hj : j < i) (he : l[i].at_ = (l[j]'(by omega)).at_) : checkV l = 5 := by
  have ht : twiceAt l = true := by
    unfold twiceAt
    rw [decide_eq_true_eq]
    intro hn
    rw [List.nodup_iff_pairwise_ne, List.pairwise_iff_getElem] at hn
    exact hn j i (by simp; omega) (by simpa using hi) hj (by simpa using he.symm)
  unfold checkV; rw [none_at h1, ht]; rfl
theorem twice_none {l : List Ch} (h : ∀ i, (hi : i < l.length) → ∀ j, (hj : j < i) → l[i].at_ ≠ (l[j]'(by omega)).at_) : twiceAt l = false := by
  unfold twiceAt
  rw [decide_eq_false_iff_not, Classical.not_not, List.nodup_iff_pairwise_ne, List.pairwise_iff_getElem]
  intro i j hi hj hij
  simp only [List.length_map] at hi hj
  simpa using fun e => h j hj i hij e.symm
theorem checkV_3 {l : List Ch} (h1 : ∀ j, (hj : j < l.length) → elsewhere l[j] = false) (h2 : twiceAt l = false) {k : Nat} (h : k < l.length) (hp : torn l[k] = true) : checkV l = 3 := by
  unfold checkV; rw [none_at h1, h2, any_at h hp]; rfl
theorem checkV_end {l : List Ch} (h1 : ∀ j, (hj : j < l.length) → elsewhere l[j] = false) (h2 : twiceAt l = false) (h3 : ∀ j, (hj : j < l.length) → torn l[j] = false) : checkV l = if (text l).length ≤ 1856 then 0 else 11 := by
  unfold checkV; rw [none_at h1, h2, none_at h3, if_neg (by decide), if_neg (by decide), if_neg (by decide)]
  by_cases h : (text l).length ≤ 1856
  · rw [if_pos h, if_neg ((bodies_le _).2 h)]
  · rw [if_neg h, if_pos (Classical.not_not.1 fun k => h ((bodies_le _).1 k))]
set_option maxHeartbeats 2000000 in
theorem check_any (A : Option Addr) (l : List Ch) (c : Nat) (w : World) (h : ChsAt w A l) (hl : l.length ≤ 15000) :
    Calls Tryz.prog 31 #[.slice A l.length c] w fun e w' => e = .returned (.int .i64 (checkV l)) ∧ Below w.heap.size w w' := by
  have H := Lib.hid h
  have CT := Lib.hid (fun W h hd => text_any A l c W h hl hd)
  have HTM : Hid ((∀ j, (hj : j < l.length) → torn l[j] = false) → (text l).length ≤ 2 + 67 * 15000) := Lib.hid fun h3 => by
    have := text_most l fun x hx => by
      obtain ⟨j, hj, rfl⟩ := List.mem_iff_getElem.1 hx
      exact (torn_iff _).1 (h3 j hj)
    omega
  have V2 := Lib.hid (fun k h hp => checkV_2 (l := l) (k := k) h hp)
  have V5 := Lib.hid (fun h1 i j hi hj he => checkV_5 (l := l) h1 (i := i) (j := j) hi hj he)
  have V3 := Lib.hid (fun h1 h2 k h hp => checkV_3 (l := l) h1 h2 (k := k) h hp)
  have VE := Lib.hid (fun h1 h2 h3 => checkV_end (l := l) h1 h2 h3)
  have VT := Lib.hid (fun h => twice_none (l := l) h)
  clear h
  obtain ⟨n, hn⟩ : ∃ n, n = l.length := ⟨_, rfl⟩
  have HN := Lib.hid hn
  rw [← hn] at hl CT ⊢
  clear hn
  generalize checkV l = r at *
  go_enter Tryz.func31, Tryz.ntmps31
  go_wp2
  go_loopw [3] (fun i wr => ∃ k : Nat, k ≤ n ∧ i = .int .i64 k ∧ Below w.heap.size w wr ∧ ∀ j, (hj : j < l.length) → j < k → elsewhere l[j] = false)
    (fun i _ => n - (intOf i).toNat)
  case atStart => exact ⟨0, Nat.zero_le _, rfl, Below.refl _ _, fun j _ h => by omega⟩
  case round =>
    obtain ⟨k, hk, rfl, hb, hall⟩ := hrel
    rename World => w1
    have HALL := Lib.hid hall; have HB := Lib.hid hb
    clear hall
    by_cases hlt : k < n
    · have hk2 : k < l.length := by rw [← HN.out]; exact hlt
      obtain ⟨bb, o, B, d, hAe, hx⟩ := H.out.below hb k hk2
      subst hAe
      have e0 := hx.c0
      have HV := Lib.hid (V2.out k hk2)
      have HS : Hid (elsewhere l[k] = false → ∀ j, (hj : j < l.length) → j < k + 1 → elsewhere l[j] = false) := Lib.hid fun he j hj hjk => by
        by_cases e : j = k
        · subst e; exact he
        · exact HALL.out j hj (by omega)
      have HE : Hid (elsewhere l[k] = decide (l[k].at_ ≠ 0 ∧ (l[k].at_ < 34 ∨ 511 < l[k].at_))) := Lib.hid rfl
      clear hx hb
      generalize elsewhere l[k] = q at *
      generalize l[k].at_ = a at *
      by_cases h0 : a = 0
      · have hq := HE.out
        rw [decide_eq_false (fun k => k.1 h0)] at hq
        have HF := Lib.hid (HS.out hq)
        subst h0
        clear hq
        go_wp2
        go_roundw
        case rel => exact ⟨k + 1, by omega, by go_num, HB.out, HF.out⟩
        case measure => simp [intOf] <;> omega
      · have q0 : (a != 0) = true := by rw [bne_iff_ne]; exact h0
        by_cases h1 : a < 34
        · have hq := HE.out
          rw [decide_eq_true ⟨h0, .inl h1⟩] at hq
          have hr := HV.out hq
          subst hr
          clear hq h0
          go_wp2
          go_ret
          exact ⟨rfl, HB.out⟩
        · by_cases h2 : 511 < a
          · have hq := HE.out
            rw [decide_eq_true ⟨h0, .inr h2⟩] at hq
            have hr := HV.out hq
            subst hr
            clear hq h0
            go_wp2
            go_ret
            exact ⟨rfl, HB.out⟩
          · have hq := HE.out
            rw [decide_eq_false (fun k => by omega)] at hq
            have HF := Lib.hid (HS.out hq)
            clear hq h0
            go_wp2
            go_roundw
            case rel => exact ⟨k + 1, by omega, by go_num, HB.out, HF.out⟩
            case measure => simp [intOf] <;> omega
    · obtain rfl : k = n := by omega
      have H1 : Hid (∀ j, (hj : j < l.length) → elsewhere l[j] = false) := Lib.hid fun j hj => HALL.out j hj (by rw [HN.out]; exact hj)
      clear V2 HALL hb
      go_wp2
      go_loopw [5] (fun i wr => ∃ i1 : Nat, i1 ≤ k ∧ i = .int .i64 i1 ∧ Below w.heap.size w wr ∧ ∀ i, (hi : i < l.length) → i < i1 → ∀ j, (hj : j < i) → l[i].at_ ≠ (l[j]'(by omega)).at_)
        (fun i _ => k - (intOf i).toNat)
      case atStart => exact ⟨0, Nat.zero_le _, rfl, HB.out, fun j _ h => by omega⟩
      case round =>
        obtain ⟨i1, hi1, rfl, hb2, hall2⟩ := hrel
        rename World => w2
        have HALL2 := Lib.hid hall2; have HB2 := Lib.hid hb2
        clear hall2
        by_cases hlt2 : i1 < k
        · have hk3 : i1 < l.length := by rw [← HN.out]; exact hlt2
          clear hb2
          go_wp2
          go_loopw [6] (fun i wr => ∃ j1 : Nat, j1 ≤ i1 ∧ i = .int .i64 j1 ∧ Below w.heap.size w wr ∧ ∀ j, (hj : j < i1) → j < j1 → l[i1].at_ ≠ (l[j]'(by omega)).at_)
            (fun i _ => i1 - (intOf i).toNat)
          case atStart => exact ⟨0, Nat.zero_le _, rfl, HB2.out, fun j _ h => by omega⟩
          case round =>
            obtain ⟨j1, hj1, rfl, hb3, hall3⟩ := hrel
            rename World => w3
            have HALL3 := Lib.hid hall3; have HB3 := Lib.hid hb3
            clear hall3
            by_cases hlt3 : j1 < i1
            · obtain ⟨bb, o, B, d, hAe, hx⟩ := H.out.below hb3 i1 hk3
              subst hAe
              obtain ⟨bb2, o2, B2, d2, hAe2, hx2⟩ := H.out.below hb3 j1 (by omega)
              injection hAe2 with hAe2; injection hAe2 with g1 g2
              subst g1; subst g2
              have e0 := hx.c0
              have e1 := hx2.c0
              have HV := Lib.hid (V5.out H1.out i1 j1 hk3 hlt3)
              have HS : Hid (l[i1].at_ ≠ (l[j1]'(by omega)).at_ → ∀ j, (hj : j < i1) → j < j1 + 1 → l[i1].at_ ≠ (l[j]'(by omega)).at_) := Lib.hid fun he j hj hjk => by
                by_cases e : j = j1
                · subst e; exact he
                · exact HALL3.out j hj (by omega)
              clear hx hx2 hb3
              generalize l[i1].at_ = a at *
              generalize (l[j1]'(by omega)).at_ = a2 at *
              by_cases haa : a = a2
              · have hr := HV.out haa
                subst hr
                have hq : (a == a2) = true := by simpa using haa
                clear haa
                go_wp2
                go_quiet (fail)
                go_wp2
                go_ret
                exact ⟨rfl, bstep HB3.out (bdraw _ _)⟩
              · have HF := Lib.hid (HS.out haa)
                have hq : (a == a2) = false := by simpa using haa
                clear haa
                go_wp2
                go_quiet (fail)
                go_wp2
                go_roundw
                case rel => exact ⟨j1 + 1, by omega, by go_num, bstep HB3.out (bdraw _ _), HF.out⟩
                case measure => simp [intOf] <;> omega
            · obtain rfl : j1 = i1 := by omega
              have HF : Hid (∀ i, (hi : i < l.length) → i < j1 + 1 → ∀ j, (hj : j < i) → l[i].at_ ≠ (l[j]'(by omega)).at_) := Lib.hid fun i hi hik j hj => by
                by_cases e : i = j1
                · subst e; exact HALL3.out j hj hj
                · exact HALL2.out i hi (by omega) j hj
              clear hb3
              go_wp2
              go_roundw
              case rel => exact ⟨j1 + 1, by omega, by go_num, HB3.out, HF.out⟩
              case measure => simp [intOf] <;> omega
        · obtain rfl : i1 = k := by omega
          have HT2 := Lib.hid (VT.out fun i hi => HALL2.out i hi (by rw [HN.out]; exact hi))
          clear HALL2 hb2 V5 VT
          go_wp2
          go_loopw [7] (fun i wr => ∃ k3 : Nat, k3 ≤ i1 ∧ i = .int .i64 k3 ∧ Below w.heap.size w wr ∧ ∀ j, (hj : j < l.length) → j < k3 → torn l[j] = false)
            (fun i _ => i1 - (intOf i).toNat)
          case atStart => exact ⟨0, Nat.zero_le _, rfl, HB2.out, fun j _ h => by omega⟩
          case round =>
            obtain ⟨k3, hk3, rfl, hb4, hall4⟩ := hrel
            rename World => w4
            have HALL4 := Lib.hid hall4; have HB4 := Lib.hid hb4
            clear hall4
            by_cases hlt4 : k3 < i1
            · have hk4 : k3 < l.length := by rw [← HN.out]; exact hlt4
              obtain ⟨bb, o, B, d, hAe, hx⟩ := H.out.below hb4 k3 hk4
              subst hAe
              have e1 := hx.c1
              have HV := Lib.hid (V3.out H1.out HT2.out k3 hk4)
              have HS : Hid (torn l[k3] = false → ∀ j, (hj : j < l.length) → j < k3 + 1 → torn l[j] = false) := Lib.hid fun he j hj hjk => by
                by_cases e : j = k3
                · subst e; exact he
                · exact HALL4.out j hj (by omega)
              have HE : Hid (torn l[k3] = decide (l[k3].data.length ≠ 0 ∧ l[k3].data.length ≠ 64)) := Lib.hid rfl
              clear hx hb4
              generalize torn l[k3] = q at *
              generalize l[k3].data.length = m at *
              by_cases h0 : m = 0
              · have hq := HE.out
                rw [decide_eq_false (fun k => k.1 h0)] at hq
                have HF := Lib.hid (HS.out hq)
                subst h0
                clear hq
                go_wp2
                go_roundw
                case rel => exact ⟨k3 + 1, by omega, by go_num, HB4.out, HF.out⟩
                case measure => simp [intOf] <;> omega
              · have q0 : ((m : Int) != 0) = true := by rw [bne_iff_ne]; omega
                by_cases h1 : m = 64
                · have hq := HE.out
                  rw [decide_eq_false (fun k => k.2 h1)] at hq
                  have HF := Lib.hid (HS.out hq)
                  subst h1
                  clear hq h0 q0
                  go_wp2
                  go_roundw
                  case rel => exact ⟨k3 + 1, by omega, by go_num, HB4.out, HF.out⟩
                  case measure => simp [intOf] <;> omega
                · have q1 : ((m : Int) != 64) = true := by rw [bne_iff_ne]; omega
                  have hq := HE.out
                  rw [decide_eq_true ⟨h0, h1⟩] at hq
                  have hr := HV.out hq
                  subst hr
                  clear hq h0 h1
                  go_wp2
                  go_ret
                  exact ⟨rfl, HB4.out⟩
            · obtain rfl : k3 = i1 := by omega
              have H3 : ∀ j, (hj : j < l.length) → torn l[j] = false := fun j hj => HALL4.out j hj (by rw [HN.out]; exact hj)
              have HEND := Lib.hid (VE.out H1.out HT2.out H3)
              have htm := HTM.out H3
              have C := Lib.hid (CT.out w4 (H.out.below HB4.out) fun x hx => by
                obtain ⟨j, hj, rfl⟩ := List.mem_iff_getElem.1 hx
                have := (torn_iff _).1 (H3 j hj)
                unfold okData at this
                omega)
              clear H3 HALL4 hb4 V3 VE CT
              generalize text l = T at *
              go_wp2_with fail
              refine C.out.mono ?_
              rintro e w5 ⟨v, rfl, ov, hb5⟩
              obtain ⟨X, d, hv, _, _, _⟩ := ov.bytes
              subst hv
              have HB5 := Lib.hid (bstep HB4.out hb5)
              clear ov hb5 C
              by_cases hT : T.length ≤ 1856
              · have hr := HEND.out
                rw [if_pos hT] at hr
                subst hr
                have hz : ¬ (1856 : Int) < (T.length : Nat) := by omega
                clear HEND hT
                go_wp2
                go_ret
                exact ⟨rfl, HB5.out⟩
              · have hr := HEND.out
                rw [if_neg hT] at hr
                subst hr
                have hz : (1856 : Int) < (T.length : Nat) := by omega
                clear HEND hT
                go_wp2
                go_ret
                exact ⟨rfl, HB5.out⟩
end Go.Proofs.YtapgpibindhlfaaGreat.R18

/- the document's own answers of layer 18: Put -/
set_option maxRecDepth 100000
namespace Go.Proofs.YtapgpibindhlfaaGreat.R18
open Go.RowKit EntM

theorem lit2_cells (x y : UInt8) : cells [x, y] = #[.int .u8 (x.toNat : Nat), .int .u8 (y.toNat : Nat)] := rfl
/-- a literal of two bytes, to append to -/
theorem own_lit2 (w : World) (B : Nat) (hB : B ≤ w.heap.size) (x y : UInt8) : Own (w.alloc (.cells #[.int .u8 (x.toNat : Nat), .int .u8 (y.toNat : Nat)] 5)) B (.slice (some ⟨w.heap.size, 0, none⟩) 2 2) [x, y] := by
  have := Row.new w [x, y]
  rw [lit2_cells] at this
  exact Own.of_row this hB (by simp; unfold maxLen; omega)
theorem byte_of (n : Nat) (h : n < 256) : ((UInt8.ofNat n).toNat : Int) = n := by
  rw [UInt8.toNat_ofNat_of_lt' (by simp only [UInt8.size]; omega)]
/-- the rows when k bodies are told -/
def putTo (T : List UInt8) (k : Nat) : List (List UInt8) := SecM.sec (head_ T) :: (List.range k).map fun i => SecM.sec (body_ T i)
theorem putTo_succ (T : List UInt8) (k : Nat) : putTo T (k + 1) = putTo T k ++ [SecM.sec (body_ T k)] := by unfold putTo; rw [List.range_succ]; simp
theorem putTo_len (T : List UInt8) (k : Nat) : (putTo T k).length = k + 1 := by unfold putTo; simp
theorem putTo_all (l : List Ch) : putTo (text l) (bodies (text l)) = put l := rfl
set_option maxHeartbeats 4000000 in
/-- a call that hands back rows, all their bytes new -/
def RetRowsN (w : World) (m : List (List UInt8)) (e : Ending) (w' : World) : Prop :=
  ∃ A c, e = .returned (.slice A m.length c) ∧ m.length ≤ c ∧ c ≤ maxLen ∧ RowsP (fun k => w.heap.size ≤ k) w' A m ∧ Below w.heap.size w w' ∧ New w A
theorem put_new (A : Option Addr) (l : List Ch) (c : Nat) (w : World) (h : ChsAt w A l) (hm : May l) :
    Calls Tryz.prog 33 #[.slice A l.length c] w (RetRowsN w (put l)) := by
  have CT := Lib.hid (text_any A l c w h (by have := hm.few; omega) fun x hx => by have := hm.data x hx; unfold okData at this; omega)
  have hbd := hm.bodies
  have hfit := hm.fit
  rw [← putTo_all]
  clear h
  generalize text l = T at *
  have HQ := Lib.hid (show (((T.length : Int) + 57) / 58) = (bodies T : Nat) from by unfold bodies; omega)
  have HBN : Hid (∀ k, k < bodies T → 58 * k < T.length) := Lib.hid fun k hk => by unfold bodies at hk; omega
  have HHD : Hid ([106, UInt8.ofNat (bodies T)] ++ PackM.numB 2 (T.length : Nat) ++ PackM.numB 4 (CrcM.sum T : Nat) = head_ T) := Lib.hid (by
    unfold head_ PackM.numB
    rw [show PackM.wid 2 = 2 from rfl, show PackM.wid 4 = 4 from rfl, Int.toNat_natCast, Int.toNat_natCast, List.append_assoc])
  have hsl := CrcM.sum_lt T
  have HBY := Lib.hid (byte_of (bodies T) (by omega))
  have CN2 := Lib.hid (fun W => num_own 2 (T.length : Nat) W (by omega))
  have CN4 := Lib.hid (fun W => num_own 4 (CrcM.sum T : Nat) W (by omega))
  have CSU := Lib.hid (fun W X d h => R05.sum_any X T d W h (by omega))
  have CSE := Lib.hid (fun W X d h => R15.seal_any X (head_ T) d W h (by rw [head_len]; omega))
  have CSB := Lib.hid (fun W X k d h => R15.seal_any X (body_ T k) d W h (body_len T k))
  have HL8 := Lib.hid (head_len T)
  have HZL := Lib.hid (SecM.sec_len (head_ T) (by rw [head_len]; omega))
  have HCH : Hid (∀ V a o k, BytesAt V (some ⟨a, o, none⟩) T → BytesAt V (some ⟨a, o + 58 * k, none⟩) (chunk T k)) := Lib.hid fun V a o k h => (h.drop (58 * k)).take 58
  have HCL : Hid (∀ k, (chunk T k).length = min (58 * k + 58) T.length - 58 * k) := Lib.hid fun k => by unfold chunk; rw [List.length_take, List.length_drop]; omega
  have HBD : Hid (∀ k, body_ T k = [98, UInt8.ofNat k] ++ chunk T k) := Lib.hid fun k => rfl
  obtain ⟨bd, hbdd⟩ : ∃ bd, bd = bodies T := ⟨_, rfl⟩
  rw [← hbdd] at HQ HBN HHD HBY hbd ⊢
  clear hbdd
  obtain ⟨tn, htn⟩ : ∃ tn, tn = T.length := ⟨_, rfl⟩
  rw [← htn] at HQ HBN HHD HCL CN2 hfit
  have HTN := Lib.hid htn
  clear htn
  generalize CrcM.sum T = S at *
  go_enter Tryz.func33, Tryz.ntmps33
  go_wp2_with fail
  refine CT.out.mono ?_
  rintro e w1 ⟨vT, rfl, oT, hb1⟩
  obtain ⟨XT, dt, hvT, ht1, ht2, hTX⟩ := oT.bytes
  rw [← HTN.out] at hvT ht1
  subst hvT
  have HTX := Lib.hid hTX
  have HB1 := Lib.hid hb1
  clear oT hTX hb1 CT
  have hq := HQ.out
  have hw8 : IntKind.u8.wrap (bd : Int) = bd := IntWalk.u8_in _ (by omega)
  go_wp2_with fail
  rw [hq]
  have ol := own_lit2 w1 w1.heap.size (Nat.le_refl _) 106 (UInt8.ofNat bd)
  rw [HBY.out, show (((106 : UInt8).toNat : Nat) : Int) = 106 from rfl] at ol
  have HOL := Lib.hid ol
  have HB2 := Lib.hid (balloc w1 (.cells #[.int .u8 106, .int .u8 (bd : Nat)] 5))
  clear ol hw8 hq
  generalize w1.alloc (.cells #[.int .u8 106, .int .u8 (bd : Nat)] 5) = w2 at *
  refine (CN2.out w2).mono ?_
  rintro e w3 ⟨vN, rfl, oN, hb3⟩
  obtain ⟨X3, d3, hvN, -, -, hX3⟩ := oN.bytes
  have L2 : (PackM.numB 2 (tn : Nat)).length = 2 := PackM.numB_len _ _
  rw [L2] at hvN
  subst hvN
  have HX3 := Lib.hid hX3
  have HO3 := Lib.hid (HOL.out.below hb3)
  have HB3 := Lib.hid (bstep HB2.out hb3)
  have HZ3 : Hid (w1.heap.size ≤ w3.heap.size) := Lib.hid HB3.out.size
  have HL2 := Lib.hid L2.symm
  have HS2 : Hid ([106, UInt8.ofNat bd].length + (PackM.numB 2 (tn : Nat)).length < 1099511627776) := Lib.hid (by rw [L2]; simp)
  have HN4 : Hid (([106, UInt8.ofNat bd] ++ PackM.numB 2 (tn : Nat)).length = 4) := Lib.hid (by rw [List.length_append, L2]; rfl)
  have C4 := Lib.hid (fun W h => CSU.out W XT dt h)
  clear oN hX3 hb3 HOL HB2 CN2 L2
  go_wp2_with (at_builtin; refine wpList_append_bytes rfl (.tmp 19) (.tmp 22) rfl w1.heap.size (.slice (some ⟨w1.heap.size, 0, none⟩) 2 2) [106, UInt8.ofNat bd] (PackM.numB 2 (tn : Nat)) rfl HO3.out X3 2 d3 rfl HL2.out HX3.out HS2.out HZ3.out ?_; intro v4 w4 own4 hb4; obtain ⟨A4, c4, hv4, _, _, _⟩ := own4.bytes; rw [HN4.out] at hv4; subst hv4; have HO4 := Lib.hid own4; have HB4 := Lib.hid (HB3.out.trans hb4); clear own4 hb4)
  have C4' := C4.out w4 (HTX.out.below HB4.out)
  rw [← HTN.out] at C4'
  refine C4'.mono ?_
  rintro e w5 ⟨rfl, rfl⟩
  have L4 : (PackM.numB 4 (S : Nat)).length = 4 := PackM.numB_len _ _
  have HL4 := Lib.hid L4.symm
  have HS4 : Hid (([106, UInt8.ofNat bd] ++ PackM.numB 2 (tn : Nat)).length + (PackM.numB 4 (S : Nat)).length < 1099511627776) := Lib.hid (by rw [HN4.out, L4]; simp)
  clear C4' C4 CSU HS2 HL2 HX3 HO3 HB3 HZ3
  go_wp2_with fail
  refine (CN4.out w4).mono ?_
  rintro e w6 ⟨vM, rfl, oM, hb6⟩
  obtain ⟨X6, d6, hvM, -, -, hX6⟩ := oM.bytes
  rw [L4] at hvM
  subst hvM
  have HX6 := Lib.hid hX6
  have HO6 := Lib.hid (HO4.out.below hb6)
  have HB6 := Lib.hid (bstep HB4.out hb6)
  have HZ6 : Hid (w1.heap.size ≤ w6.heap.size) := Lib.hid HB6.out.size
  clear oM hX6 hb6 HO4 CN4 L4
  go_wp2_with (at_builtin; refine wpList_append_bytes rfl (.tmp 24) (.tmp 28) rfl w1.heap.size (.slice A4 4 c4) ([106, UInt8.ofNat bd] ++ PackM.numB 2 (tn : Nat)) (PackM.numB 4 (S : Nat)) rfl HO6.out X6 4 d6 rfl HL4.out HX6.out HS4.out HZ6.out ?_; rw [HHD.out]; intro v7 w7 own7 hb7; obtain ⟨A7, c7, hv7, _, _, by7⟩ := own7.bytes; rw [HL8.out] at hv7; subst hv7; have HX7 := Lib.hid by7; have HB7 := Lib.hid (HB6.out.trans hb7); clear own7 by7 hb7)
  have C7 := CSE.out w7 A7 c7 HX7.out
  rw [HL8.out] at C7
  refine C7.mono ?_
  rintro e w8 ⟨A8, c8, rfl, q1, q2, q3, hb8, hn8⟩
  rw [HZL.out] at q1 ⊢
  have HX8 := Lib.hid q3
  have HB8 := Lib.hid (bstep HB7.out hb8)
  have hm8 := OwnT.lit (T := fun k => k < w1.heap.size) w8 w1.heap.size HB8.out.size (SecM.sec (head_ T)) A8 c8 (by rw [HZL.out]; exact q1) q2 q3 (fun _ a e h => by have := hn8 a e; have := HB7.out.size; omega) (fun k hk => Nat.lt_of_lt_of_le hk HB8.out.size)
  rw [HZL.out] at hm8
  have HM := Lib.hid hm8
  have HB9 := Lib.hid (bstep HB8.out (balloc w8 (.cells #[.slice A8 64 c8] 32)))
  clear C7 CSE q1 q2 q3 hb8 hn8 hm8 HX7 HB7 HX6 HO6 HB6 HZ6 HL4 HS4
  go_wp2_with fail
  have hp0 : OwnT (w8.alloc (.cells #[.slice A8 64 c8] 32)) w1.heap.size (fun k => k < w1.heap.size) (.slice (some ⟨w8.heap.size, 0, none⟩) 1 1) (putTo T 0) := HM.out
  have HP0 := Lib.hid hp0
  clear hp0 HM HHD HX8 HB8 HL8 HN4
  generalize w8.alloc (.cells #[.slice A8 64 c8] 32) = w9 at *
  go_loopw [6, 7] (fun v i wr => ∃ k : Nat, k ≤ bd ∧ i = .int .i64 k ∧ OwnT wr w1.heap.size (fun k => k < w1.heap.size) v (putTo T k) ∧ Below w1.heap.size w1 wr)
    (fun _ i _ => bd - (intOf i).toNat)
  case atStart => exact ⟨0, Nat.zero_le _, rfl, HP0.out, HB9.out⟩
  case round =>
    obtain ⟨k, hk, rfl, hown, hb⟩ := hrel
    rename World => wr
    have HO := Lib.hid hown; have HB := Lib.hid hb
    clear hown hb HP0
    by_cases hlt : k < bd
    · have h58 := HBN.out k hlt
      obtain ⟨bb, oo, eX, -⟩ := HTX.out (58 * k) (by rw [← HTN.out]; exact h58)
      subst eX
      have HKB := Lib.hid (show IntKind.u8.wrap (k : Int) = k from IntWalk.u8_in _ (by omega))
      have HZR : Hid (w1.heap.size ≤ wr.heap.size) := Lib.hid HB.out.size
      have ol := own_lit2 wr wr.heap.size (Nat.le_refl _) 98 (UInt8.ofNat k)
      rw [byte_of k (by omega), show (((98 : UInt8).toNat : Nat) : Int) = 98 from rfl] at ol
      have HOL := Lib.hid ol
      have HBL := Lib.hid (balloc wr (.cells #[.int .u8 98, .int .u8 (k : Nat)] 5))
      have HCX := Lib.hid ((HCH.out w1 bb oo k HTX.out).below (bstep HB.out HBL.out))
      have HBD2 := Lib.hid (HBD.out k).symm
      have HLK := Lib.hid (HCL.out k)
      clear ol
      have HZB := Lib.hid (SecM.sec_len (body_ T k) (body_len T k))
      by_cases hend : 58 * k + 58 ≤ tn
      · have HEN : Hid (58 * k + 58 - 58 * k = (chunk T k).length) := Lib.hid (by rw [HLK.out]; omega)
        have HEL : Hid ([98, UInt8.ofNat k].length + (chunk T k).length < 1099511627776) := Lib.hid (by rw [HLK.out]; simp only [List.length_cons, List.length_nil]; omega)
        go_wp2_with (at_builtin; refine wpList_append_bytes rfl (.tmp 49) (.tmp 54) rfl wr.heap.size (.slice (some ⟨wr.heap.size, 0, none⟩) 2 2) [98, UInt8.ofNat k] (chunk T k) rfl HOL.out _ _ _ rfl HEN.out HCX.out HEL.out HBL.out.size ?_; rw [HBD2.out]; intro v3 w3 own3 hb3; obtain ⟨A3, c3, hv3, _, _, by3⟩ := own3.bytes; subst hv3; have HX3 := Lib.hid by3; have HB3 := Lib.hid (HBL.out.trans hb3); clear own3 by3 hb3)
        refine (CSB.out w3 A3 k c3 HX3.out).mono ?_
        rintro e w4 ⟨A4, c4, rfl, q1, q2, q3, hb4, hn4⟩
        rw [HZB.out] at q1 ⊢
        have HX4 := Lib.hid (q3.alloc (.cells #[.slice A4 64 c4] 32))
        have HB5 := Lib.hid (bstep (bstep HB3.out hb4) (balloc w4 (.cells #[.slice A4 64 c4] 32)))
        have HO5 := Lib.hid (HO.out.below HB5.out)
        have HZ5 : Hid (w1.heap.size ≤ (w4.alloc (.cells #[.slice A4 64 c4] 32)).heap.size) := Lib.hid (Nat.le_trans HZR.out HB5.out.size)
        have HC5 : Hid ((w4.alloc (.cells #[.slice A4 64 c4] 32)).cell? ⟨w4.heap.size, 0, none⟩ = some (.slice A4 (SecM.sec (body_ T k)).length c4)) := Lib.hid (by rw [HZB.out]; exact Entry.lit1_cell w4 (.slice A4 64 c4) 32)
        have hzb := HB3.out.size
        have hown := HO.out.ownM.ownlt
        have HNE : Hid (∀ a, A4 = some a → u6.ownBlock ≠ some a.block ∧ ¬ a.block < w1.heap.size) := Lib.hid fun a e => ⟨fun e2 => by have h1 := (hown _ e2).2; have h2 := hn4 a e; omega, by have h2 := hn4 a e; have := HZR.out; omega⟩
        have Q1 : Hid ((SecM.sec (body_ T k)).length ≤ c4) := Lib.hid (by rw [HZB.out]; exact q1)
        have Q2 := Lib.hid q2
        clear hown hn4 q1 q2 q3 hb4 hzb
        go_wp2_with (at_builtin; refine wpList_append_rowT rfl (.tmp 56) (.tmp 59) rfl w1.heap.size (fun k => k < w1.heap.size) u6 (putTo T k) rfl HO5.out w4.heap.size 1 (SecM.sec (body_ T k)) A4 c4 rfl HC5.out Q1.out Q2.out HX4.out (fun _ a e => HNE.out a e) (fun k hk => Nat.lt_of_lt_of_le hk HZ5.out) (by rw [putTo_len]; omega) HZ5.out ?_; rw [← putTo_succ]; intro v6 w6 own6 hb6; have HO6 := Lib.hid own6; have HB6 := Lib.hid ((HB.out.trans (HB5.out.mono HZR.out)).trans hb6); clear own6 hb6)
        go_roundw
        case rel => exact ⟨k + 1, by omega, by go_num, HO6.out, HB6.out⟩
        case measure => simp [intOf] <;> omega
      · have HEN : Hid (tn - 58 * k = (chunk T k).length) := Lib.hid (by rw [HLK.out]; omega)
        have HEL : Hid ([98, UInt8.ofNat k].length + (chunk T k).length < 1099511627776) := Lib.hid (by rw [HLK.out]; simp only [List.length_cons, List.length_nil]; omega)
        go_wp2_with (at_builtin; refine wpList_append_bytes rfl (.tmp 49) (.tmp 54) rfl wr.heap.size (.slice (some ⟨wr.heap.size, 0, none⟩) 2 2) [98, UInt8.ofNat k] (chunk T k) rfl HOL.out _ _ _ rfl HEN.out HCX.out HEL.out HBL.out.size ?_; rw [HBD2.out]; intro v3 w3 own3 hb3; obtain ⟨A3, c3, hv3, _, _, by3⟩ := own3.bytes; subst hv3; have HX3 := Lib.hid by3; have HB3 := Lib.hid (HBL.out.trans hb3); clear own3 by3 hb3)
        refine (CSB.out w3 A3 k c3 HX3.out).mono ?_
        rintro e w4 ⟨A4, c4, rfl, q1, q2, q3, hb4, hn4⟩
        rw [HZB.out] at q1 ⊢
        have HX4 := Lib.hid (q3.alloc (.cells #[.slice A4 64 c4] 32))
        have HB5 := Lib.hid (bstep (bstep HB3.out hb4) (balloc w4 (.cells #[.slice A4 64 c4] 32)))
        have HO5 := Lib.hid (HO.out.below HB5.out)
        have HZ5 : Hid (w1.heap.size ≤ (w4.alloc (.cells #[.slice A4 64 c4] 32)).heap.size) := Lib.hid (Nat.le_trans HZR.out HB5.out.size)
        have HC5 : Hid ((w4.alloc (.cells #[.slice A4 64 c4] 32)).cell? ⟨w4.heap.size, 0, none⟩ = some (.slice A4 (SecM.sec (body_ T k)).length c4)) := Lib.hid (by rw [HZB.out]; exact Entry.lit1_cell w4 (.slice A4 64 c4) 32)
        have hzb := HB3.out.size
        have hown := HO.out.ownM.ownlt
        have HNE : Hid (∀ a, A4 = some a → u6.ownBlock ≠ some a.block ∧ ¬ a.block < w1.heap.size) := Lib.hid fun a e => ⟨fun e2 => by have h1 := (hown _ e2).2; have h2 := hn4 a e; omega, by have h2 := hn4 a e; have := HZR.out; omega⟩
        have Q1 : Hid ((SecM.sec (body_ T k)).length ≤ c4) := Lib.hid (by rw [HZB.out]; exact q1)
        have Q2 := Lib.hid q2
        clear hown hn4 q1 q2 q3 hb4 hzb
        go_wp2_with (at_builtin; refine wpList_append_rowT rfl (.tmp 56) (.tmp 59) rfl w1.heap.size (fun k => k < w1.heap.size) u6 (putTo T k) rfl HO5.out w4.heap.size 1 (SecM.sec (body_ T k)) A4 c4 rfl HC5.out Q1.out Q2.out HX4.out (fun _ a e => HNE.out a e) (fun k hk => Nat.lt_of_lt_of_le hk HZ5.out) (by rw [putTo_len]; omega) HZ5.out ?_; rw [← putTo_succ]; intro v6 w6 own6 hb6; have HO6 := Lib.hid own6; have HB6 := Lib.hid ((HB.out.trans (HB5.out.mono HZR.out)).trans hb6); clear own6 hb6)
        go_roundw
        case rel => exact ⟨k + 1, by omega, by go_num, HO6.out, HB6.out⟩
        case measure => simp [intOf] <;> omega
    · obtain rfl : k = bd := by omega
      go_wp2
      go_ret
      obtain ⟨A9, c9, rfl, r1, r2, r3, r4⟩ := HO.out.rowsP (P := fun k => w.heap.size ≤ k) fun k hk => by have := HB1.out.size; omega
      exact ⟨A9, c9, rfl, r1, r2, r3, bstep HB1.out HB.out, fun a e => Nat.le_trans HB1.out.size (r4 a e)⟩
theorem put_any (A : Option Addr) (l : List Ch) (c : Nat) (w : World) (h : ChsAt w A l) (hm : May l) :
    Calls Tryz.prog 33 #[.slice A l.length c] w (RetRows w (put l)) := by
  refine (put_new A l c w h hm).mono ?_
  rintro e w' ⟨X, d, h1, h2, h3, h4, h5, h6⟩
  exact ⟨X, d, h1, h2, h3, h4.rows, h5, h6⟩
end Go.Proofs.YtapgpibindhlfaaGreat.R18

/- the document's own answers of layer 18: Same, Are -/
set_option maxRecDepth 100000
namespace Go.Proofs.YtapgpibindhlfaaGreat.R18
open Go.RowKit EntM

/-- whether two lists of changes are the same -/
def sameC (a b : List Ch) : Bool := decide (a = b)
theorem sameC_self (a : List Ch) : sameC a a = true := by simp [sameC]
theorem sameC_len {a b : List Ch} (h : a.length ≠ b.length) : sameC a b = false := by
  unfold sameC; exact decide_eq_false fun e => h (by rw [e])
theorem are_not {ss : List (List UInt8)} {l : List Ch} (h : checkV l ≠ 0) : ¬ Are ss l := fun k => h ((checkV_may l).2 k.1)
theorem are_len {ss : List (List UInt8)} {l : List Ch} (h : ss.length < (put l).length) : ¬ Are ss l := fun k => by have := k.2.length_le; omega
theorem are_at {ss p : List (List UInt8)} {k : Nat} (h1 : k < ss.length) (h2 : k < p.length) (h : ss[k] ≠ p[k]) : ¬ p <+: ss := fun h3 => by
  obtain ⟨t, rfl⟩ := h3
  exact h (by rw [List.getElem_append_left h2])
theorem pre_all {ss p : List (List UInt8)} (_h : p.length ≤ ss.length) (e : ss.take p.length = p.take p.length) : p <+: ss := by
  rw [List.take_length] at e
  rw [List.prefix_iff_eq_take]
  exact e.symm
set_option maxHeartbeats 2000000 in
theorem are_any (S : Option Addr) (ss : List (List UInt8)) (cs : Nat) (A : Option Addr) (l : List Ch) (c : Nat) (w : World) (hS : RowsAt w S ss) (h : ChsAt w A l) (hl : l.length ≤ 15000) (hn : ss.length ≤ 1048576) (v : Bool) (hv : v = true ↔ Are ss l) :
    Calls Tryz.prog 75 #[.slice S ss.length cs, .slice A l.length c] w fun e w' => e = .returned (.bool v) ∧ Below w.heap.size w w' := by
  have CC := Lib.hid (check_any A l c w h hl)
  by_cases h0 : checkV l = 0
  · have q0 : (checkV l != 0) = false := by rw [h0]; rfl
    have hm := (checkV_may l).1 h0
    have CP := Lib.hid (fun W h => put_any A l c W h hm)
    have hpl : (put l).length = bodies (text l) + 1 := by rw [← putTo_all, putTo_len]
    have hpl2 : (put l).length ≤ 33 := by have := hm.bodies; omega
    have hv2 : v = true ↔ put l <+: ss := hv.trans ⟨fun k => k.2, fun k => ⟨hm, k⟩⟩
    have HV := Lib.hid hv2
    have H := Lib.hid h; have HS := Lib.hid hS
    rw [h0] at CC
    clear h hv hpl hm h0 hS hv2 q0
    generalize put l = p at *
    go_enter Tryz.func75, Tryz.ntmps75
    go_wp2_with fail
    refine CC.out.mono ?_
    rintro e w1 ⟨rfl, hb1⟩
    have HB1 := Lib.hid hb1
    clear hb1
    go_wp2_with fail
    refine (CP.out w1 (H.out.below HB1.out)).mono ?_
    rintro e w2 ⟨P, d, rfl, p1, p2, p3, hb2, -⟩
    have HB2 := Lib.hid (bstep HB1.out hb2)
    have HP := Lib.hid p3
    have HS2 := Lib.hid (HS.out.below HB2.out)
    clear p3 hb2 HB1 CC CP H HS
    by_cases hlen : ss.length < p.length
    · have hv : v = false := by
        cases v
        · rfl
        · have := (HV.out.1 rfl).length_le; omega
      subst hv
      go_wp2
      go_ret
      exact ⟨rfl, HB2.out⟩
    · have hle : p.length ≤ ss.length := by omega
      go_wp2
      go_loopw [6] (fun i wr => ∃ k n : Nat, k ≤ p.length ∧ i = .int .i64 k ∧ ss.take k = p.take k ∧ wr = w2.drewN n)
        (fun i _ => p.length - (intOf i).toNat)
      case atStart => exact ⟨0, 0, Nat.zero_le _, rfl, by rw [List.take_zero, List.take_zero], rfl⟩
      case round =>
        obtain ⟨k, n, hk, rfl, hs, hwr⟩ := hrel
        have HW := Lib.hid hwr; have HE := Lib.hid hs
        have h1 : RowsAt wr S ss := by rw [hwr]; exact HS2.out
        have h2 : RowsAt wr P p := by rw [hwr]; exact HP.out
        clear hwr hs
        by_cases hlt : k < p.length
        · have hlt2 : k < ss.length := by omega
          obtain ⟨b, o, B, cb, rfl, e1, l1, l1', p1'⟩ := h1.row hlt2
          obtain ⟨b2, o2, B2, cb2, rfl, e2, l2, l2', p2'⟩ := h2.row hlt
          have g1 : ss[k] = p[k] → ss.take (k + 1) = p.take (k + 1) := fun e => by
            rw [List.take_succ_eq_append_getElem hlt2, List.take_succ_eq_append_getElem hlt, HE.out, e]
          have g2 : ss[k] ≠ p[k] → v = false := fun e => by
            cases v
            · rfl
            · exact absurd (HV.out.1 rfl) (are_at hlt2 hlt e)
          have G1 := Lib.hid g1; have G2 := Lib.hid g2
          have P1 := Lib.hid p1'; have P2 := Lib.hid p2'
          clear g1 g2 h1 h2 p1' p2'
          generalize ss[k] = x at *
          generalize p[k] = y at *
          have C : ∀ W, BytesAt W B x → BytesAt W B2 y → Calls Tryz.prog 15 #[.slice B x.length cb, .slice B2 y.length cb2] W fun e w' => e = .returned (.bool (same x y)) ∧ ∃ n, w' = W.drewN n := fun W q1 q2 =>
            R01.same_any B B2 x y cb cb2 W q1 q2 (by omega) (by omega)
          by_cases hxy : x = y
          · have hf := G1.out hxy
            have HF := Lib.hid hf
            have hsm : same x y = true := by rw [hxy]; exact same_self y
            rw [hsm] at C
            have HC := Lib.hid C
            clear hxy hf hsm C
            go_wp2
            go_quiet ((go_at_call 15; exact Calls.quiet_of (HC.out _ (P1.out.drewN _) (P2.out.drewN _))))
            go_wp2
            go_roundw
            case rel => exact ⟨k + 1, n + nq, by omega, by go_num, HF.out, by rw [HW.out, World.drewN_drewN]⟩
            case measure => simp [intOf] <;> omega
          · have hv := G2.out hxy
            subst hv
            have hsm : same x y = false := by unfold same; exact decide_eq_false hxy
            rw [hsm] at C
            have HC := Lib.hid C
            clear hxy hsm C
            go_wp2
            go_quiet ((go_at_call 15; exact Calls.quiet_of (HC.out _ (P1.out.drewN _) (P2.out.drewN _))))
            go_wp2
            go_ret
            exact ⟨rfl, by rw [HW.out, World.drewN_drewN]; exact bstep HB2.out (bdraw _ _)⟩
        · obtain rfl : k = p.length := by omega
          have hv : v = true := HV.out.2 (pre_all hle HE.out)
          subst hv
          clear h1 h2
          go_wp2
          go_ret
          exact ⟨rfl, by rw [HW.out]; exact bstep HB2.out (bdraw _ _)⟩
  · have q0 : (checkV l != 0) = true := by rw [bne_iff_ne]; exact h0
    have hvf : v = false := by
      cases v
      · rfl
      · exact absurd (hv.1 rfl) (are_not h0)
    subst hvf
    clear hv h hS h0
    generalize checkV l = r at *
    go_enter Tryz.func75, Tryz.ntmps75
    go_wp2_with fail
    refine CC.out.mono ?_
    rintro e w1 ⟨rfl, hb1⟩
    have HB1 := Lib.hid hb1
    clear hb1
    go_wp2
    go_ret
    exact ⟨rfl, HB1.out⟩
end Go.Proofs.YtapgpibindhlfaaGreat.R18

/- the document's own answers of layer 18: Get -/
set_option maxRecDepth 100000
namespace Go.Proofs.YtapgpibindhlfaaGreat.R18
open Go.RowKit EntM SupM

/-- what a sector's body says, if it is sealed -/
def said1 (s : List UInt8) : List UInt8 := if SecM.opens s then s.drop 2 |>.take 58 else []
def flatK (ss : List (List UInt8)) (k : Nat) : List UInt8 := (((ss.take k).drop 1).map said1).flatten
theorem flatK_one (ss : List (List UInt8)) : flatK ss 1 = [] := by
  unfold flatK
  cases ss <;> simp
theorem flatK_succ {ss : List (List UInt8)} {k : Nat} (h : k < ss.length) (h1 : 1 ≤ k) : flatK ss (k + 1) = flatK ss k ++ said1 ss[k] := by
  unfold flatK
  rw [List.take_succ_eq_append_getElem h, List.drop_append_of_le_length (by rw [List.length_take]; omega), List.map_append, List.flatten_append]
  simp
theorem flatK_all {ss : List (List UInt8)} {k : Nat} (h : ss.length ≤ k) : flatK ss k = flat ss := by
  unfold flatK
  rw [List.take_of_length_le h]; rfl
theorem said1_len (s : List UInt8) : (said1 s).length ≤ 58 := by
  unfold said1
  split
  · rw [List.length_take]; omega
  · simp
theorem flatK_len (ss : List (List UInt8)) (k : Nat) : (flatK ss k).length ≤ 58 * ss.length := by
  unfold flatK
  have : ∀ l : List (List UInt8), ((l.map said1).flatten).length ≤ 58 * l.length := fun l => by
    induction l with
    | nil => simp
    | cons x t ih => have := said1_len x; simp at ih ⊢; omega
  refine Nat.le_trans (this _) ?_
  rw [List.length_drop, List.length_take]; omega
theorem said1_open {s : List UInt8} (h : SecM.opens s = true) : R15.openOf s = s.take 60 ∧ said1 s = (s.take 60).drop 2 := by
  unfold R15.openOf said1
  rw [h]
  exact ⟨rfl, by rw [if_pos rfl, List.drop_take]⟩
theorem said1_not {s : List UInt8} (h : SecM.opens s = false) : R15.openOf s = [] ∧ said1 s = [] := by
  unfold R15.openOf said1
  rw [h]
  exact ⟨rfl, rfl⟩
theorem keep_ra {F : Nat → Prop} {w w' : World} {g : Nat} {A : Option Addr} {c : Nat} {b : List UInt8} {s : PackM.St} (h : R06.RAt w g A c b s) (q : Keeps F w w') (hg : ¬ F g) (hA : 0 < b.length → ∀ a, A = some a → ¬ F a.block) : R06.RAt w' g A c b s :=
  ⟨q.cell h.cb hg, q.cell h.ca hg, q.cell h.cd hg, q.frozen h.ca hg h.f1, q.frozen h.cd hg h.f2, q.bytes' h.bytes hA, h.ne, h.ok, h.cap, h.cap2⟩
theorem ra_new {w : World} {X : Option Addr} {b : List UInt8} {d : Nat} (h : BytesAt w X b) (h1 : b.length ≤ d) (h2 : d ≤ maxLen) (t : TypeId) : R06.RAt (w.alloc (.cells #[.slice X b.length d, .int .i64 0, .bool false] t)) w.heap.size X d b st0 :=
  ⟨by simp, by simp [st0], by simp [st0], by simp, by simp, h.alloc _, fun h0 a e => Nat.ne_of_lt (h.lt h0 a e), Nat.zero_le _, h1, h2⟩
/-- where a reading of changes is: k of them told, the reader's block, the bytes it reads -/
structure Rg (w0 w : World) (g : Nat) (A : Option Addr) (c : Nat) (b : List UInt8) (k : Nat) (v : Value) : Prop where
  own : OwnC w w0.heap.size (fun j => j < w0.heap.size) v (saidTo b k).1
  rd : R06.RAt w g A c b (saidTo b k).2
  keeps : Keeps (fun j => j = g ∨ w0.heap.size ≤ j) w0 w
  good : ∀ j, j < k → (saidTo b j).2.bad = false
/-- in the middle of a round: a change's own block beside it -/
structure Rm (w0 w : World) (g : Nat) (A : Option Addr) (c : Nat) (b : List UInt8) (s : PackM.St) (l : List Ch) (v : Value) (p : Nat) (a : Int) (u : Value) : Prop where
  own : OwnC w w0.heap.size (fun j => j < w0.heap.size ∨ j = p) v l
  rd : R06.RAt w g A c b s
  keeps : Keeps (fun j => j = g ∨ w0.heap.size ≤ j) w0 w
  c0 : w.cell? ⟨p, 0, none⟩ = some (.int .i64 a)
  c1 : w.cell? ⟨p, 1, none⟩ = some u
  f0 : w.frozen? ⟨p, 0, none⟩ = false
  f1 : w.frozen? ⟨p, 1, none⟩ = false
  low : w0.heap.size ≤ p
  np : v.ownBlock ≠ some p
theorem Rm.next {w0 w w' : World} {g c : Nat} {A : Option Addr} {b : List UInt8} {s s' : PackM.St} {l : List Ch} {v : Value} {p : Nat} {a : Int} {u : Value} (h : Rm w0 w g A c b s l v p a u) (hg : g < w0.heap.size) (k1 : R06.RAt w' g A c b s') (k2 : w.grownBy w' (some g)) : Rm w0 w' g A c b s' l v p a u := by
  have q : Keeps (fun j => j = g) w w' := .grow k2 rfl
  have hp : ¬ p = g := by have := h.low; omega
  exact ⟨h.own.keep q (fun _ e => .inl (by subst e; exact hg)), k1, h.keeps.trans (.grow k2 (.inl rfl)), q.cell h.c0 hp, q.cell h.c1 hp, q.frozen h.c0 hp h.f0, q.frozen h.c1 hp h.f1, h.low, h.np⟩
theorem Rm.start {w0 w : World} {g c : Nat} {A : Option Addr} {b : List UInt8} {s : PackM.St} {l : List Ch} {v : Value} (h1 : OwnC w w0.heap.size (fun j => j < w0.heap.size) v l) (h2 : R06.RAt w g A c b s) (h3 : Keeps (fun j => j = g ∨ w0.heap.size ≤ j) w0 w) (a : Int) (u : Value) (t : TypeId) :
    Rm w0 (w.alloc (.cells #[.int .i64 a, u] t)) g A c b s l v w.heap.size a u :=
  ⟨(h1.more (G' := fun j => j < w0.heap.size ∨ j = w.heap.size) fun k hk => by rcases hk with hk | hk; exact .inl hk; exact .inr (by omega)).below (balloc _ _), h2.below (balloc _ _), h3.trans (.of_below _ (balloc _ _)), by simp, by simp, by simp, by simp, h3.size, fun e => by have := (h1.lt _ e).2; omega⟩
/-- what a round's end gives: the change behind the others, and the reader as it was -/
theorem Rm.done {w0 w w1 w' : World} {g c : Nat} {A : Option Addr} {b : List UInt8} {s : PackM.St} {l l' : List Ch} {v v' : Value} {p : Nat} {a : Int} {u : Value} (h : Rm w0 w g A c b s l v p a u) (hg : g < w0.heap.size) (hA : 0 < b.length → ∀ a, A = some a → a.block < w0.heap.size)
    (hq : Keeps (fun j => w0.heap.size ≤ j) w w1) (hgr : w1.grownBy w' v.ownBlock) (_ho : OwnC w' w0.heap.size (fun j => j < w0.heap.size ∨ j = p) v' l') : OwnC w' w0.heap.size (fun j => j < w0.heap.size) v' l' ∧ R06.RAt w' g A c b s ∧ Keeps (fun j => j = g ∨ w0.heap.size ≤ j) w0 w' := by
  have q2 : Keeps (fun j => w0.heap.size ≤ j) w1 w' := ⟨hgr.os, hgr.tape, hgr.output, hgr.size, fun k hk hn => hgr.block k hk (fun e => hn (h.own.lt _ e.symm).1)⟩
  have q := hq.trans q2
  exact ⟨_ho.more fun k hk => .inl (.inl hk), keep_ra h.rd q (by omega) (fun h0 a e => by have := hA h0 a e; omega), h.keeps.trans (q.mono fun _ _ h => .inr h)⟩
theorem got_bad {ss : List (List UInt8)} {l : List Ch} {bad : Bool} (h : Said (flat ss) l bad) (e : bad = true) : Got ss [] false :=
  .inr ⟨rfl, rfl, fun m hm => by
    have := (hm.flat h).2
    rw [e] at this; cases this⟩
theorem are_bool (ss : List (List UInt8)) (l : List Ch) : ∃ v : Bool, v = true ↔ Are ss l := by
  by_cases h : Are ss l
  · exact ⟨true, fun _ => h, fun _ => rfl⟩
  · exact ⟨false, fun k => (by cases k), fun k => absurd k h⟩
theorem got_of {ss : List (List UInt8)} {l : List Ch} {bad v : Bool} (h : Said (flat ss) l bad) (hv : v = true ↔ Are ss l) : (bad = true → Got ss [] false) ∧ (bad = false → v = true → Got ss l true) ∧ (bad = false → v = false → Got ss [] false) := by
  refine ⟨fun e => .inr ⟨rfl, rfl, fun m hm => ?_⟩, fun _ e => .inl ⟨rfl, hv.1 e⟩, fun _ e => .inr ⟨rfl, rfl, fun m hm => ?_⟩⟩
  · have := (hm.flat h).2
    rw [e] at this; cases this
  · have e1 := (hm.flat h).1
    subst e1
    rw [hv.2 hm] at e; cases e
set_option maxHeartbeats 4000000 in
theorem get_new (A : Option Addr) (ss : List (List UInt8)) (c : Nat) (w : World) (h : RowsAt w A ss) (hn : ss.length ≤ 200) (hl : ∀ x ∈ ss, x.length ≤ 1048576) :
    Calls Tryz.prog 39 #[.slice A ss.length c] w (Entry.RetGotN w ss) := by
  have H := Lib.hid h
  have HL := Lib.hid hl
  clear h hl
  go_enter Tryz.func39, Tryz.ntmps39
  go_wp2_with fail
  go_loopw [4, 5] (fun v i wr => ∃ k : Nat, 1 ≤ k ∧ (k ≤ ss.length ∨ k = 1) ∧ i = .int .i64 k ∧ Own wr w.heap.size v (flatK ss k) ∧ Below w.heap.size w wr)
    (fun _ i _ => ss.length - (intOf i).toNat)
  case atStart => exact ⟨1, Nat.le_refl _, .inr rfl, rfl, by rw [flatK_one]; exact Own.nil _ _, Below.refl _ _⟩
  case round =>
    obtain ⟨k, hk1, hk, rfl, hown, hb⟩ := hrel
    rename World => w1
    have HO := Lib.hid hown; have HB := Lib.hid hb
    clear hown hb
    by_cases hlt : k < ss.length
    · obtain ⟨b, o, B, cb, rfl, e1, l1, l1', pb⟩ := (H.out.below HB.out).row hlt
      have hxl := HL.out ss[k] (List.getElem_mem hlt)
      have CO := Lib.hid (R15.open_any B ss[k] cb w1 pb l1 (by omega) l1')
      have HF := Lib.hid (flatK_succ hlt hk1)
      have HFL := Lib.hid (flatK_len ss k)
      clear pb hk
      generalize ss[k] = x at *
      have HB1 : Hid (w.heap.size ≤ w1.heap.size) := Lib.hid HB.out.size
      rcases ho : SecM.opens x with _ | _
      · have h0 := (said1_not ho).2
        rw [h0, List.append_nil] at HF
        have h1 := (said1_not ho).1
        rw [ho, h1] at CO
        clear h0 h1 ho
        go_wp2_with fail
        refine CO.out.mono ?_
        rintro e w2 ⟨X, d, rfl, q1, q2, q3, hb2⟩
        have HO2 := Lib.hid (HO.out.below hb2)
        have HB2 := Lib.hid (bstep HB.out hb2)
        clear q3 hb2 CO
        go_wp2
        go_roundw
        case rel => exact ⟨k + 1, by omega, .inl (by omega), by go_num, by rw [HF.out]; exact HO2.out, HB2.out⟩
        case measure => simp [intOf] <;> omega
      · have h0 := (said1_open ho).2
        have h1 := (said1_open ho).1
        have h64 : x.length = 64 := of_decide_eq_true ((Bool.and_eq_true _ _).mp ho).1
        have hs60 : (x.take 60).length = 60 := by rw [List.length_take]; omega
        rw [ho, h1, hs60] at CO
        have HSL : Hid (58 = (said1 x).length) := Lib.hid (by rw [h0, List.length_drop, hs60])
        have HSD : Hid (∀ V bb oo, BytesAt V (some ⟨bb, oo, none⟩) (x.take 60) → BytesAt V (some ⟨bb, oo + 2, none⟩) (said1 x)) := Lib.hid fun V bb oo h => by rw [h0]; exact h.drop 2
        have HS60 := Lib.hid hs60
        clear h0 h1 ho h64 hs60
        go_wp2_with fail
        refine CO.out.mono ?_
        rintro e w2 ⟨X, d, rfl, q1, q2, q3, hb2⟩
        obtain ⟨bb, oo, rfl, -⟩ := q3 0 (by rw [HS60.out]; omega)
        have HX2 := Lib.hid (HSD.out w2 bb oo q3)
        have HO2 := Lib.hid (HO.out.below hb2)
        have HB2 := Lib.hid (bstep HB.out hb2)
        have HLL : Hid ((flatK ss k).length + (said1 x).length < 1099511627776) := Lib.hid (by rw [← HSL.out]; have := HFL.out; omega)
        clear q3 hb2 CO
        go_wp2_with (at_builtin; refine wpList_append_bytes rfl (.tmp 28) (.tmp 30) rfl w.heap.size u4 (flatK ss k) (said1 x) rfl HO2.out _ _ _ rfl HSL.out HX2.out HLL.out HB2.out.size ?_; rw [← HF.out]; intro v3 w3 own3 hb3; have HO3 := Lib.hid own3; have HB3 := Lib.hid (HB2.out.trans hb3); clear own3 hb3)
        go_roundw
        case rel => exact ⟨k + 1, by omega, .inl (by omega), by go_num, HO3.out, HB3.out⟩
        case measure => simp [intOf] <;> omega
    · have HA := Lib.hid (flatK_all (ss := ss) (k := k) (by omega))
      obtain ⟨X, d, hX, q1, q2, q3⟩ := HO.out.bytes
      have htl := flatK_len ss k
      rw [HA.out] at hX q1 q3 htl
      subst hX
      have Q1 := Lib.hid q1; have Q2 := Lib.hid q2; have Q3 := Lib.hid q3
      clear hk q1 q2 q3
      have ra := ra_new Q3.out Q1.out Q2.out 107
      have HRA := Lib.hid ra
      have HB2 := Lib.hid (bstep HB.out (balloc w1 (.cells #[.slice X (flat ss).length d, .int .i64 0, .bool false] 107)))
      have HAL : Hid (0 < (flat ss).length → ∀ a, X = some a → a.block < (w1.alloc (.cells #[.slice X (flat ss).length d, .int .i64 0, .bool false] 107)).heap.size) := Lib.hid fun h0 a e => by
        have := Q3.out.lt h0 a e
        simp; omega
      have hg2 : w1.heap.size < (w1.alloc (.cells #[.slice X (flat ss).length d, .int .i64 0, .bool false] 107)).heap.size := by simp
      have HG := Lib.hid hg2
      have hgw : w.heap.size ≤ w1.heap.size := HB.out.size
      have HSL : Hid (∀ l bad, Said (flat ss) l bad → l.length ≤ 15000) := Lib.hid fun l bad h => by have := h.len; omega
      have HGF : Hid (∀ l bad (v : Bool), Said (flat ss) l bad → (v = true ↔ Are ss l) → (bad = true → Got ss [] false) ∧ (bad = false → v = true → Got ss l true) ∧ (bad = false → v = false → Got ss [] false)) := Lib.hid fun l bad v h hv => got_of h hv
      have HGB : Hid (∀ l bad, Said (flat ss) l bad → bad = true → Got ss [] false) := Lib.hid fun l bad h e => got_bad h e
      have HSD : Hid (∀ k, k ≤ PackM.numV (flat ss) st0 2 → (∀ j, j < k → (saidTo (flat ss) j).2.bad = false) → (k = PackM.numV (flat ss) st0 2 ∨ (saidTo (flat ss) k).2.bad = true) → Said (flat ss) (saidTo (flat ss) k).1 (saidTo (flat ss) k).2.bad) := Lib.hid fun k h1 h2 h3 => ⟨k, rfl, rfl, h1, h2, h3⟩
      have hbl : (flat ss).length ≤ 1048576 := by omega
      have hnv : PackM.numV (flat ss) st0 2 < 4294967296 := PackM.numV_lt _ _ _
      have CN := Lib.hid (fun W s h => R06.rnum_any w1.heap.size X d (flat ss) s 2 W h (by omega))
      have CN1 := Lib.hid (fun W s h => R06.rnum_any w1.heap.size X d (flat ss) s 1 W h (by omega))
      have CRW := Lib.hid (fun W s h => R06.raw_any w1.heap.size X d (flat ss) s 64 W h (by omega) (by omega))
      have CAR := Lib.hid (fun W L l dl v hS hL hll hv => are_any A ss c L l dl W hS hL hll (by omega) v hv)
      clear ra hg2 htl HA HO
      generalize flat ss = b at *
      go_wp2_with fail
      obtain ⟨g, hgg⟩ : ∃ g, g = w1.heap.size := ⟨_, rfl⟩
      rw [← hgg] at HRA HG CN CN1 CRW hgw ⊢
      generalize w1.alloc (.cells #[.slice X b.length d, .int .i64 0, .bool false] 107) = w2 at *
      clear hgg HB Q1 Q2 Q3
      refine (CN.out w2 _ HRA.out).mono ?_
      rintro e w3 ⟨rfl, k1, k2⟩
      have HR0 : Hid (Rg w2 w3 g X d b 0 (.slice none 0 0)) := Lib.hid ⟨OwnC.nil _ _ _, k1, .grow k2 (.inl rfl), fun j hj => absurd hj (by omega)⟩
      clear k1 k2 HRA
      obtain ⟨n, hnn⟩ : ∃ n, n = PackM.numV b st0 2 := ⟨_, rfl⟩
      rw [← hnn] at HSD hnv ⊢
      clear hnn
      go_wp2_with fail
      go_loopw [10, 11] (fun v i wr => ∃ (m : Nat) (Y : Option Addr) (cy : Nat), m ≤ n ∧ i = .int .i64 m ∧ v = .slice Y m cy ∧ Rg w2 wr g X d b m (.slice Y m cy))
        (fun _ i _ => n - (intOf i).toNat)
      case atStart => exact ⟨0, none, 0, Nat.zero_le _, rfl, rfl, HR0.out⟩
      case round =>
        obtain ⟨m, Y, cy, hm, rfl, rfl, hr⟩ := hrel
        rename World => w4
        have HR := Lib.hid hr
        have cdd := hr.rd.cd
        obtain ⟨bad, hbad⟩ : ∃ q, q = (saidTo b m).2.bad := ⟨_, rfl⟩
        rw [← hbad] at cdd
        have HBAD := Lib.hid hbad
        clear hbad hr HR0
        by_cases hlt : m < n
        · cases bad
          · have HGO : Hid (∀ j, j < m + 1 → (saidTo b j).2.bad = false) := Lib.hid fun j hj => by
              by_cases e : j = m
              · subst e; exact HBAD.out.symm
              · exact HR.out.good j (by omega)
            have HST : Hid (saidTo b (m + 1) = stp b (saidTo b m)) := Lib.hid rfl
            have HSL := Lib.hid (saidTo_len b m)
            have HOW := Lib.hid HR.out.own
            have HRD := Lib.hid HR.out.rd
            have HKP : Hid (Keeps (fun j => j = g ∨ w2.heap.size ≤ j) w2 w4) := Lib.hid HR.out.keeps
            have hst := HST.out
            have HKE : Hid (∀ wr (v : Value), OwnC wr w2.heap.size (fun j => j < w2.heap.size) v (saidTo b (m + 1)).1 → R06.RAt wr g X d b (saidTo b (m + 1)).2 → Keeps (fun j => j = g ∨ w2.heap.size ≤ j) w2 wr → Rg w2 wr g X d b (m + 1) v) := Lib.hid fun wr v h1 h2 h3 => ⟨h1, h2, h3, HGO.out⟩
            clear HR HBAD
            generalize saidTo b (m + 1) = S1 at *
            generalize saidTo b m = S0 at *
            obtain ⟨l, s⟩ := S0
            simp only at HOW HRD HSL hst
            have hay : PackM.numV b (PackM.numS b s 2) 1 = 1 → S1 = (l ++ [⟨(PackM.numV b s 2 : Nat), PackM.rawL b (PackM.numS b (PackM.numS b s 2) 1) 64⟩], PackM.rawS b (PackM.numS b (PackM.numS b s 2) 1) 64) := fun h => hst.trans (Entry.stp_yes b l s h)
            have han : ¬ PackM.numV b (PackM.numS b s 2) 1 = 1 → S1 = (l ++ [⟨(PackM.numV b s 2 : Nat), []⟩], PackM.numS b (PackM.numS b s 2) 1) := fun h => hst.trans (Entry.stp_no b l s h)
            have HAY := Lib.hid hay; have HAN := Lib.hid han
            have hai := PackM.numV_lt b s 2
            have C1 := Lib.hid (CN.out w4 s HRD.out)
            have C2 := Lib.hid (fun W h => CN1.out W (PackM.numS b s 2) h)
            have C3 := Lib.hid (fun W h => CRW.out W (PackM.numS b (PackM.numS b s 2) 1) h)
            clear hst hay han HGO
            generalize PackM.rawL b (PackM.numS b (PackM.numS b s 2) 1) 64 = D at *
            generalize PackM.rawS b (PackM.numS b (PackM.numS b s 2) 1) 64 = s3 at *
            generalize PackM.numV b (PackM.numS b s 2) 1 = f at *
            generalize PackM.numS b (PackM.numS b s 2) 1 = s2 at *
            generalize PackM.numS b s 2 = s1 at *
            generalize PackM.numV b s 2 = a at *
            have HAI : Hid (AtIn ((a : Nat) : Int)) := Lib.hid (by unfold AtIn; omega)
            clear hai
            go_wp2_with fail
            refine C1.out.mono ?_
            rintro e w5 ⟨rfl, k1, k2⟩
            have q : Keeps (fun j => j = g) w4 w5 := .grow k2 rfl
            have HM0 := Lib.hid (Rm.start (HOW.out.keep q (fun _ e => by subst e; exact HG.out)) k1 (HKP.out.trans (.grow k2 (.inl rfl))) (a : Nat) (.slice none 0 0) 49)
            clear k1 k2 q C1 HOW HRD HKP cdd
            go_wp2_with fail
            obtain ⟨p, hp⟩ : ∃ p, p = w5.heap.size := ⟨_, rfl⟩
            rw [← hp] at HM0 ⊢
            generalize w5.alloc (.cells #[.int .i64 (a : Nat), .slice none 0 0] 49) = w6 at *
            clear hp
            refine (C2.out w6 HM0.out.rd).mono ?_
            rintro e w7 ⟨rfl, k1, k2⟩
            have HM1 := Lib.hid (HM0.out.next HG.out k1 k2)
            clear k1 k2 HM0 C2
            by_cases hf : f = 1
            · subst hf
              have hs1 := HAY.out rfl
              subst hs1
              simp only at HKE
              clear HAY HAN HST
              go_wp2_with fail
              refine (C3.out w7 HM1.out.rd).mono ?_
              rintro e w8 ⟨Z, dz, rfl, y1, y4, y2, y3, k1, k2⟩
              have HM2 := Lib.hid (HM1.out.next HG.out k1 k2)
              have hg6 : w2.heap.size ≤ w7.heap.size := HM1.out.keeps.size
              have hp6 := cell_lt HM1.out.c0
              simp only at hp6
              have hplow := HM1.out.low
              have hown6 := HM1.out.own.lt
              have hgl := HG.out
              have c1 := HM2.out.c1; have f1 := HM2.out.f1; have c0 := HM2.out.c0
              have qs : Keeps (fun j => j = p) w8 (w8.setCell ⟨p, 1, none⟩ (.slice Z D.length dz)) := .set _ _ _ _ rfl
              have hb8 : BytesAt (w8.setCell ⟨p, 1, none⟩ (.slice Z D.length dz)) Z D := y1.far' _ _ fun h0 x e => by
                have := y4 x e; simp only; omega
              have HB9 := Lib.hid (hb8.alloc (.cells #[.int .i64 (a : Nat), .slice Z D.length dz] 49))
              have hg7 : g < w8.heap.size := by have := HM2.out.keeps.size; omega
              have hp7 : p < w8.heap.size := cell_lt HM2.out.c0
              have e7 : (w8.setCell ⟨p, 1, none⟩ (.slice Z D.length dz)).heap.size = w8.heap.size := by simp
              have hlit := Entry.lit_cells (w8.setCell ⟨p, 1, none⟩ (.slice Z D.length dz)) (a : Nat) (.slice Z D.length dz) 49
              rw [e7] at hlit
              have HO := Lib.hid ((HM2.out.own.keep qs (fun j e => .inr e)).below (balloc _ (.cells #[.int .i64 (a : Nat), .slice Z D.length dz] 49)))
              have HC0 : Hid (((w8.setCell ⟨p, 1, none⟩ (.slice Z D.length dz)).alloc (.cells #[.int .i64 (a : Nat), .slice Z D.length dz] 49)).cell? ⟨w8.heap.size, 0, none⟩ = some (.int .i64 (a : Nat))) := Lib.hid hlit.1
              have HC1 : Hid (((w8.setCell ⟨p, 1, none⟩ (.slice Z D.length dz)).alloc (.cells #[.int .i64 (a : Nat), .slice Z D.length dz] 49)).cell? ⟨w8.heap.size, 1, none⟩ = some (.slice Z D.length dz)) := Lib.hid hlit.2
              have HNEW : Hid (0 < D.length → ∀ x, Z = some x → (Value.slice Y m cy).ownBlock ≠ some x.block ∧ ¬ (x.block < w2.heap.size ∨ x.block = p)) := Lib.hid fun h0 x e => by
                have h1 := y4 x e
                exact ⟨fun e => by have := (hown6 _ e).2; omega, by omega⟩
              have HGS : Hid (∀ j, (j < w2.heap.size ∨ j = p) → j < ((w8.setCell ⟨p, 1, none⟩ (.slice Z D.length dz)).alloc (.cells #[.int .i64 (a : Nat), .slice Z D.length dz] 49)).heap.size) := Lib.hid fun j hj => by
                have e8 : ((w8.setCell ⟨p, 1, none⟩ (.slice Z D.length dz)).alloc (.cells #[.int .i64 (a : Nat), .slice Z D.length dz] 49)).heap.size = w8.heap.size + 1 := by simp
                have := HM2.out.keeps.size
                omega
              have HBS : Hid (w2.heap.size ≤ ((w8.setCell ⟨p, 1, none⟩ (.slice Z D.length dz)).alloc (.cells #[.int .i64 (a : Nat), .slice Z D.length dz] 49)).heap.size) := Lib.hid (by
                have e8 : ((w8.setCell ⟨p, 1, none⟩ (.slice Z D.length dz)).alloc (.cells #[.int .i64 (a : Nat), .slice Z D.length dz] 49)).heap.size = w8.heap.size + 1 := by simp
                have := HM2.out.keeps.size
                omega)
              have HDONE : Hid (∀ (v' : Value) (w' : World), OwnC w' w2.heap.size (fun j => j < w2.heap.size ∨ j = p) v' (l ++ [⟨(a : Nat), D⟩]) → ((w8.setCell ⟨p, 1, none⟩ (.slice Z D.length dz)).alloc (.cells #[.int .i64 (a : Nat), .slice Z D.length dz] 49)).grownBy w' (Value.slice Y m cy).ownBlock → Rg w2 w' g X d b (m + 1) v') := Lib.hid fun v' w' h1 h2 => by
                obtain ⟨m1, m2, m3⟩ := HM2.out.done HG.out HAL.out (.trans (qs.mono fun j _ e => by subst e; exact hplow) (.of_below _ (balloc _ _))) h2 h1
                exact HKE.out w' v' m1 m2 m3
              clear y1 y4 hp6 hown6 qs hb8 hg7 hp7 e7 hg6 HM1 C3 hgl
              clear hlit
              go_wp2_with (at_builtin; refine wpList_append_ch rfl (.tmp 58) (.tmp 60) rfl w2.heap.size (fun j => j < w2.heap.size ∨ j = p) _ l rfl HO.out _ 1 ⟨(a : Nat), D⟩ Z dz rfl HC0.out HC1.out y2 y3 HB9.out HAI.out HNEW.out HGS.out (by rw [HSL.out]; omega) HBS.out ?_; intro v' w10 hown' hgrow' _; obtain ⟨X', c', hv', _, _, _, _⟩ := hown'.chs; rw [List.length_append, HSL.out, List.length_singleton] at hv'; subst hv'; have HD := Lib.hid (HDONE.out _ _ hown' hgrow'); clear hown' hgrow')
              go_roundw
              case rel => exact ⟨m + 1, X', c', by omega, by go_num, rfl, HD.out⟩
              case measure => simp [intOf] <;> omega
            · have hs1 := HAN.out hf
              subst hs1
              simp only at HKE
              have hq : (((f : Nat) : Int) == 1) = false := by simp; omega
              have c1 := HM1.out.c1; have f1 := HM1.out.f1; have c0 := HM1.out.c0
              have hown6 := HM1.out.own.lt
              have hplow := HM1.out.low
              have hg7 : g < w7.heap.size := by have := HM1.out.keeps.size; have := HG.out; omega
              have hg8 := HM1.out.keeps.size
              have hp7 : p < w7.heap.size := cell_lt HM1.out.c0
              have HB9 := Lib.hid (BytesAt.nil (w7.alloc (.cells #[.int .i64 (a : Nat), .slice none 0 0] 49)) none)
              have HO := Lib.hid (HM1.out.own.below (balloc _ (.cells #[.int .i64 (a : Nat), .slice none 0 0] 49)))
              have HC0 : Hid ((w7.alloc (.cells #[.int .i64 (a : Nat), .slice none 0 0] 49)).cell? ⟨w7.heap.size, 0, none⟩ = some (.int .i64 (a : Nat))) := Lib.hid (by simp)
              have HC1 : Hid ((w7.alloc (.cells #[.int .i64 (a : Nat), .slice none 0 0] 49)).cell? ⟨w7.heap.size, 1, none⟩ = some (.slice none 0 0)) := Lib.hid (by simp)
              have HNEW : Hid (0 < ([] : List UInt8).length → ∀ x, (none : Option Addr) = some x → (Value.slice Y m cy).ownBlock ≠ some x.block ∧ ¬ (x.block < w2.heap.size ∨ x.block = p)) := Lib.hid fun h0 => by simp at h0
              have HGS : Hid (∀ j, (j < w2.heap.size ∨ j = p) → j < (w7.alloc (.cells #[.int .i64 (a : Nat), .slice none 0 0] 49)).heap.size) := Lib.hid fun j hj => by simp; omega
              have HBS : Hid (w2.heap.size ≤ (w7.alloc (.cells #[.int .i64 (a : Nat), .slice none 0 0] 49)).heap.size) := Lib.hid (by simp; omega)
              have HDONE : Hid (∀ (v' : Value) (w' : World), OwnC w' w2.heap.size (fun j => j < w2.heap.size ∨ j = p) v' (l ++ [⟨(a : Nat), []⟩]) → (w7.alloc (.cells #[.int .i64 (a : Nat), .slice none 0 0] 49)).grownBy w' (Value.slice Y m cy).ownBlock → Rg w2 w' g X d b (m + 1) v') := Lib.hid fun v' w' h1 h2 => by
                obtain ⟨m1, m2, m3⟩ := HM1.out.done HG.out HAL.out (.of_below _ (balloc _ _)) h2 h1
                exact HKE.out w' v' m1 m2 m3
              clear HAY HAN HST hown6 hg7 hg8 hp7 C3 hf
              go_wp2_with (at_builtin; refine wpList_append_ch rfl (.tmp 58) (.tmp 60) rfl w2.heap.size (fun j => j < w2.heap.size ∨ j = p) _ l rfl HO.out _ 1 ⟨(a : Nat), []⟩ none 0 rfl HC0.out HC1.out (Nat.le_refl _) (Nat.zero_le _) HB9.out HAI.out HNEW.out HGS.out (by rw [HSL.out]; omega) HBS.out ?_; intro v' w10 hown' hgrow' _; obtain ⟨X', c', hv', _, _, _, _⟩ := hown'.chs; rw [List.length_append, HSL.out, List.length_singleton] at hv'; subst hv'; have HD := Lib.hid (HDONE.out _ _ hown' hgrow'); clear hown' hgrow')
              go_roundw
              case rel => exact ⟨m + 1, X', c', by omega, by go_num, rfl, HD.out⟩
              case measure => simp [intOf] <;> omega
          · have hsd := HSD.out m (by omega) HR.out.good (.inr HBAD.out.symm)
            rw [← HBAD.out] at hsd
            have HGT := Lib.hid (HGB.out _ _ hsd rfl)
            have hz2 := HB2.out.size
            have HBE := Lib.hid (below_keeps HB2.out HR.out.keeps (fun j hj => by omega) HB2.out.size)
            clear hsd
            go_wp2
            go_ret2
            exact ⟨[], false, none, 0, rfl, Nat.le_refl _, Nat.zero_le _, ChsP.nil _ _ _, HGT.out, HBE.out⟩
        · obtain rfl : m = n := by omega
          have hsd := HSD.out m (by omega) HR.out.good (.inl rfl)
          rw [← HBAD.out] at hsd
          have HSDD := Lib.hid hsd
          have hz2 := HB2.out.size
          have HBE := Lib.hid (below_keeps HB2.out HR.out.keeps (fun j hj => by omega) HB2.out.size)
          clear hsd
          cases bad
          · obtain ⟨v, hv⟩ := are_bool ss (saidTo b m).1
            obtain ⟨X', c', hv', h1, h2, h3P, _⟩ := HR.out.own.chsP (P := fun k => w.heap.size ≤ k) fun k hk => by omega
            injection hv' with e1 e2 e3
            subst e1; subst e3
            have h3 := h3P.chs
            have hll := HSL.out _ _ HSDD.out
            have hgf := HGF.out _ _ v HSDD.out hv
            have C := CAR.out w4 Y (saidTo b m).1 cy v (H.out.below HBE.out) h3 hll hv
            rw [saidTo_len] at C h1
            have CH := Lib.hid C
            clear C e2
            have HL3 := Lib.hid h3P
            have HLEN := Lib.hid (saidTo_len b m)
            have HGF2 := Lib.hid hgf
            clear h3 h3P hll hv hgf hz2 HSL HSD HSDD HGF HGB HR HBAD
            generalize (saidTo b m).1 = l at *
            go_wp2_with fail
            refine CH.out.mono ?_
            rintro e w5 ⟨rfl, hb5⟩
            have HL5 := Lib.hid (HL3.out.below hb5)
            have HB5 := Lib.hid (bstep HBE.out hb5)
            clear hb5 CH
            cases v
            · have HGT := Lib.hid (HGF2.out.2.2 trivial rfl)
              go_wp2
              go_ret2
              exact ⟨[], false, none, 0, rfl, Nat.le_refl _, Nat.zero_le _, ChsP.nil _ _ _, HGT.out, HB5.out⟩
            · have HGT := Lib.hid (HGF2.out.2.1 trivial rfl)
              go_wp2
              go_ret2
              exact ⟨l, true, Y, cy, by rw [HLEN.out]; rfl, by rw [HLEN.out]; exact h1, h2, HL5.out, HGT.out, HB5.out⟩
          · have HGT := Lib.hid (HGB.out _ _ HSDD.out rfl)
            go_wp2
            go_ret2
            exact ⟨[], false, none, 0, rfl, Nat.le_refl _, Nat.zero_le _, ChsP.nil _ _ _, HGT.out, HBE.out⟩
theorem get_any (A : Option Addr) (ss : List (List UInt8)) (c : Nat) (w : World) (h : RowsAt w A ss) (hn : ss.length ≤ 200) (hl : ∀ x ∈ ss, x.length ≤ 1048576) :
    Calls Tryz.prog 39 #[.slice A ss.length c] w (Entry.RetGot w ss) := by
  refine (get_new A ss c w h hn hl).mono ?_
  rintro e w' ⟨l, ok, X, d, h1, h2, h3, h4, h5, h6⟩
  exact ⟨l, ok, X, d, h1, h2, h3, h4.chs, h5, h6⟩
end Go.Proofs.YtapgpibindhlfaaGreat.R18
