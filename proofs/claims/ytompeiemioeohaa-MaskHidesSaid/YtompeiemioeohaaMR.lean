/- merged: R14, R14B, R14C, R14D, R14E -/
import Derived.Test.YtompeiemioeohaaR01
import Derived.Test.YtompeiemioeohaaR02
import Derived.Test.YtompeiemioeohaaR03
import Derived.Test.YtompeiemioeohaaR08
import Derived.Test.YtompeiemioeohaaLaw10
import Derived.Test.YtompeiemioeohaaShiftMath
import Derived.Test.YtompeiemioeohaaFoot
import Derived.Test.YtompeiemioeohaaApp
import Derived.Test.YtompeiemioeohaaDrawn
import Derived.Test.YtompeiemioeohaaFlow
import Derived.Test.YtompeiemioeohaaMP

/- the document's own answers of layer 14: has, Zeros, Sized, Over -/
set_option maxRecDepth 100000
namespace Go.Proofs.Ytompeiemioeohaa.R14
open Go.RowKit PlanM StripeM DealM RebM ZeroM MaskM Law08 Law10

theorem has_any (A : Option Addr) (l : List Int) (c : Nat) (x : Int) (w : World) (h : IntsAt w A l) (hm : l.length ≤ 1048576) :
    Calls Try.prog 85 #[.slice A l.length c, .int .i64 x] w fun e w' => e = .returned (.bool (decide (x ∈ l))) ∧ w = w' := by
  have H := Lib.hid h
  clear h
  go_enter Try.func85, Try.ntmps85
  go_wp2
  go_loopw [5] (fun i wr => ∃ k : Nat, k ≤ l.length ∧ i = .int .i64 k ∧ w = wr ∧ ∀ j, (hj : j < l.length) → j < k → l[j] ≠ x)
    (fun i _ => l.length - (intOf i).toNat)
  case atStart => exact ⟨0, Nat.zero_le _, rfl, rfl, fun j _ h => by omega⟩
  case round =>
    obtain ⟨k, hk, rfl, rfl, hall⟩ := hrel
    have HALL := Lib.hid hall
    clear hall
    by_cases hlt : k < l.length
    · obtain ⟨b, o, rfl, e0⟩ := H.out.at hlt
      obtain ⟨y, hy⟩ : ∃ y, y = l[k] := ⟨_, rfl⟩
      rw [← hy] at e0
      have HX := Lib.hid hy
      clear hy
      by_cases hxt : y = x
      · have HXT := Lib.hid hxt
        have hd : (y == x) = true := by simpa using hxt
        clear hxt
        go_wp2
        go_ret
        exact ⟨ret_bool (by rw [decide_eq_true (by rw [← HXT.out, HX.out]; exact List.getElem_mem hlt)]), rfl⟩
      · have HXT := Lib.hid hxt
        have hd : (y == x) = false := by simpa using hxt
        go_wp2
        go_roundw
        case rel =>
          refine ⟨k + 1, by omega, by go_num, by first | trivial | rfl, fun j hj hjk => ?_⟩
          by_cases e : j = k
          · subst e; rw [← HX.out]; exact HXT.out
          · exact HALL.out j hj (by omega)
        case measure => simp [intOf] <;> omega
    · obtain rfl : k = l.length := by omega
      go_wp2
      go_ret
      exact ⟨ret_bool (by rw [decide_eq_false fun hm => by obtain ⟨i, hi, e⟩ := List.mem_iff_getElem.mp hm; exact HALL.out i hi hi e]), rfl⟩

theorem sized_get (b : List UInt8) (n k : Nat) (hk : k < n) : (PolyM.tab n fun i => if i < k then PolyM.co b i else 0).set k (PolyM.co b k) = PolyM.tab n fun i => if i < k + 1 then PolyM.co b i else 0 := by
  rw [PolyM.tab_set _ _ _ _ hk]
  refine PolyM.tab_congr fun i _ => ?_
  by_cases e : i = k
  · subst e; simp
  · rw [if_neg e]
    have : (i < k + 1) ↔ i < k := by omega
    simp only [this]
set_option maxHeartbeats 1000000 in
theorem sized_any (A : Option Addr) (l : List UInt8) (c n : Nat) (w : World) (h : BytesAt w A l) (hl : l.length ≤ 1048576) (hn : n ≤ 1048576) :
    Calls Try.prog 56 #[.slice A l.length c, .int .i64 (n : Nat)] w (RetNew w (sized l n)) := by
  have hmk := fun W => make_u8 n (by omega) W
  have H := Lib.hid h; have HLL := Lib.hid hl
  have HM := Lib.hid (show n ≤ maxLen from by unfold maxLen; omega)
  clear h hl
  go_enter Try.func56, Try.ntmps56
  go_wp2
  clear hmk
  go_loopw [6] (fun i wr => ∃ k : Nat, k ≤ n ∧ i = .int .i64 k ∧ Row wr w.heap.size (PolyM.tab n fun i => if i < k then PolyM.co l i else 0) ∧ Below w.heap.size w wr)
    (fun i _ => n - (intOf i).toNat)
  case atStart => exact ⟨0, Nat.zero_le _, rfl, by rw [show (PolyM.tab n fun i => if i < 0 then PolyM.co l i else 0) = List.replicate n 0 from by rw [← PolyM.tab_rep]; exact PolyM.tab_congr fun i _ => by simp]; exact Row.new _ _, (Below.refl _ _).alloc (Nat.le_refl _) _⟩
  case round =>
    obtain ⟨k, hk, rfl, hr, hb⟩ := hrel
    rename World => wr
    by_cases hlt : k < n
    · have hs := sized_get l n k hlt
      have HS := Lib.hid hs
      have hlen : (PolyM.tab n fun i => if i < k then PolyM.co l i else 0).length = n := PolyM.tab_len _ _
      obtain ⟨old, hc⟩ : ∃ v, wr.cell? ⟨w.heap.size, k, none⟩ = some v := ⟨_, hr.cell k (by omega)⟩
      have hf := hr.frozen k
      have HR := Lib.hid hr
      have C := R02.at_any A l c k wr (H.out.below hb) (by have := HLL.out; omega) (by omega)
      have HC := Lib.hid C
      clear hs hr C hlen
      generalize (PolyM.tab n fun i => if i < k then PolyM.co l i else 0) = row at *
      generalize PolyM.co l k = y at *
      go_wp2_with (go_at_call 60; refine HC.out.mono ?_; rintro e w' ⟨rfl, rfl⟩)
      go_roundw
      case rel =>
        refine ⟨k + 1, by omega, by go_num, ?_, ?_⟩
        · rw [← HS.out]; exact HR.out.set k _
        · exact hb.setCell (Nat.le_refl _) _
      case measure => simp [intOf] <;> omega
    · obtain rfl : k = n := by omega
      have hz : (PolyM.tab k fun i => if i < k then PolyM.co l i else 0) = sized l k := PolyM.tab_congr fun i hi => by rw [if_pos hi]
      rw [hz] at hr
      have HR := Lib.hid hr
      have HSL := Lib.hid (sized_len l k)
      clear hr hz
      go_wp2
      go_ret
      have C := RetNew.of_row HR.out hb (by rw [HSL.out]; exact HM.out) (Nat.le_refl _)
      rw [HSL.out] at C
      exact C

set_option maxHeartbeats 1000000 in
theorem zeros_any (L W S R : Int) (n0 t0 : Nat) (A : Option Addr) (z : List Int) (c : Nat) (w : World) (hn : n0 ≤ 256) (_ht : t0 ≤ 256) (h : IntsAt w A z) (hm : z.length ≤ 256) (hzl : ∀ k, k ≤ n0 → (zerosTo t0 z k).length ≤ 600) :
    Calls Try.prog 46 #[.agg #[.int .i64 n0, .int .i64 t0, .int .i64 L, .int .i64 W, .int .i64 S, .int .i64 R], .slice A z.length c] w (RetInts w (zerosTo t0 z n0)) := by
  have HA := Lib.hid (PlanLies.new w n0 t0 L W S R)
  have HB0 := Lib.hid (balloc w (.cells #[.int .i64 n0, .int .i64 t0, .int .i64 L, .int .i64 W, .int .i64 S, .int .i64 R] 23))
  have H := Lib.hid (h.below HB0.out)
  have HZL := Lib.hid hzl
  have H0 := Lib.hid (zerosTo_zero t0 z)
  have HST := Lib.hid (fun k => zerosTo_succ t0 z k)
  have HFU := Lib.hid (fun k n (h : t0 ≤ (zerosTo t0 z k).length) (hk : k ≤ n) => zerosTo_full h n hk)
  have hm2 := hm
  obtain ⟨zn, hzn⟩ : ∃ zn, zn = z.length := ⟨_, rfl⟩
  rw [← hzn] at hm2 ⊢
  have HZN := Lib.hid hzn
  clear h hzl hzn
  have hz0 : (w.alloc (.cells #[.int .i64 n0, .int .i64 t0, .int .i64 L, .int .i64 W, .int .i64 S, .int .i64 R] 23)).heap.size = w.heap.size + 1 := by simp
  have hoe : OwnI ((w.alloc (.cells #[.int .i64 n0, .int .i64 t0, .int .i64 L, .int .i64 W, .int .i64 S, .int .i64 R] 23)).alloc (.cells #[] 3)) (w.alloc (.cells #[.int .i64 n0, .int .i64 t0, .int .i64 L, .int .i64 W, .int .i64 S, .int .i64 R] 23)).heap.size (.slice (some ⟨(w.alloc (.cells #[.int .i64 n0, .int .i64 t0, .int .i64 L, .int .i64 W, .int .i64 S, .int .i64 R] 23)).heap.size, 0, none⟩) 0 0) [] := ownV_empty (w.alloc (.cells #[.int .i64 n0, .int .i64 t0, .int .i64 L, .int .i64 W, .int .i64 S, .int .i64 R] 23)) _ 3 (Nat.le_refl _)
  rw [hz0] at hoe
  have HOE := Lib.hid hoe
  have HZ0 := Lib.hid hz0
  clear hoe hz0
  go_enter Try.func46, Try.ntmps46
  go_wp2_with (at_builtin; refine wpList_append_ints rfl _ _ rfl (w.heap.size + 1) _ [] rfl HOE.out A zn c z rfl HZN.out.symm (H.out.below (balloc _ _)) (by simp; omega) (by simp) ?_; intro v1 w1 ha; have HA1 := Lib.hid ha; clear ha)
  have hz0 := HZ0.out
  generalize (w.alloc (.cells #[.int .i64 n0, .int .i64 t0, .int .i64 L, .int .i64 W, .int .i64 S, .int .i64 R] 23)) = w0 at *
  have hb1 : Below w0.heap.size w0 w1 := HA1.out.below HOE.out (balloc w0 _) (by omega) (by simp)
  have ho1 : OwnI w1 (w.heap.size + 1) v1 z := HA1.out.own
  have HB1 := Lib.hid hb1; have HO1 := Lib.hid ho1
  clear hb1 ho1 HA1 HOE
  go_loopw [5, 6] (fun v i wr => ∃ k : Nat, k ≤ n0 ∧ i = .int .i64 ((k : Int) + 1) ∧ OwnI wr (w.heap.size + 1) v (zerosTo t0 z k) ∧ Below w0.heap.size w0 wr)
    (fun _ i _ => n0 + 1 - (intOf i).toNat)
  case atStart => exact ⟨0, Nat.zero_le _, rfl, by rw [H0.out]; exact HO1.out, HB1.out⟩
  case round =>
    obtain ⟨k, hk, rfl, hown, hb⟩ := hrel
    rename World => wr
    have HO := Lib.hid hown
    obtain ⟨c0, c1, c2, c3, c4, c5⟩ := six (HA.out.below hb)
    obtain ⟨X, d, rfl, x1, x2, hX, hXn⟩ := hown.ints
    have hz := hb.size
    have HX := Lib.hid hX
    have hzl := HZL.out k hk
    have hfin : zerosTo t0 z k = zerosTo t0 z n0 → RetInts w (zerosTo t0 z n0) (.returned (.slice X (zerosTo t0 z k).length d)) wr := fun e =>
      ⟨X, d, by rw [e], by rw [← e]; exact x1, x2, by rw [← e]; exact hX, bstep HB0.out hb, fun a e => by have := hXn a e; omega⟩
    have HFIN := Lib.hid hfin
    clear hX hown hXn hfin
    obtain ⟨m, hm0⟩ : ∃ m, m = (zerosTo t0 z k).length := ⟨_, rfl⟩
    by_cases hlt : k < n0
    · have hst := HST.out k
      have hful := HFU.out k n0
      by_cases hfull : (zerosTo t0 z k).length < t0
      · have hC := has_any X (zerosTo t0 z k) d ((k : Int) + 1) wr HX.out (by omega)
        unfold zstep at hst
        rw [if_pos hfull] at hst
        generalize zerosTo t0 z k = zk at *
        by_cases hin : ((k : Int) + 1) ∈ zk
        · rw [decide_eq_true hin] at hC
          rw [if_pos hin] at hst
          rw [← hm0] at hC hfull hzl ⊢
          have HC := Lib.hid hC; have HS := Lib.hid hst
          have HM0 := Lib.hid hm0
          clear hC hst hin hful hm0
          go_wp2_with fail
          refine HC.out.mono ?_
          rintro e w' ⟨rfl, rfl⟩
          go_wp2
          go_roundw
          case rel => exact ⟨k + 1, by omega, by go_num, by rw [HS.out]; rw [HM0.out]; exact HO.out, hb⟩
          case measure => simp [intOf] <;> omega
        · rw [decide_eq_false hin] at hC
          rw [if_neg hin] at hst
          rw [hm0] at *
          have HC := Lib.hid hC; have HS := Lib.hid hst
          have i1 : IntKind.i64.wrap ((k : Int) + 1 + 1) = (k : Int) + 1 + 1 := IntWalk.i64_in _ (by omega)
          have i2 : ¬ ((k : Int) + 1 + 1 < 0) := by omega
          have HXX : Hid (∀ V : World, IntsAt (V.alloc (.cells #[.int .i64 ((k : Int) + 1)] 3)) (some ⟨V.heap.size, 0, none⟩) [(k : Int) + 1]) := Lib.hid (fun V => Drawn.ints_new V [(k : Int) + 1] 3)
          clear hC hst hin hful hm0
          go_wp2_with (first
            | (go_at_call 85; refine HC.out.mono ?_; rintro e w' ⟨rfl, rfl⟩)
            | (at_builtin; refine wpList_append_ints rfl _ _ rfl (w.heap.size + 1) _ zk rfl (OwnI.below HO.out (balloc _ _)) _ 1 1 [(k : Int) + 1] rfl rfl (HXX.out _) (by omega) (by simp; omega) ?_; intro v2 w2 ha; have HA2 := Lib.hid ha; clear ha))
          go_roundw
          case rel => exact ⟨k + 1, by omega, by go_num, by rw [HS.out]; exact HA2.out.own, HA2.out.below (OwnI.below HO.out (balloc _ _)) (hb.alloc hz _) (by omega) (by simp; omega)⟩
          case measure => simp [intOf] <;> omega
      · have hf := (hful (by omega) (by omega)).symm
        have HF := Lib.hid (HFIN.out hf)
        clear hst hful hf
        rw [← hm0] at hfull hzl HF ⊢
        clear hm0
        go_wp2
        go_ret
        exact HF.out
    · obtain rfl : k = n0 := by omega
      have HF := Lib.hid (HFIN.out rfl)
      rw [← hm0] at hzl HF ⊢
      clear hm0
      go_wp2
      go_ret
      exact HF.out
end Go.Proofs.Ytompeiemioeohaa.R14

/- the document's own answers of layer 14: Over -/
set_option maxRecDepth 100000
namespace Go.Proofs.Ytompeiemioeohaa.R14
open Go.RowKit PlanM StripeM DealM RebM ZeroM MaskM Law08 Law10

theorem Row.keepw {w w' : World} {g : Nat} {l : List UInt8} (h : Row w g l) {F : Nat → Prop} (q : Keeps F w w') (hg : ¬ F g) : Row w' g l := (q.block g h.lt hg).trans h
theorem over_short (A1 A2 : Option Addr) (p q : List UInt8) (c1 c2 : Nat) (w : World) (h1 : BytesAt w A1 p) (hl : p.length ≤ 1048576) (hl2 : q.length ≤ 1048576) (hs : p.length < q.length) :
    Calls Try.prog 57 #[.slice A1 p.length c1, .slice A2 q.length c2] w (RetNew w (over p q)) := by
  have e : over p q = [] := List.eq_nil_of_length_eq_zero (by rw [over_len]; omega)
  rw [e]
  have H1 := Lib.hid h1
  obtain ⟨pl, hpl⟩ : ∃ pl, pl = p.length := ⟨_, rfl⟩
  obtain ⟨ql, hql⟩ : ∃ ql, ql = q.length := ⟨_, rfl⟩
  rw [← hpl] at hl hs ⊢
  rw [← hql] at hl2 hs ⊢
  have HPL := Lib.hid hpl
  have i1 : IntKind.i64.wrap ((pl : Int) - ql) = (pl : Int) - ql := IntWalk.i64_in _ (by omega)
  have i2 : IntKind.i64.wrap ((pl : Int) - ql + 1) = (pl : Int) - ql + 1 := IntWalk.i64_in _ (by omega)
  have i3 : (pl : Int) - ql + 1 < 1 := by omega
  clear h1 e hpl hql
  have HOE := Lib.hid (Own.empty w w.heap.size (Nat.le_refl _))
  go_enter Try.func57, Try.ntmps57
  go_wp2_with (at_builtin; refine wpList_append_bytes rfl _ _ rfl w.heap.size _ [] p rfl HOE.out A1 pl c1 rfl HPL.out (H1.out.below (balloc _ _)) (by simp; have := HPL.out; omega) (by simp) ?_; intro v1 w1 ho1 hb1; have HO1 := Lib.hid ho1; clear ho1)
  go_ret
  exact RetNew.of_nil ((balloc w _).trans hb1)

theorem Own.spot {w : World} {base g n cap : Nat} {l : List UInt8} (h : Own w base (.slice (some ⟨g, 0, none⟩) n cap) l) {i : Nat} (hi : i < l.length) :
    w.cell? ⟨g, i, none⟩ = some (.int .u8 (l[i].toNat : Nat)) ∧ w.frozen? ⟨g, i, none⟩ = false ∧ ∀ (b : UInt8), Own (w.setCell ⟨g, i, none⟩ (.int .u8 (b.toNat : Nat))) base (.slice (some ⟨g, 0, none⟩) n cap) (l.set i b) := by
  obtain ⟨g', cap', e, _, _, h1, h2, h3⟩ := h.place hi
  injection e with e1 e2 e3
  injection e1 with e1
  injection e1 with e1
  subst e1; subst e2; subst e3
  exact ⟨h1, h2, fun b => h3 0 b⟩
set_option maxHeartbeats 4000000 in
theorem over_long (A1 A2 : Option Addr) (p q : List UInt8) (c1 c2 : Nat) (w : World) (h1 : BytesAt w A1 p) (h2 : BytesAt w A2 q) (hl : p.length ≤ 1048576) (h0 : 0 < q.length) (hs : q.length ≤ p.length) :
    Calls Try.prog 57 #[.slice A1 p.length c1, .slice A2 q.length c2] w (RetNew w (over p q)) := by
  obtain ⟨n, hn⟩ : ∃ n, n + q.length = p.length + 1 := ⟨p.length + 1 - q.length, by omega⟩
  have e : over p q = ovTo p q n 0 := by unfold over; rw [ovTo_done, show p.length + 1 - q.length = n from by omega]
  rw [e]
  have hend := ovTo_len p q n 0
  have HOS := Lib.hid (ovTo_start p q n)
  have HOT := Lib.hid (fun k (hk : k < n) => ovTo_step p q n k hk)
  have HOL := Lib.hid (fun k => ovTo_len p q n k)
  have HRL := Lib.hid (fun s => orest_len p q n s)
  have HR0 : Hid (orest p q n 0 = p) := Lib.hid rfl
  have HOC : Hid (∀ k, k < n → ∀ s, s + k + 1 = n → oc p q n k = PolyM.co (orest p q n s) (k + q.length - 1)) := Lib.hid (fun k hk s hks => by unfold oc; rw [show n - 1 - k = s from by omega])
  have HRS : Hid (∀ k, k < n → ∀ s, s + k + 1 = n → orest p q n (s + 1) = ostep q k (orest p q n s)) := Lib.hid (fun k hk s hks => by show ostep q (n - 1 - s) _ = _; rw [show n - 1 - s = k from by omega])
  have H1 := Lib.hid h1; have H2 := Lib.hid h2
  have hn1 : 1 ≤ n ∧ n ≤ 1048576 := by omega
  obtain ⟨pl, hpl⟩ : ∃ pl, pl = p.length := ⟨_, rfl⟩
  obtain ⟨ql, hql⟩ : ∃ ql, ql = q.length := ⟨_, rfl⟩
  rw [← hpl] at hl hs hn HRL ⊢
  rw [← hql] at h0 hs hn HOC ⊢
  have HPL := Lib.hid hpl; have HQL := Lib.hid hql
  have i1 : IntKind.i64.wrap ((pl : Int) - ql) = (pl : Int) - ql := IntWalk.i64_in _ (by omega)
  have i2 : IntKind.i64.wrap ((pl : Int) - ql + 1) = (n : Int) := by rw [IntWalk.i64_in _ (by omega)]; omega
  have i3 : ¬ ((n : Int) < 1) := by omega
  have i4 : IntKind.i64.wrap ((n : Int) - 1) = (n : Int) - 1 := IntWalk.i64_in _ (by omega)
  have hmk := fun W => make_u8 n (by omega) W
  clear h1 h2 e hpl hql
  have HOE := Lib.hid (Own.empty w w.heap.size (Nat.le_refl _))
  go_enter Try.func57, Try.ntmps57
  go_wp2_with (at_builtin; refine wpList_append_bytes rfl _ _ rfl w.heap.size _ [] p rfl HOE.out A1 pl c1 rfl HPL.out (H1.out.below (balloc _ _)) (by simp; have := HPL.out; omega) (by simp) ?_; intro v1 w1 ho1 hb1; have HO1 := Lib.hid ho1; clear ho1)
  have hb1' : Below w.heap.size w w1 := (balloc w _).trans hb1
  have ho := HO1.out
  rw [List.nil_append] at ho
  obtain ⟨g, cap, hv, hg, hgl, p1, p2, p3⟩ := ho.place (i := 0) (by have := HPL.out; omega)
  clear p1 p2 p3
  rw [← HPL.out] at hv
  subst hv
  have hrow : Row (w1.alloc (.cells (cells (List.replicate n 0)) 5)) w1.heap.size (ovTo p q n n) := by rw [HOS.out]; exact Row.new _ _
  have HW := Lib.hid hrow
  have HO2 := Lib.hid (ho.alloc (.cells (cells (List.replicate n 0)) 5))
  have HB2 := Lib.hid (bstep hb1' (balloc w1 (.cells (cells (List.replicate n 0)) 5)))
  have hw1 := hb1'.size
  have hgne : ¬ w1.heap.size = g := by omega
  clear hrow ho HO1 hb1 hb1' HOE hmk HOS
  clear i1 i2
  go_loopw [8] (fun v wr => ∃ s : Nat, s ≤ n ∧ v = .int .i64 ((n : Int) - 1 - s) ∧ Own wr w.heap.size (.slice (some ⟨g, 0, none⟩) pl cap) (orest p q n s) ∧ Row wr w1.heap.size (ovTo p q n (n - s)) ∧ Below w.heap.size w wr)
    (fun v _ => (intOf v + 1).toNat)
  case atStart => exact ⟨0, Nat.zero_le _, by simp, by rw [HR0.out]; exact HO2.out, HW.out, HB2.out⟩
  case round =>
    obtain ⟨s, hs2, rfl, hO, hR, hb⟩ := hrel
    rename World => wr
    by_cases hlt : s < n
    · obtain ⟨k, hk⟩ : ∃ k, s + k + 1 = n := ⟨n - 1 - s, by omega⟩
      have ek : (n : Int) - 1 - s = (k : Int) := by omega
      rw [ek]
      rw [show n - s = k + 1 from by omega] at hR
      have hrl := HRL.out s
      obtain ⟨x, hx⟩ : ∃ x, x = k + ql - 1 := ⟨_, rfl⟩
      have hspx := (Own.spot hO (i := x) (by omega)).1
      have hoc := HOC.out k (by omega) s hk
      rw [← hx, PolyM.co_get _ x (by omega)] at hoc
      rw [← hoc] at hspx
      have hfr := hR.frozen k
      have hrc := hR.cell k (by rw [HOL.out]; omega)
      obtain ⟨old, hold⟩ : ∃ v, wr.cell? ⟨w1.heap.size, k, none⟩ = some v := ⟨_, hrc⟩
      have hst := HOT.out k (by omega)
      have hnr := HRS.out k (by omega) s hk
      have HR1 := Lib.hid (hR.set k (oc p q n k))
      rw [hst] at HR1
      have HO3' : ∀ u, Own (wr.setCell ⟨w1.heap.size, k, none⟩ u) w.heap.size (.slice (some ⟨g, 0, none⟩) pl cap) (orest p q n s) := fun u => Own.keep hO (Keeps.set (fun j => j = w1.heap.size) wr ⟨w1.heap.size, k, none⟩ u rfl) fun j e => by
        have : g = j := by injection e
        rw [← this]; exact fun h => hgne h.symm
      have HO3 := Lib.hid HO3'
      clear HO3'
      have HST : Hid (orow q (orest p q n s) k ql = orest p q n (s + 1)) := Lib.hid (by rw [hnr, HQL.out]; rfl)
      have HOZ := Lib.hid (orow_zero q (orest p q n s) k)
      have HORL : Hid (∀ i, (orow q (orest p q n s) k i).length = pl) := Lib.hid (fun i => by rw [orow_len]; exact hrl)
      have HCO : Hid (oc p q n k = PolyM.co (orest p q n s) (k + q.length - 1)) := Lib.hid (by rw [← HQL.out, ← hx, hoc, PolyM.co_get _ x (by omega)])
      have HOG : Hid (∀ i y, y = k + i → (hi : i < ql) → ∀ (h : y < (orow q (orest p q n s) k i).length), (orow q (orest p q n s) k i)[y] = PolyM.co (orest p q n s) y) := Lib.hid (fun i y e _ h => by subst e; exact orow_get q _ k i h)
      have HOS : Hid (∀ i y, y = k + i → (hi : i < q.length) → (orow q (orest p q n s) k i).set y (GfM.add (PolyM.co (orest p q n s) y) (GfM.mul (oc p q n k) q[i])) = orow q (orest p q n s) k (i + 1)) := Lib.hid (fun i y e hi => by
        subst e
        rw [HCO.out]
        exact orow_succ q _ k i (by rw [hrl]; have := HQL.out; omega) hi)
      have i1 : IntKind.i64.wrap ((k : Int) + ql) = (k : Int) + ql := IntWalk.i64_in _ (by omega)
      have i2 : IntKind.i64.wrap ((k : Int) + ql - 1) = (x : Int) := by rw [IntWalk.i64_in _ (by omega)]; omega
      have i5 : IntKind.i64.wrap ((k : Int) - 1) = (k : Int) - 1 := IntWalk.i64_in _ (by omega)
      have j1 : x < pl := by omega
      have j2 : k < n := by omega
      have HB := Lib.hid hb
      have HK := Lib.hid hk; have HXX := Lib.hid hx
      clear hO hR hrl hrc hoc hst hnr hb hk ek hx
      generalize orow q (orest p q n s) k = rowf at *
      generalize orest p q n s = r at *
      generalize oc p q n k = cc at *
      obtain ⟨ov, hov⟩ : ∃ ov, ov = ovTo p q n k := ⟨_, rfl⟩
      rw [← hov] at HR1
      have HOV := Lib.hid hov
      clear hov
      go_wp2
      go_loopw [10] (fun v w2 => ∃ i : Nat, i ≤ ql ∧ v = .int .i64 i ∧ Own w2 w.heap.size (.slice (some ⟨g, 0, none⟩) pl cap) (rowf i) ∧ Row w2 w1.heap.size ov ∧ Below w.heap.size w w2)
        (fun v _ => ql - (intOf v).toNat)
      case atStart => exact ⟨0, Nat.zero_le _, rfl, by rw [HOZ.out]; exact HO3.out _, HR1.out, HB.out.setCell hw1 _⟩
      case round =>
        obtain ⟨i, hi, rfl, hO, hR, hb⟩ := hrel
        rename World => w2
        by_cases hlt2 : i < ql
        · obtain ⟨y, hy⟩ : ∃ y, y = k + i := ⟨_, rfl⟩
          have hyl : y < pl := by have := HK.out; omega
          obtain ⟨s1, s2, s3⟩ := Own.spot hO (i := y) (by rw [HORL.out]; exact hyl)
          rw [HOG.out i y hy hlt2 _] at s1
          obtain ⟨b2, o2, rfl, f2⟩ := (H2.out.below hb) i (by have := HQL.out; omega)
          have hsu := HOS.out i y hy (by have := HQL.out; omega)
          generalize q[i] = z at *
          have HSU := Lib.hid (s3 (GfM.add (PolyM.co r y) (GfM.mul cc z)))
          rw [hsu] at HSU
          have HRR := Lib.hid (fun u => Row.far hR (p := ⟨g, y, none⟩) hgne u)
          have i6 : IntKind.i64.wrap ((k : Int) + i) = (y : Int) := by rw [IntWalk.i64_in _ (by omega)]; omega
          generalize PolyM.co r y = old2 at *
          have HB3 := Lib.hid (fun u => Below.setCell hb (show w.heap.size ≤ (⟨g, y, none⟩ : Addr).block from hg) u)
          clear hO hR hb s3 hsu hy
          go_wp2
          go_region_law ((first
              | (go_simp; go_at_call 48; refine (R01.mul_any _ _ _).mono ?_; rintro e w' ⟨rfl, rfl⟩)))
          all_goals
            try go_wp2
            go_roundw
            case rel => exact ⟨i + 1, by omega, by go_num, HSU.out, HRR.out _, by first | exact HB3.out _ | exact below_drewN (HB3.out _) 1⟩
            case measure => simp [intOf] <;> omega
        · obtain rfl : i = ql := by omega
          have HOF := Lib.hid hO
          have HRF := Lib.hid hR
          clear hO hR
          go_wp2
          go_roundw
          case rel => exact ⟨s + 1, by omega, by have := HK.out; congr 1; omega, by rw [← HST.out]; exact HOF.out, by rw [show n - (s + 1) = k from by have := HK.out; omega, ← HOV.out]; exact HRF.out, hb⟩
          case measure => simp [intOf] <;> omega
    · obtain rfl : s = n := by omega
      have ek : (s : Int) - 1 - s = -1 := by omega
      rw [ek]
      rw [Nat.sub_self] at hR
      have HRF := Lib.hid hR
      clear hR hO ek
      go_wp2
      go_ret
      have C := RetNew.of_row HRF.out hb (by rw [hend]; unfold maxLen; omega) hw1
      rw [hend] at C
      exact C
theorem over_any (A1 A2 : Option Addr) (p q : List UInt8) (c1 c2 : Nat) (w : World) (h1 : BytesAt w A1 p) (h2 : BytesAt w A2 q) (hl : p.length ≤ 1048576) (hl2 : q.length ≤ 1048576) (h0 : 0 < q.length) :
    Calls Try.prog 57 #[.slice A1 p.length c1, .slice A2 q.length c2] w (RetNew w (over p q)) := by
  by_cases hs : q.length ≤ p.length
  · exact over_long A1 A2 p q c1 c2 w h1 h2 hl h0 hs
  · exact over_short A1 A2 p q c1 c2 w h1 hl hl2 (by omega)
end Go.Proofs.Ytompeiemioeohaa.R14

/- the document's own answers of layer 14: Check, Shift, Zero, Deal, Blind -/
set_option maxRecDepth 100000
namespace Go.Proofs.Ytompeiemioeohaa.R14
open Go.RowKit PlanM StripeM DealM RebM ZeroM MaskM Law08 Law10

def RetB (w : World) (l : List UInt8) (e : Ending) (w' : World) : Prop := ∃ X d, e = .returned (.slice X l.length d) ∧ BytesAt w' X l ∧ Below w.heap.size w w'
/-- a list of so many bytes, in memory -/
def SP.bN (l : List UInt8) (n : Nat) : Drawn.SP := ⟨fun v w => ∃ X d, v = .slice X n d ∧ BytesAt w X l, fun _ _ _ h hb => by
  obtain ⟨X, d, h1, h2⟩ := h; exact ⟨X, d, h1, h2.below hb⟩⟩
def SP.iN (l : List Int) (n : Nat) : Drawn.SP := ⟨fun v w => ∃ X d, v = .slice X n d ∧ IntsAt w X l, fun _ _ _ h hb => by
  obtain ⟨X, d, h1, h2⟩ := h; exact ⟨X, d, h1, h2.below hb⟩⟩
/-- bytes of the call's own -/
def SP.own (B : Nat) (l : List UInt8) : Drawn.SP := ⟨fun v w => ∃ u, v = u ∧ Own w B u l ∧ B ≤ w.heap.size, fun _ _ _ h hb => by
  obtain ⟨u, h1, h2, h3⟩ := h; exact ⟨u, h1, h2.below hb, Nat.le_trans h3 hb.size⟩⟩
theorem secrets_own (p : P) (w : World) (hN : 0 ≤ p.N) (hL : 0 ≤ p.L) (hNL : p.N + p.L ≤ 256) : Calls Try.prog 15 #[p.val] w (RetOwn w p.secrets) := by
  obtain ⟨N, T, L, W, S, R⟩ := p
  unfold P.val P.secrets
  simp only at hN hL hNL
  obtain ⟨n, rfl⟩ : ∃ n : Nat, N = n := ⟨N.toNat, by omega⟩
  obtain ⟨l, rfl⟩ : ∃ l : Nat, L = l := ⟨L.toNat, by omega⟩
  simp only [Int.toNat_natCast]
  have i0 : IntKind.i64.wrap ((n : Int) + l) = (n : Int) + l := IntWalk.i64_in _ (by omega)
  go_enter Try.func15, Try.ntmps15
  go_wp2_with fail
  have hbw := balloc w (.cells #[.int .i64 n, .int .i64 T, .int .i64 l, .int .i64 W, .int .i64 S, .int .i64 R] 23)
  have cn := R08.plan_cell w n T l W S R 0 _ rfl
  have cl := R08.plan_cell w n T l W S R 2 _ rfl
  generalize w.alloc (.cells #[.int .i64 n, .int .i64 T, .int .i64 l, .int .i64 W, .int .i64 S, .int .i64 R] 23) = w2 at *
  have hgl := cell_lt cn
  simp only at hgl
  go_wp2_with fail
  go_loopw [3, 4] (fun v i wr => ∃ k : Nat, k ≤ l ∧ i = .int .i64 ((n : Int) + k) ∧ Own wr w2.heap.size v (from_ n k) ∧ Below w2.heap.size w2 wr)
    (fun _ i _ => n + l - (intOf i).toNat)
  case atStart => exact ⟨0, Nat.zero_le _, by simp, Own.nil _ _, Below.refl _ _⟩
  case round =>
    obtain ⟨k, hk, rfl, hown, hb⟩ := hrel
    have hz := hb.size
    have HO := Lib.hid hown
    have HN := Lib.hid cn; have HL := Lib.hid cl
    have cn' := (hb.cell (p := ⟨w.heap.size, 0, none⟩) hgl).trans cn
    have cl' := (hb.cell (p := ⟨w.heap.size, 2, none⟩) hgl).trans cl
    clear cn cl
    by_cases hlt : k < l
    · have hg : decide ((n : Int) + k < (n : Int) + l) = true := by simp; omega
      have hs := from_succ n k
      have hlen := from_len n k
      obtain ⟨F, hF⟩ : ∃ F, F = from_ n k := ⟨_, rfl⟩
      rw [← hF] at hs hlen HO
      have hu : ((UInt8.ofNat (n + k)).toNat : Int) = (n : Int) + k := by rw [UInt8.toNat_ofNat_of_lt' (by simp only [UInt8.size]; omega)]; omega
      obtain ⟨u, hu2⟩ : ∃ u, u = UInt8.ofNat (n + k) := ⟨_, rfl⟩
      rw [← hu2] at hs hu
      have i1 : IntKind.u8.wrap ((n : Int) + k) = (u.toNat : Int) := by rw [IntKind.wrap_u8]; omega
      have HS := Lib.hid hs; have HLEN := Lib.hid hlen
      have hlen2 : F.length ≤ 256 := by omega
      clear hs hu hu2 hF hown hlen
      go_wp2_with (at_builtin; refine wpList_append_u8 rfl _ _ rfl w2.heap.size _ _ rfl (HO.out.alloc _) wr.heap.size 1 u rfl (by simp) (by omega) (by simp; omega) ?_; intro v' w1 hown1 hb1)
      go_roundw
      case rel => exact ⟨k + 1, by omega, by go_num, by rw [HS.out]; exact hown1, (hb.alloc hz _).trans hb1⟩
      case measure => simp [intOf] <;> omega
    · obtain rfl : k = l := by omega
      clear hown
      go_wp2
      go_ret
      exact ⟨_, rfl, Plan.Own.lower HO.out hbw.size, hbw.trans (hb.mono hbw.size)⟩

theorem isAll_no {p : P} {who : List Int} {i : Nat} (hi : i < who.length) (h : p.is who[i] = false) : isAll p who = false := by
  unfold isAll
  rw [List.all_eq_false]; exact ⟨who[i], List.getElem_mem hi, by rw [h]; simp⟩
theorem isAll_yes {p : P} {who : List Int} (h : ∀ i, (hi : i < who.length) → p.is who[i] = true) : isAll p who = true := by
  unfold isAll
  rw [List.all_eq_true]
  intro x hx
  obtain ⟨i, hi, rfl⟩ := List.mem_iff_getElem.mp hx
  exact h i hi
set_option maxHeartbeats 4000000 in
theorem check_any (N T L W S R : Int) (A1 A : Option Addr) (delta : List UInt8) (z : List Int) (c1 c : Nat) (w : World) (hp : (⟨N, T, L, W, S, R⟩ : P).In) (h : IntsAt w A z) (hm : z.length ≤ 1048576) :
    Calls Try.prog 12 #[.agg #[.int .i64 N, .int .i64 T, .int .i64 L, .int .i64 W, .int .i64 S, .int .i64 R], .slice A1 delta.length c1, .slice A z.length c] w fun e w' => e = .returned (.int .i64 (mcheck ⟨N, T, L, W, S, R⟩ delta z)) ∧ Below w.heap.size w w' := by
  have HA := Lib.hid (PlanLies.new w N T L W S R)
  have HB0 := Lib.hid (balloc w (.cells #[.int .i64 N, .int .i64 T, .int .i64 L, .int .i64 W, .int .i64 S, .int .i64 R] 23))
  obtain ⟨q, hq⟩ : ∃ q : P, q = ⟨N, T, L, W, S, R⟩ := ⟨_, rfl⟩
  rw [← hq] at hp ⊢
  have hv : q.val = .agg #[.int .i64 N, .int .i64 T, .int .i64 L, .int .i64 W, .int .i64 S, .int .i64 R] := by rw [hq]; rfl
  have hR := fun V => R08.right_any q V hp
  have hI := fun x V => R08.is_any q x V
  rw [hv] at hR hI
  have eT : q.T = T := by rw [hq]
  have eL : q.L = L := by rw [hq]
  have hP := fun V (h : IntsAt V A z) => R08.points_any A z c V h (by omega)
  have hU := fun X d V (h : BytesAt V X (points z)) => R03.unlike_any X (points z) d V h (by rw [points_len]; omega)
  obtain ⟨ans, hans⟩ : ∃ ans, ans = mcheck q delta z := ⟨_, rfl⟩
  rw [← hans]
  unfold mcheck at hans
  rw [eT, eL] at hans
  have hno := fun i (hi : i < z.length) (h : q.is z[i] = false) => isAll_no hi h
  have hyes := fun (h : ∀ i, (hi : i < z.length) → q.is z[i] = true) => isAll_yes h
  generalize isAll q z = al at *
  generalize LagrM.unl (points z) = un at *
  generalize q.right = vr at *
  unfold RetNew at hP
  generalize points z = pts at *
  have hpl : pts.length ≤ pts.length := Nat.le_refl _
  have H := Lib.hid h; have HP := Lib.hid hP; have HU := Lib.hid hU; have HI := Lib.hid hI; have HNO := Lib.hid hno; have HYES := Lib.hid hyes; have HANS := Lib.hid hans; have HR := Lib.hid hR
  generalize q.is = isf at *
  obtain ⟨dn, hdn⟩ : ∃ dn, dn = delta.length := ⟨_, rfl⟩
  rw [← hdn] at HANS ⊢
  clear hp h hP hU hI hno hyes hans hR hq hv eT eL hpl hdn
  obtain ⟨pl, hpl⟩ : ∃ pl, pl = pts.length := ⟨_, rfl⟩
  rw [← hpl] at HP HU
  clear hpl
  go_enter Try.func12, Try.ntmps12
  go_wp2_with fail
  generalize w.alloc (.cells #[.int .i64 N, .int .i64 T, .int .i64 L, .int .i64 W, .int .i64 S, .int .i64 R] 23) = w0 at *
  refine (HR.out _).mono ?_
  rintro e w1 ⟨rfl, hb1⟩
  have ha := HANS.out
  have HB1 := Lib.hid (bstep HB0.out hb1)
  cases vr
  · rw [if_neg (by decide)] at ha
    subst ha
    go_wp2
    go_ret
    exact ⟨rfl, HB1.out⟩
  rw [if_pos rfl] at ha
  have HPL1 := Lib.hid (HA.out.below hb1)
  obtain ⟨c0, c1', c2, c3, c4, c5⟩ := six (HA.out.below hb1)
  by_cases hL : (dn : Int) = L
  rotate_left
  · rw [if_pos hL] at ha
    subst ha
    go_wp2
    go_ret
    exact ⟨rfl, HB1.out⟩
  rw [if_neg (fun h => h hL)] at ha
  by_cases hT : T < (z.length : Int)
  · rw [if_pos hT] at ha
    subst ha
    go_wp2
    go_ret
    exact ⟨rfl, HB1.out⟩
  rw [if_neg hT] at ha
  have HAA := Lib.hid ha
  have HZN := Lib.hid hT
  clear ha HANS hb1
  go_wp2_with fail
  clear c0 c1' c2 c3 c4 c5
  go_loopw [7] (fun i wr => ∃ k : Nat, k ≤ z.length ∧ i = .int .i64 k ∧ (∀ j, (hj : j < z.length) → j < k → isf z[j] = true) ∧ Below w.heap.size w wr ∧ PlanLies wr w.heap.size N T L W S R)
    (fun i _ => z.length - (intOf i).toNat)
  case atStart => exact ⟨0, Nat.zero_le _, rfl, fun j _ h => by omega, HB1.out, HPL1.out⟩
  case round =>
    obtain ⟨k, hk, rfl, hall, hb2, hpl⟩ := hrel
    rename World => wr
    have HALL := Lib.hid hall; have HB2 := Lib.hid hb2; have HPL := Lib.hid hpl
    clear hall hb2 hpl
    by_cases hlt : k < z.length
    · obtain ⟨bz, oz, rfl, e0⟩ := (H.out.below HB2.out).at hlt
      have hC := fun V => HI.out z[k] V
      have hno := HNO.out k hlt
      have hk1 : (∀ j, (hj : j < z.length) → j < k + 1 → isf z[j] = true) ∨ isf z[k] = false := by
        rcases hv : isf z[k] with _ | _
        · exact .inr rfl
        · refine .inl fun j hj hjk => ?_
          by_cases e : j = k
          · subst e; exact hv
          · exact HALL.out j hj (by omega)
      obtain ⟨v, hv⟩ : ∃ v, v = isf z[k] := ⟨_, rfl⟩
      rw [← hv] at hC hno hk1
      obtain ⟨x, hx⟩ : ∃ x, x = z[k] := ⟨_, rfl⟩
      rw [← hx] at e0 hC
      have HC2 := Lib.hid hC; have HNO2 := Lib.hid hno; have HK1 := Lib.hid hk1
      clear hv hx hC hno hk1
      go_wp2_with fail
      refine Drawn.wp_region_flowL 7 [Drawn.SP.is (.agg #[.int .i64 N, .int .i64 T, .int .i64 L, .int .i64 W, .int .i64 S, .int .i64 R]), Drawn.SP.is (.slice (some ⟨bz, oz, none⟩) z.length c), Drawn.SP.is (.int .i64 (k : Nat)), Drawn.SP.is (.pointer (some ⟨bz, oz + k, none⟩)), Drawn.SP.is (.int .i64 x), Drawn.SP.is (.bool v), Drawn.SP.is (.bool (!v))] (by kernel_rfl) (by kernel_rfl) ?_ ?_
      · intro i hi a wq hb hev hdep
        rcases (show i = 0 ∨ i = 1 ∨ i = 2 ∨ i = 3 ∨ i = 4 ∨ i = 5 ∨ i = 6 by omega) with rfl | rfl | rfl | rfl | rfl | rfl | rfl
        · have e3 : a.tmps[3]?.getD undef = .pointer (some ⟨w.heap.size, 0, none⟩) := hev 3 rfl
          refine Drawn.wpOp_flow 27 rfl rfl rfl ?_
          clear hev hdep
          obtain ⟨c0, c1, c2, c3, c4, c5⟩ := six (HPL.out.below hb)
          clear hb
          go_simp
          exact ⟨_, rfl, rfl, Below.refl _ _⟩
        · have e2 : a.tmps[2]?.getD undef = .slice (some ⟨bz, oz, none⟩) z.length c := hev 2 rfl
          refine Drawn.wpOp_flow 28 rfl rfl rfl ?_
          clear hev hdep hb
          go_simp
          exact ⟨_, rfl, rfl, Below.refl _ _⟩
        · have e7 : a.tmps[7]?.getD undef = .int .i64 (k : Nat) := hev 7 rfl
          refine Drawn.wpOp_flow 29 rfl rfl rfl ?_
          clear hev hdep hb
          go_simp
          exact ⟨_, rfl, rfl, Below.refl _ _⟩
        · have d1 : a.tmps[28]?.getD undef = .slice (some ⟨bz, oz, none⟩) z.length c := hdep 1 rfl
          have d2 : a.tmps[29]?.getD undef = .int .i64 (k : Nat) := hdep 2 rfl
          refine Drawn.wpOp_flow 30 rfl rfl rfl ?_
          clear hev hdep hb
          go_simp
          exact ⟨_, rfl, rfl, Below.refl _ _⟩
        · have d3 : a.tmps[30]?.getD undef = .pointer (some ⟨bz, oz + k, none⟩) := hdep 3 rfl
          refine Drawn.wpOp_flow 31 rfl rfl rfl ?_
          clear hev hdep
          have cz := (hb.cell (p := ⟨bz, oz + k, none⟩) (cell_lt e0)).trans e0
          clear hb
          go_simp
          exact ⟨_, rfl, rfl, Below.refl _ _⟩
        · have d0 : a.tmps[27]?.getD undef = .agg #[.int .i64 N, .int .i64 T, .int .i64 L, .int .i64 W, .int .i64 S, .int .i64 R] := hdep 0 rfl
          have d4 : a.tmps[31]?.getD undef = .int .i64 x := hdep 4 rfl
          refine Drawn.wpOp_flow 32 rfl rfl rfl ?_
          clear hev hdep
          have C := HC2.out wq
          clear hb
          go_simp
          refine C.mono ?_
          rintro e w' ⟨rfl, hb'⟩
          exact ⟨_, rfl, rfl, hb'⟩
        · have d5 : a.tmps[32]?.getD undef = .bool v := hdep 5 rfl
          refine Drawn.wpOp_flow 33 rfl rfl rfl ?_
          clear hev hdep hb
          go_simp
          exact ⟨_, rfl, rfl, Below.refl _ _⟩
      · intro xq wq hb hxq
        have vq0 : xq 0 = .agg #[.int .i64 N, .int .i64 T, .int .i64 L, .int .i64 W, .int .i64 S, .int .i64 R] := hxq 0 (by omega)
        have vq1 : xq 1 = .slice (some ⟨bz, oz, none⟩) z.length c := hxq 1 (by omega)
        have vq2 : xq 2 = .int .i64 (k : Nat) := hxq 2 (by omega)
        have vq3 : xq 3 = .pointer (some ⟨bz, oz + k, none⟩) := hxq 3 (by omega)
        have vq4 : xq 4 = .int .i64 x := hxq 4 (by omega)
        have vq5 : xq 5 = .bool v := hxq 5 (by omega)
        have vq6 : xq 6 = .bool (!v) := hxq 6 (by omega)
        show Exit.then _ _ Exit.normal (Drawn.acts _ [(33, some (xq 6)), (32, some (xq 5)), (31, some (xq 4)), (30, some (xq 3)), (29, some (xq 2)), (28, some (xq 1)), (27, some (xq 0))]) _
        rw [vq0, vq1, vq2, vq3, vq4, vq5, vq6]
        clear hxq vq0 vq1 vq2 vq3 vq4 vq5 vq6
        clear xq
        simp only [Drawn.acts]
        go_simp
        have HB3 := Lib.hid (bstep HB2.out hb)
        have HPL3 := Lib.hid (HPL.out.below hb)
        clear hb e0
        go_at_K
        cases v
        · have ha := HAA.out
          rw [HNO2.out rfl, if_neg (by decide)] at ha
          subst ha
          go_wp2
          go_ret
          exact ⟨rfl, HB3.out⟩
        · have hk1 := HK1.out
          go_wp2
          go_roundw
          case rel => exact ⟨k + 1, by omega, by go_num, (by rcases hk1 with h | h; exact h; cases h), HB3.out, HPL3.out⟩
          case measure => simp [intOf] <;> omega
    · obtain rfl : k = z.length := by omega
      have ha := HAA.out
      rw [HYES.out fun i hi => HALL.out i hi hi, if_pos rfl] at ha
      have HAA := Lib.hid ha
      clear ha
      go_wp2_with fail
      refine (HP.out wr (H.out.below HB2.out)).mono ?_
      rintro e w3 ⟨X, d, rfl, _, _, hX, hb3, _⟩
      have HX := Lib.hid hX
      have HB3 := Lib.hid (bstep HB2.out hb3)
      clear hX hb3
      go_wp2_with fail
      refine (HU.out X d w3 HX.out).mono ?_
      rintro e w4 ⟨rfl, hq4⟩
      have HB4 := Lib.hid (bstep HB3.out (bquiet hq4))
      have ha := HAA.out
      clear hq4
      cases un
      · rw [if_neg (by decide)] at ha
        subst ha
        go_wp2
        go_ret
        exact ⟨rfl, HB4.out⟩
      · rw [if_pos rfl] at ha
        subst ha
        go_wp2
        go_ret
        exact ⟨rfl, HB4.out⟩
end Go.Proofs.Ytompeiemioeohaa.R14

/- the document's own answers of layer 14: Shift, Zero, Deal, Blind -/
set_option maxRecDepth 100000
namespace Go.Proofs.Ytompeiemioeohaa.R14
open Go.RowKit PlanM StripeM DealM RebM ZeroM MaskM Law08 Law10

set_option maxHeartbeats 4000000 in
theorem zero_any (W S R : Int) (n0 t0 l0 : Nat) (A : Option Addr) (sh : List UInt8) (c : Nat) (w : World) (hM : (⟨n0, t0, l0, W, S, R⟩ : P).May) (h : BytesAt w A sh) (hl : sh.length ≤ 1048576) :
    Calls Try.prog 26 #[.agg #[.int .i64 (n0 : Nat), .int .i64 (t0 : Nat), .int .i64 (l0 : Nat), .int .i64 W, .int .i64 S, .int .i64 R], .slice A sh.length c] w (RetB w (mzero ⟨n0, t0, l0, W, S, R⟩ sh)) := by
  have HA := Lib.hid (PlanLies.new w n0 t0 l0 W S R)
  have HB0 := Lib.hid (balloc w (.cells #[.int .i64 (n0 : Nat), .int .i64 (t0 : Nat), .int .i64 (l0 : Nat), .int .i64 W, .int .i64 S, .int .i64 R] 23))
  obtain ⟨q, hq⟩ : ∃ q : P, q = ⟨n0, t0, l0, W, S, R⟩ := ⟨_, rfl⟩
  rw [← hq] at hM ⊢
  have hv : q.val = .agg #[.int .i64 (n0 : Nat), .int .i64 (t0 : Nat), .int .i64 (l0 : Nat), .int .i64 W, .int .i64 S, .int .i64 R] := by rw [hq]; rfl
  have eN : q.N.toNat = n0 := by rw [hq]; exact Int.toNat_natCast _
  have eT : q.T.toNat = t0 := by rw [hq]; exact Int.toNat_natCast _
  have eL : q.L.toNat = l0 := by rw [hq]; exact Int.toNat_natCast _
  have hM' := hM
  unfold P.May at hM'
  have hsl := secrets_len q
  rw [eL] at hsl
  have hS := fun V => secrets_own q V (by omega) (by omega) (by omega)
  rw [hv] at hS
  unfold mzero
  rw [eT]
  have hRT := fun X d V (hx : BytesAt V X q.secrets) => R02.root_any X q.secrets d V hx (by omega)
  have hrl := PolyM.proot_len q.secrets
  generalize PolyM.proot q.secrets = rt at *
  have hOV := fun X d V (ha : BytesAt V A sh) (hx : BytesAt V X rt) => over_any A X sh rt c d V ha hx hl (by omega) (by omega)
  have hol := over_len sh rt
  generalize over sh rt = ov at *
  have hSZ := fun X d V (hx : BytesAt V X ov) => sized_any X ov d t0 V hx (by omega) (by omega)
  have hzl := sized_len ov t0
  generalize sized ov t0 = res at *
  unfold RetB
  rw [hzl]
  unfold RetNew at hOV hSZ
  unfold RetBytes at hRT
  rw [hzl] at hSZ
  rw [hsl] at hRT
  have HSL := Lib.hid hsl
  generalize q.secrets = sec at *
  obtain ⟨rn, hrn⟩ : ∃ rn, rn = rt.length := ⟨_, rfl⟩
  obtain ⟨on, hon⟩ : ∃ on, on = ov.length := ⟨_, rfl⟩
  obtain ⟨n, hn⟩ : ∃ n, n = sh.length := ⟨_, rfl⟩
  rw [← hrn] at hRT hOV
  rw [← hon] at hOV hSZ
  rw [← hn] at hOV ⊢
  have HSEC := Lib.hid hS; have HRT := Lib.hid hRT; have HOV := Lib.hid hOV; have HSZ := Lib.hid hSZ; have H := Lib.hid h
  clear hS hRT hOV hSZ h hl hM hM' hsl hrl hol hzl hrn hon hn hq hv eN eT eL
  clear q
  go_enter Try.func26, Try.ntmps26
  go_wp2_with fail
  generalize w.alloc (.cells #[.int .i64 (n0 : Nat), .int .i64 (t0 : Nat), .int .i64 (l0 : Nat), .int .i64 W, .int .i64 S, .int .i64 R] 23) = w0 at *
  go_wp2_with fail
  refine Drawn.wp_region_flowL 9 [Drawn.SP.is (.slice A n c), Drawn.SP.is (.agg #[.int .i64 (n0 : Nat), .int .i64 (t0 : Nat), .int .i64 (l0 : Nat), .int .i64 W, .int .i64 S, .int .i64 R]), SP.bN sec l0, SP.bN rt rn, SP.bN ov on, Drawn.SP.is (.pointer (some ⟨w.heap.size, 1, none⟩)), Drawn.SP.is (.int .i64 (t0 : Nat)), SP.bN res t0, SP.bN res t0] (by kernel_rfl) (by kernel_rfl) ?_ ?_
  · intro i hi a wq hb hev hdep
    rcases (show i = 0 ∨ i = 1 ∨ i = 2 ∨ i = 3 ∨ i = 4 ∨ i = 5 ∨ i = 6 ∨ i = 7 ∨ i = 8 by omega) with rfl | rfl | rfl | rfl | rfl | rfl | rfl | rfl | rfl
    · have e1 : a.tmps[1]?.getD undef = .slice A n c := hev 1 rfl
      refine Drawn.wpOp_flow 5 rfl rfl rfl ?_
      clear hev hdep hb
      go_simp
      exact ⟨_, rfl, rfl, Below.refl _ _⟩
    · have e2 : a.tmps[2]?.getD undef = .pointer (some ⟨w.heap.size, 0, none⟩) := hev 2 rfl
      refine Drawn.wpOp_flow 6 rfl rfl rfl ?_
      obtain ⟨c0, c1, c2, c3, c4, c5⟩ := six (HA.out.below hb)
      clear hev hdep hb
      go_simp
      exact ⟨_, rfl, rfl, Below.refl _ _⟩
    · have d1 : a.tmps[6]?.getD undef = .agg #[.int .i64 (n0 : Nat), .int .i64 (t0 : Nat), .int .i64 (l0 : Nat), .int .i64 W, .int .i64 S, .int .i64 R] := hdep 1 rfl
      refine Drawn.wpOp_flow 7 rfl rfl rfl ?_
      clear hev hdep
      have C := HSEC.out wq
      clear hb
      go_simp
      refine C.mono ?_
      rintro e w' hr
      obtain ⟨X, d, rfl, _, _, g3, hb', _⟩ := hr.new
      exact ⟨_, rfl, ⟨X, d, by rw [HSL.out], g3⟩, hb'⟩
    · obtain ⟨X1, d1, d2, x1⟩ : (SP.bN sec l0).p (a.tmps[7]?.getD undef) wq := hdep 2 rfl
      refine Drawn.wpOp_flow 8 rfl rfl rfl ?_
      clear hev hdep
      have C := HRT.out X1 d1 wq x1
      clear x1
      clear hb
      go_simp
      refine C.mono ?_
      rintro e w' ⟨X, d, rfl, _, _, g3, hb'⟩
      exact ⟨_, rfl, ⟨X, d, rfl, g3⟩, hb'⟩
    · have d0 : a.tmps[5]?.getD undef = .slice A n c := hdep 0 rfl
      obtain ⟨X2, d2, d3, x2⟩ : (SP.bN rt rn).p (a.tmps[8]?.getD undef) wq := hdep 3 rfl
      refine Drawn.wpOp_flow 9 rfl rfl rfl ?_
      clear hev hdep
      have C := HOV.out X2 d2 wq (H.out.below (bstep HB0.out hb)) x2
      clear x2
      clear hb
      go_simp
      refine C.mono ?_
      rintro e w' ⟨X, d, rfl, _, _, g3, hb', _⟩
      exact ⟨_, rfl, ⟨X, d, rfl, g3⟩, hb'⟩
    · have e2 : a.tmps[2]?.getD undef = .pointer (some ⟨w.heap.size, 0, none⟩) := hev 2 rfl
      refine Drawn.wpOp_flow 10 rfl rfl rfl ?_
      clear hev hdep hb
      go_simp
      exact ⟨_, rfl, rfl, Below.refl _ _⟩
    · have d5 : a.tmps[10]?.getD undef = .pointer (some ⟨w.heap.size, 1, none⟩) := hdep 5 rfl
      refine Drawn.wpOp_flow 11 rfl rfl rfl ?_
      obtain ⟨c0, c1, c2, c3, c4, c5⟩ := six (HA.out.below hb)
      clear hev hdep hb
      go_simp
      exact ⟨_, rfl, rfl, Below.refl _ _⟩
    · obtain ⟨X3, d3, d4, x3⟩ : (SP.bN ov on).p (a.tmps[9]?.getD undef) wq := hdep 4 rfl
      have d6 : a.tmps[11]?.getD undef = .int .i64 (t0 : Nat) := hdep 6 rfl
      refine Drawn.wpOp_flow 12 rfl rfl rfl ?_
      clear hev hdep
      have C := HSZ.out X3 d3 wq x3
      clear x3
      clear hb
      go_simp
      refine C.mono ?_
      rintro e w' ⟨X, d, rfl, _, _, g3, hb', _⟩
      exact ⟨_, rfl, ⟨X, d, rfl, g3⟩, hb'⟩
    · have d7 := hdep 7 rfl
      refine Drawn.wpOp_flow 4 rfl rfl rfl ?_
      clear hev hdep hb
      go_simp
      exact ⟨_, rfl, d7, Below.refl _ _⟩
  · intro xq wq hb hxq
    have vq0 : xq 0 = .slice A n c := hxq 0 (by omega)
    have vq1 : xq 1 = .agg #[.int .i64 (n0 : Nat), .int .i64 (t0 : Nat), .int .i64 (l0 : Nat), .int .i64 W, .int .i64 S, .int .i64 R] := hxq 1 (by omega)
    have vq5 : xq 5 = .pointer (some ⟨w.heap.size, 1, none⟩) := hxq 5 (by omega)
    have vq6 : xq 6 = .int .i64 (t0 : Nat) := hxq 6 (by omega)
    obtain ⟨X4, d4, vq8, x4⟩ : (SP.bN res t0).p (xq 8) wq := hxq 8 (by omega)
    show Exit.then _ _ Exit.normal (Drawn.acts _ [(4, some (xq 8)), (12, some (xq 7)), (11, some (xq 6)), (10, some (xq 5)), (9, some (xq 4)), (8, some (xq 3)), (7, some (xq 2)), (6, some (xq 1)), (5, some (xq 0))]) _
    rw [vq0, vq1, vq5, vq6, vq8]
    clear hxq vq0 vq1 vq5 vq6 vq8
    generalize xq 2 = yq2
    generalize xq 3 = yq3
    generalize xq 4 = yq4
    generalize xq 7 = yq7
    clear xq
    simp only [Drawn.acts]
    go_simp
    have HX := Lib.hid x4
    have HB2 := Lib.hid (bstep HB0.out hb)
    clear x4 hb
    go_at_K
    go_wp2
    go_ret
    exact ⟨X4, d4, rfl, HX.out, HB2.out⟩

set_option maxHeartbeats 4000000 in
theorem deal_any (W S R : Int) (n0 t0 l0 : Nat) (A1 A : Option Addr) (delta sh : List UInt8) (c1 c : Nat) (w : World) (hM : (⟨n0, t0, l0, W, S, R⟩ : P).May) (h1 : BytesAt w A1 delta) (h : BytesAt w A sh) (hdl : delta.length ≤ 1048576) (hl : sh.length ≤ 1048000) :
    Calls Try.prog 25 #[.agg #[.int .i64 (n0 : Nat), .int .i64 (t0 : Nat), .int .i64 (l0 : Nat), .int .i64 W, .int .i64 S, .int .i64 R], .slice A1 delta.length c1, .slice A sh.length c] w (RetB w (mdeal ⟨n0, t0, l0, W, S, R⟩ delta sh)) := by
  have HA := Lib.hid (PlanLies.new w n0 t0 l0 W S R)
  have HB0 := Lib.hid (balloc w (.cells #[.int .i64 (n0 : Nat), .int .i64 (t0 : Nat), .int .i64 (l0 : Nat), .int .i64 W, .int .i64 S, .int .i64 R] 23))
  obtain ⟨q, hq⟩ : ∃ q : P, q = ⟨n0, t0, l0, W, S, R⟩ := ⟨_, rfl⟩
  rw [← hq] at hM ⊢
  have hv : q.val = .agg #[.int .i64 (n0 : Nat), .int .i64 (t0 : Nat), .int .i64 (l0 : Nat), .int .i64 W, .int .i64 S, .int .i64 R] := by rw [hq]; rfl
  have eN : q.N.toNat = n0 := by rw [hq]; exact Int.toNat_natCast _
  have eT : q.T.toNat = t0 := by rw [hq]; exact Int.toNat_natCast _
  have eL : q.L.toNat = l0 := by rw [hq]; exact Int.toNat_natCast _
  have hM' := hM
  unfold P.May at hM'
  have hsl := secrets_len q
  rw [eL] at hsl
  have hS := fun V => secrets_own q V (by omega) (by omega) (by omega)
  rw [hv] at hS
  unfold mdeal
  rw [eT, hsl]
  have hFT := fun V (hx : BytesAt V A1 delta) => sized_any A1 delta c1 l0 V hx (by omega) (by omega)
  have hfl := sized_len delta l0
  generalize sized delta l0 = sd at *
  have htl := LagrM.thr_len q.secrets sd
  have hTH := fun Xs ds X d V (hs : BytesAt V Xs q.secrets) (hx : BytesAt V X sd) => R03.through_any Xs X q.secrets sd ds d V hs hx (by omega) (by omega)
  generalize LagrM.thr q.secrets sd = th at *
  have hSM := fun X d V (ha : BytesAt V A sh) (hx : BytesAt V X th) => R02.sum_new A X sh th c d V ha hx (by omega) (by omega)
  have hml := LagrM.padd_len sh th
  generalize PolyM.padd sh th = sm at *
  have hRT := fun X d V (hx : BytesAt V X q.secrets) => R02.root_any X q.secrets d V hx (by omega)
  have hrl := PolyM.proot_len q.secrets
  generalize PolyM.proot q.secrets = rt at *
  have hOV := fun Y f X d V (ha : BytesAt V Y sm) (hx : BytesAt V X rt) => over_any Y X sm rt f d V ha hx (by omega) (by omega) (by omega)
  have hol := over_len sm rt
  generalize over sm rt = ov at *
  have hSZ := fun X d V (hx : BytesAt V X ov) => sized_any X ov d t0 V hx (by omega) (by omega)
  have hzl := sized_len ov t0
  generalize sized ov t0 = res at *
  unfold RetB
  rw [hzl]
  unfold RetNew at hOV hSZ hFT hSM
  unfold RetBytes at hRT hTH
  rw [hzl] at hSZ
  rw [hfl] at hFT hTH
  rw [hsl] at hRT hTH
  have HSL := Lib.hid hsl
  generalize q.secrets = sec at *
  obtain ⟨rn, hrn⟩ : ∃ rn, rn = rt.length := ⟨_, rfl⟩
  obtain ⟨on, hon⟩ : ∃ on, on = ov.length := ⟨_, rfl⟩
  obtain ⟨tn, htn⟩ : ∃ tn, tn = th.length := ⟨_, rfl⟩
  obtain ⟨mn, hmn⟩ : ∃ mn, mn = sm.length := ⟨_, rfl⟩
  obtain ⟨n, hn⟩ : ∃ n, n = sh.length := ⟨_, rfl⟩
  obtain ⟨m, hm⟩ : ∃ m, m = delta.length := ⟨_, rfl⟩
  rw [← hrn] at hRT hOV
  rw [← hon] at hOV hSZ
  rw [← htn] at hTH hSM
  rw [← hmn] at hSM hOV
  rw [← hn] at hSM ⊢
  rw [← hm] at hFT ⊢
  have HSEC := Lib.hid hS; have HRT := Lib.hid hRT; have HOV := Lib.hid hOV; have HSZ := Lib.hid hSZ; have H := Lib.hid h; have H1 := Lib.hid h1; have HFT := Lib.hid hFT; have HSM := Lib.hid hSM
  have HTH0 := Lib.hid hTH
  clear hS hRT hOV hSZ h h1 hl hdl hM hM' hsl hrl hol hzl hrn hon hn hm htn hmn hq hv eN eT eL hFT hfl htl hTH hSM hml
  clear q
  go_enter Try.func25, Try.ntmps25
  go_wp2_with fail
  generalize w.alloc (.cells #[.int .i64 (n0 : Nat), .int .i64 (t0 : Nat), .int .i64 (l0 : Nat), .int .i64 W, .int .i64 S, .int .i64 R] 23) = w0 at *
  obtain ⟨c0, c1', c2, c3, c4, c5⟩ := six HA.out
  refine (HSEC.out _).mono ?_
  rintro e w1 hr
  obtain ⟨Xs, ds, rfl, _, _, x3, hb1, _⟩ := hr.new
  rw [HSL.out]
  have HX := Lib.hid x3
  have HB1 := Lib.hid (bstep HB0.out hb1)
  have HBL := Lib.hid hb1
  have HTH := Lib.hid (fun X d V hs hx => HTH0.out Xs ds X d V hs hx)
  clear x3 hr hb1 c0 c1' c2 c3 c4 c5
  go_wp2_with fail
  refine Drawn.wp_region_flowL 15 [Drawn.SP.is (.slice A n c), Drawn.SP.is (.slice Xs l0 ds), Drawn.SP.is (.slice A1 m c1), Drawn.SP.is (.slice Xs l0 ds), Drawn.SP.is (.int .i64 (l0 : Nat)), SP.bN sd l0, SP.bN th tn, SP.bN sm mn, Drawn.SP.is (.slice Xs l0 ds), SP.bN rt rn, SP.bN ov on, Drawn.SP.is (.pointer (some ⟨w.heap.size, 1, none⟩)), Drawn.SP.is (.int .i64 (t0 : Nat)), SP.bN res t0, SP.bN res t0] (by kernel_rfl) (by kernel_rfl) ?_ ?_
  · intro i hi a wq hb hev hdep
    rcases (show i = 0 ∨ i = 1 ∨ i = 2 ∨ i = 3 ∨ i = 4 ∨ i = 5 ∨ i = 6 ∨ i = 7 ∨ i = 8 ∨ i = 9 ∨ i = 10 ∨ i = 11 ∨ i = 12 ∨ i = 13 ∨ i = 14 by omega) with rfl | rfl | rfl | rfl | rfl | rfl | rfl | rfl | rfl | rfl | rfl | rfl | rfl | rfl | rfl
    · have e2 : a.tmps[2]?.getD undef = .slice A n c := hev 2 rfl
      refine Drawn.wpOp_flow 10 rfl rfl rfl ?_
      clear hev hdep hb
      go_simp
      exact ⟨_, rfl, rfl, Below.refl _ _⟩
    · have e7 : a.tmps[7]?.getD undef = .slice Xs l0 ds := hev 7 rfl
      refine Drawn.wpOp_flow 11 rfl rfl rfl ?_
      clear hev hdep hb
      go_simp
      exact ⟨_, rfl, rfl, Below.refl _ _⟩
    · have e1 : a.tmps[1]?.getD undef = .slice A1 m c1 := hev 1 rfl
      refine Drawn.wpOp_flow 12 rfl rfl rfl ?_
      clear hev hdep hb
      go_simp
      exact ⟨_, rfl, rfl, Below.refl _ _⟩
    · have e7 : a.tmps[7]?.getD undef = .slice Xs l0 ds := hev 7 rfl
      refine Drawn.wpOp_flow 13 rfl rfl rfl ?_
      clear hev hdep hb
      go_simp
      exact ⟨_, rfl, rfl, Below.refl _ _⟩
    · have d3 : a.tmps[13]?.getD undef = .slice Xs l0 ds := hdep 3 rfl
      refine Drawn.wpOp_flow 14 rfl rfl rfl ?_
      clear hev hdep hb
      go_simp
      exact ⟨_, rfl, rfl, Below.refl _ _⟩
    · have d2 : a.tmps[12]?.getD undef = .slice A1 m c1 := hdep 2 rfl
      have d4 : a.tmps[14]?.getD undef = .int .i64 (l0 : Nat) := hdep 4 rfl
      refine Drawn.wpOp_flow 15 rfl rfl rfl ?_
      clear hev hdep
      have C := HFT.out wq (H1.out.below (bstep HB1.out hb))
      clear hb
      go_simp
      refine C.mono ?_
      rintro e w' ⟨X, d, rfl, _, _, g3, hb', _⟩
      exact ⟨_, rfl, ⟨X, d, rfl, g3⟩, hb'⟩
    · have d1 : a.tmps[11]?.getD undef = .slice Xs l0 ds := hdep 1 rfl
      obtain ⟨X1, d1, d5, x1⟩ : (SP.bN sd l0).p (a.tmps[15]?.getD undef) wq := hdep 5 rfl
      refine Drawn.wpOp_flow 16 rfl rfl rfl ?_
      clear hev hdep
      have C := HTH.out X1 d1 wq (HX.out.below hb) x1
      clear x1
      clear hb
      go_simp
      refine C.mono ?_
      rintro e w' ⟨X, d, rfl, _, _, g3, hb'⟩
      exact ⟨_, rfl, ⟨X, d, rfl, g3⟩, hb'⟩
    · have d0 : a.tmps[10]?.getD undef = .slice A n c := hdep 0 rfl
      obtain ⟨X5, d5, d6, x5⟩ : (SP.bN th tn).p (a.tmps[16]?.getD undef) wq := hdep 6 rfl
      refine Drawn.wpOp_flow 17 rfl rfl rfl ?_
      clear hev hdep
      have C := HSM.out X5 d5 wq (H.out.below (bstep HB1.out hb)) x5
      clear x5
      clear hb
      go_simp
      refine C.mono ?_
      rintro e w' ⟨X, d, rfl, _, _, g3, hb', _⟩
      exact ⟨_, rfl, ⟨X, d, rfl, g3⟩, hb'⟩
    · have e7 : a.tmps[7]?.getD undef = .slice Xs l0 ds := hev 7 rfl
      refine Drawn.wpOp_flow 18 rfl rfl rfl ?_
      clear hev hdep hb
      go_simp
      exact ⟨_, rfl, rfl, Below.refl _ _⟩
    · have d8 : a.tmps[18]?.getD undef = .slice Xs l0 ds := hdep 8 rfl
      refine Drawn.wpOp_flow 19 rfl rfl rfl ?_
      clear hev hdep
      have C := HRT.out Xs ds wq (HX.out.below hb)
      clear hb
      go_simp
      refine C.mono ?_
      rintro e w' ⟨X, d, rfl, _, _, g3, hb'⟩
      exact ⟨_, rfl, ⟨X, d, rfl, g3⟩, hb'⟩
    · obtain ⟨X6, d6, d7, x6⟩ : (SP.bN sm mn).p (a.tmps[17]?.getD undef) wq := hdep 7 rfl
      obtain ⟨X2, d2, d9, x2⟩ : (SP.bN rt rn).p (a.tmps[19]?.getD undef) wq := hdep 9 rfl
      refine Drawn.wpOp_flow 20 rfl rfl rfl ?_
      clear hev hdep
      have C := HOV.out X6 d6 X2 d2 wq x6 x2
      clear x6 x2
      clear hb
      go_simp
      refine C.mono ?_
      rintro e w' ⟨X, d, rfl, _, _, g3, hb', _⟩
      exact ⟨_, rfl, ⟨X, d, rfl, g3⟩, hb'⟩
    · have e3 : a.tmps[3]?.getD undef = .pointer (some ⟨w.heap.size, 0, none⟩) := hev 3 rfl
      refine Drawn.wpOp_flow 21 rfl rfl rfl ?_
      clear hev hdep hb
      go_simp
      exact ⟨_, rfl, rfl, Below.refl _ _⟩
    · have d11 : a.tmps[21]?.getD undef = .pointer (some ⟨w.heap.size, 1, none⟩) := hdep 11 rfl
      refine Drawn.wpOp_flow 22 rfl rfl rfl ?_
      obtain ⟨c0, c1, c2, c3, c4, c5⟩ := six (HA.out.below (bstep HBL.out hb))
      clear hev hdep hb
      go_simp
      exact ⟨_, rfl, rfl, Below.refl _ _⟩
    · obtain ⟨X3, d3, d10, x3⟩ : (SP.bN ov on).p (a.tmps[20]?.getD undef) wq := hdep 10 rfl
      have d12 : a.tmps[22]?.getD undef = .int .i64 (t0 : Nat) := hdep 12 rfl
      refine Drawn.wpOp_flow 23 rfl rfl rfl ?_
      clear hev hdep
      have C := HSZ.out X3 d3 wq x3
      clear x3
      clear hb
      go_simp
      refine C.mono ?_
      rintro e w' ⟨X, d, rfl, _, _, g3, hb', _⟩
      exact ⟨_, rfl, ⟨X, d, rfl, g3⟩, hb'⟩
    · have d13 := hdep 13 rfl
      refine Drawn.wpOp_flow 6 rfl rfl rfl ?_
      clear hev hdep hb
      go_simp
      exact ⟨_, rfl, d13, Below.refl _ _⟩
  · intro xq wq hb hxq
    have vq0 : xq 0 = .slice A n c := hxq 0 (by omega)
    have vq1 : xq 1 = .slice Xs l0 ds := hxq 1 (by omega)
    have vq2 : xq 2 = .slice A1 m c1 := hxq 2 (by omega)
    have vq3 : xq 3 = .slice Xs l0 ds := hxq 3 (by omega)
    have vq4 : xq 4 = .int .i64 (l0 : Nat) := hxq 4 (by omega)
    have vq8 : xq 8 = .slice Xs l0 ds := hxq 8 (by omega)
    have vq11 : xq 11 = .pointer (some ⟨w.heap.size, 1, none⟩) := hxq 11 (by omega)
    have vq12 : xq 12 = .int .i64 (t0 : Nat) := hxq 12 (by omega)
    obtain ⟨X4, d4, vq14, x4⟩ : (SP.bN res t0).p (xq 14) wq := hxq 14 (by omega)
    show Exit.then _ _ Exit.normal (Drawn.acts _ [(6, some (xq 14)), (23, some (xq 13)), (22, some (xq 12)), (21, some (xq 11)), (20, some (xq 10)), (19, some (xq 9)), (18, some (xq 8)), (17, some (xq 7)), (16, some (xq 6)), (15, some (xq 5)), (14, some (xq 4)), (13, some (xq 3)), (12, some (xq 2)), (11, some (xq 1)), (10, some (xq 0))]) _
    rw [vq0, vq1, vq2, vq3, vq4, vq8, vq11, vq12, vq14]
    clear hxq vq0 vq1 vq2 vq3 vq4 vq8 vq11 vq12 vq14
    generalize xq 5 = yq5
    generalize xq 6 = yq6
    generalize xq 7 = yq7
    generalize xq 9 = yq9
    generalize xq 10 = yq10
    generalize xq 13 = yq13
    clear xq
    simp only [Drawn.acts]
    go_simp
    have HX := Lib.hid x4
    have HB2 := Lib.hid (bstep HB1.out hb)
    clear x4 hb
    go_at_K
    go_wp2
    go_ret
    exact ⟨X4, d4, rfl, HX.out, HB2.out⟩

set_option maxHeartbeats 4000000 in
theorem blind_any (W S R : Int) (n0 t0 l0 : Nat) (A : Option Addr) (sh : List UInt8) (c : Nat) (t : Int) (w : World) (hM : (⟨n0, t0, l0, W, S, R⟩ : P).May) (h : BytesAt w A sh) (hl : sh.length ≤ 1048576) :
    Calls Try.prog 24 #[.agg #[.int .i64 (n0 : Nat), .int .i64 (t0 : Nat), .int .i64 (l0 : Nat), .int .i64 W, .int .i64 S, .int .i64 R], .slice A sh.length c, .int .i64 t] w (RetB w (mblind ⟨n0, t0, l0, W, S, R⟩ sh t)) := by
  have HA := Lib.hid (PlanLies.new w n0 t0 l0 W S R)
  have HB0 := Lib.hid (balloc w (.cells #[.int .i64 (n0 : Nat), .int .i64 (t0 : Nat), .int .i64 (l0 : Nat), .int .i64 W, .int .i64 S, .int .i64 R] 23))
  obtain ⟨q, hq⟩ : ∃ q : P, q = ⟨n0, t0, l0, W, S, R⟩ := ⟨_, rfl⟩
  rw [← hq] at hM ⊢
  have hv : q.val = .agg #[.int .i64 (n0 : Nat), .int .i64 (t0 : Nat), .int .i64 (l0 : Nat), .int .i64 W, .int .i64 S, .int .i64 R] := by rw [hq]; rfl
  have eN : q.N.toNat = n0 := by rw [hq]; exact Int.toNat_natCast _
  have eT : q.T.toNat = t0 := by rw [hq]; exact Int.toNat_natCast _
  have eL : q.L.toNat = l0 := by rw [hq]; exact Int.toNat_natCast _
  have hM' := hM
  unfold P.May at hM'
  have hsl := secrets_len q
  rw [eL] at hsl
  obtain ⟨wd, hwd⟩ : ∃ wd : Nat, wd = t0 + l0 - 1 := ⟨_, rfl⟩
  have e1 : q.T = t0 := by rw [hq]
  have e2 : q.L = l0 := by rw [hq]
  have hww : (width q).toNat = wd := by unfold width; omega
  unfold mblind
  rw [hww]
  have hPT := fun V => R08.point_any t V
  generalize point t = pt at *
  have HI1 : Hid (IntKind.i64.wrap ((t0 : Int) + (l0 : Int)) = (t0 : Int) + l0) := Lib.hid (IntWalk.i64_in _ (by omega))
  have HI2 : Hid (IntKind.i64.wrap ((t0 : Int) + (l0 : Int) - 1) = (wd : Int)) := Lib.hid (by rw [IntWalk.i64_in _ (by omega)]; omega)
  have hOV := fun X d V (ha : BytesAt V A sh) (hx : BytesAt V X [pt, 1]) => over_any A X sh [pt, 1] c d V ha hx hl (by simp) (by simp)
  have hol := over_len sh [pt, 1]
  have h2l : [pt, 1].length = 2 := rfl
  generalize over sh [pt, 1] = ov at *
  have hSZ := fun X d V (hx : BytesAt V X ov) => sized_any X ov d wd V hx (by omega) (by omega)
  have hzl := sized_len ov wd
  generalize sized ov wd = res at *
  unfold RetB
  rw [hzl]
  unfold RetNew at hOV hSZ
  rw [hzl] at hSZ
  obtain ⟨on, hon⟩ : ∃ on, on = ov.length := ⟨_, rfl⟩
  obtain ⟨n, hn⟩ : ∃ n, n = sh.length := ⟨_, rfl⟩
  rw [← hon] at hOV hSZ
  rw [← hn] at hOV ⊢
  simp only [List.length_cons, List.length_nil] at hOV
  have HPT := Lib.hid hPT; have HOV := Lib.hid hOV; have HSZ := Lib.hid hSZ; have H := Lib.hid h
  clear hPT hOV hSZ h hl hM hM' hsl hol h2l hzl hon hn hq hv eN eT eL hwd hww e1 e2
  clear q
  go_enter Try.func24, Try.ntmps24
  go_wp2_with fail
  generalize w.alloc (.cells #[.int .i64 (n0 : Nat), .int .i64 (t0 : Nat), .int .i64 (l0 : Nat), .int .i64 W, .int .i64 S, .int .i64 R] 23) = w0 at *
  go_wp2_with fail
  refine Drawn.wp_region_flowL 13 [Drawn.SP.is (.slice A n c), Drawn.SP.is (.int .i64 t), Drawn.SP.is (.int .u8 (pt.toNat : Nat)), SP.bN [pt, 1] 2, SP.bN ov on, Drawn.SP.is (.pointer (some ⟨w.heap.size, 1, none⟩)), Drawn.SP.is (.int .i64 (t0 : Nat)), Drawn.SP.is (.pointer (some ⟨w.heap.size, 2, none⟩)), Drawn.SP.is (.int .i64 (l0 : Nat)), Drawn.SP.is (.int .i64 ((t0 : Int) + (l0 : Int))), Drawn.SP.is (.int .i64 (wd : Nat)), SP.bN res wd, SP.bN res wd] (by kernel_rfl) (by kernel_rfl) ?_ ?_
  · intro i hi a wq hb hev hdep
    rcases (show i = 0 ∨ i = 1 ∨ i = 2 ∨ i = 3 ∨ i = 4 ∨ i = 5 ∨ i = 6 ∨ i = 7 ∨ i = 8 ∨ i = 9 ∨ i = 10 ∨ i = 11 ∨ i = 12 by omega) with rfl | rfl | rfl | rfl | rfl | rfl | rfl | rfl | rfl | rfl | rfl | rfl | rfl
    · have e1 : a.tmps[1]?.getD undef = .slice A n c := hev 1 rfl
      refine Drawn.wpOp_flow 7 rfl rfl rfl ?_
      clear hev hdep hb
      go_simp
      exact ⟨_, rfl, rfl, Below.refl _ _⟩
    · have e2 : a.tmps[2]?.getD undef = .int .i64 t := hev 2 rfl
      refine Drawn.wpOp_flow 8 rfl rfl rfl ?_
      clear hev hdep hb
      go_simp
      exact ⟨_, rfl, rfl, Below.refl _ _⟩
    · have d1 : a.tmps[8]?.getD undef = .int .i64 t := hdep 1 rfl
      refine Drawn.wpOp_flow 9 rfl rfl rfl ?_
      clear hev hdep
      clear hb
      go_simp
      refine (HPT.out wq).mono ?_
      rintro e w' ⟨rfl, rfl⟩
      exact ⟨_, rfl, rfl, Below.refl _ _⟩
    · have d2 : a.tmps[9]?.getD undef = .int .u8 (pt.toNat : Nat) := hdep 2 rfl
      refine Drawn.wpOp_flow 10 rfl rfl rfl ?_
      clear hev hdep
      clear hb
      go_simp
      exact ⟨_, rfl, ⟨_, _, rfl, (Row.new wq [pt, 1]).bytes⟩, balloc _ _⟩
    · have d0 : a.tmps[7]?.getD undef = .slice A n c := hdep 0 rfl
      obtain ⟨X2, d2, d3, x2⟩ : (SP.bN [pt, 1] 2).p (a.tmps[10]?.getD undef) wq := hdep 3 rfl
      refine Drawn.wpOp_flow 11 rfl rfl rfl ?_
      clear hev hdep
      have C := HOV.out X2 d2 wq (H.out.below (bstep HB0.out hb)) x2
      clear x2
      clear hb
      go_simp
      refine C.mono ?_
      rintro e w' ⟨X, d, rfl, _, _, g3, hb', _⟩
      exact ⟨_, rfl, ⟨X, d, rfl, g3⟩, hb'⟩
    · have e3 : a.tmps[3]?.getD undef = .pointer (some ⟨w.heap.size, 0, none⟩) := hev 3 rfl
      refine Drawn.wpOp_flow 12 rfl rfl rfl ?_
      clear hev hdep hb
      go_simp
      exact ⟨_, rfl, rfl, Below.refl _ _⟩
    · have d5 : a.tmps[12]?.getD undef = .pointer (some ⟨w.heap.size, 1, none⟩) := hdep 5 rfl
      refine Drawn.wpOp_flow 13 rfl rfl rfl ?_
      obtain ⟨c0, c1, c2, c3, c4, c5⟩ := six (HA.out.below hb)
      clear hev hdep hb
      go_simp
      exact ⟨_, rfl, rfl, Below.refl _ _⟩
    · have e3 : a.tmps[3]?.getD undef = .pointer (some ⟨w.heap.size, 0, none⟩) := hev 3 rfl
      refine Drawn.wpOp_flow 14 rfl rfl rfl ?_
      clear hev hdep hb
      go_simp
      exact ⟨_, rfl, rfl, Below.refl _ _⟩
    · have d7 : a.tmps[14]?.getD undef = .pointer (some ⟨w.heap.size, 2, none⟩) := hdep 7 rfl
      refine Drawn.wpOp_flow 15 rfl rfl rfl ?_
      obtain ⟨c0, c1, c2, c3, c4, c5⟩ := six (HA.out.below hb)
      clear hev hdep hb
      go_simp
      exact ⟨_, rfl, rfl, Below.refl _ _⟩
    · have d6 : a.tmps[13]?.getD undef = .int .i64 (t0 : Nat) := hdep 6 rfl
      have d8 : a.tmps[15]?.getD undef = .int .i64 (l0 : Nat) := hdep 8 rfl
      refine Drawn.wpOp_flow 16 rfl rfl rfl ?_
      clear hev hdep
      clear hb
      have i1 := HI1.out
      go_simp
      exact ⟨_, rfl, rfl, Below.refl _ _⟩
    · have d9 : a.tmps[16]?.getD undef = .int .i64 ((t0 : Int) + (l0 : Int)) := hdep 9 rfl
      refine Drawn.wpOp_flow 17 rfl rfl rfl ?_
      clear hev hdep
      clear hb
      have i2 := HI2.out
      go_simp
      exact ⟨_, rfl, rfl, Below.refl _ _⟩
    · obtain ⟨X3, d3, d4, x3⟩ : (SP.bN ov on).p (a.tmps[11]?.getD undef) wq := hdep 4 rfl
      have d10 : a.tmps[17]?.getD undef = .int .i64 (wd : Nat) := hdep 10 rfl
      refine Drawn.wpOp_flow 18 rfl rfl rfl ?_
      clear hev hdep
      have C := HSZ.out X3 d3 wq x3
      clear x3
      clear hb
      go_simp
      refine C.mono ?_
      rintro e w' ⟨X, d, rfl, _, _, g3, hb', _⟩
      exact ⟨_, rfl, ⟨X, d, rfl, g3⟩, hb'⟩
    · have d11 := hdep 11 rfl
      refine Drawn.wpOp_flow 6 rfl rfl rfl ?_
      clear hev hdep hb
      go_simp
      exact ⟨_, rfl, d11, Below.refl _ _⟩
  · intro xq wq hb hxq
    have vq0 : xq 0 = .slice A n c := hxq 0 (by omega)
    have vq1 : xq 1 = .int .i64 t := hxq 1 (by omega)
    have vq2 : xq 2 = .int .u8 (pt.toNat : Nat) := hxq 2 (by omega)
    have vq5 : xq 5 = .pointer (some ⟨w.heap.size, 1, none⟩) := hxq 5 (by omega)
    have vq6 : xq 6 = .int .i64 (t0 : Nat) := hxq 6 (by omega)
    have vq7 : xq 7 = .pointer (some ⟨w.heap.size, 2, none⟩) := hxq 7 (by omega)
    have vq8 : xq 8 = .int .i64 (l0 : Nat) := hxq 8 (by omega)
    have vq9 : xq 9 = .int .i64 ((t0 : Int) + (l0 : Int)) := hxq 9 (by omega)
    have vq10 : xq 10 = .int .i64 (wd : Nat) := hxq 10 (by omega)
    obtain ⟨X4, d4, vq12, x4⟩ : (SP.bN res wd).p (xq 12) wq := hxq 12 (by omega)
    show Exit.then _ _ Exit.normal (Drawn.acts _ [(6, some (xq 12)), (18, some (xq 11)), (17, some (xq 10)), (16, some (xq 9)), (15, some (xq 8)), (14, some (xq 7)), (13, some (xq 6)), (12, some (xq 5)), (11, some (xq 4)), (10, some (xq 3)), (9, some (xq 2)), (8, some (xq 1)), (7, some (xq 0))]) _
    rw [vq0, vq1, vq2, vq5, vq6, vq7, vq8, vq9, vq10, vq12]
    clear hxq vq0 vq1 vq2 vq5 vq6 vq7 vq8 vq9 vq10 vq12
    generalize xq 3 = yq3
    generalize xq 4 = yq4
    generalize xq 11 = yq11
    clear xq
    simp only [Drawn.acts]
    go_simp
    have HX := Lib.hid x4
    have HB2 := Lib.hid (bstep HB0.out hb)
    clear x4 hb
    go_at_K
    go_wp2
    go_ret
    exact ⟨X4, d4, rfl, HX.out, HB2.out⟩
end Go.Proofs.Ytompeiemioeohaa.R14

/- the document's own answers of layer 14: Shift -/
set_option maxRecDepth 100000
namespace Go.Proofs.Ytompeiemioeohaa.R14
open Go.RowKit PlanM StripeM DealM RebM ZeroM MaskM Law08 Law10

set_option maxHeartbeats 4000000 in
theorem shift_any (W S R : Int) (n0 t0 l0 : Nat) (A1 A : Option Addr) (delta : List UInt8) (z : List Int) (c1 c : Nat) (w : World) (h1 : BytesAt w A1 delta) (h : IntsAt w A z) (hok : MOk ⟨n0, t0, l0, W, S, R⟩ delta z) :
    Calls Try.prog 14 #[.agg #[.int .i64 (n0 : Nat), .int .i64 (t0 : Nat), .int .i64 (l0 : Nat), .int .i64 W, .int .i64 S, .int .i64 R], .slice A1 delta.length c1, .slice A z.length c] w (RetB w (shift ⟨n0, t0, l0, W, S, R⟩ delta z)) := by
  have hM := hok.may
  have HA := Lib.hid (PlanLies.new w n0 t0 l0 W S R)
  have HB0 := Lib.hid (balloc w (.cells #[.int .i64 (n0 : Nat), .int .i64 (t0 : Nat), .int .i64 (l0 : Nat), .int .i64 W, .int .i64 S, .int .i64 R] 23))
  obtain ⟨q, hq⟩ : ∃ q : P, q = ⟨n0, t0, l0, W, S, R⟩ := ⟨_, rfl⟩
  rw [← hq] at hM ⊢
  have hv : q.val = .agg #[.int .i64 (n0 : Nat), .int .i64 (t0 : Nat), .int .i64 (l0 : Nat), .int .i64 W, .int .i64 S, .int .i64 R] := by rw [hq]; rfl
  have eN : q.N.toNat = n0 := by rw [hq]; exact Int.toNat_natCast _
  have eT : q.T.toNat = t0 := by rw [hq]; exact Int.toNat_natCast _
  have eL : q.L.toNat = l0 := by rw [hq]; exact Int.toNat_natCast _
  have hM' := hM
  unfold P.May at hM'
  have hsl := secrets_len q
  rw [eL] at hsl
  have hS := fun V => secrets_own q V (by omega) (by omega) (by omega)
  rw [hv] at hS
  rw [← hq] at hok
  have hzl := (zeros_inv hok.may hok.nd hok.is hok.few).2
  have hfew := hok.few
  have hdl := hok.len
  rw [eT] at hzl hfew
  have hZS := fun V (hx : IntsAt V A z) => zeros_any l0 W S R n0 t0 A z c V (by omega) (by omega) hx (by omega) (fun k hk => by
    have := (zerosTo_inv (p := q) hok.nd hok.is hok.few k (by omega)).le
    rw [eT] at this; omega)
  have ezs : zerosTo t0 z n0 = zeros q z := by unfold zeros; rw [eT, eN]
  rw [ezs] at hZS
  unfold shift
  have hPT := fun X d V (hx : IntsAt V X (zeros q z)) => R08.points_any X (zeros q z) d V hx (by omega)
  have hpl := points_len (zeros q z)
  unfold RetInts at hZS
  unfold RetNew at hPT
  generalize points (zeros q z) = pts at *
  generalize zeros q z = zs at *
  have hys : ∀ k, k ≤ t0 → delta ++ List.replicate (k + 1) (0 : UInt8) = (delta ++ List.replicate k 0) ++ [0] := fun k _ => by rw [List.replicate_succ', List.append_assoc]
  have hTH := fun Xs ds X d V (hs : BytesAt V Xs (q.secrets ++ pts)) (hx : BytesAt V X (delta ++ List.replicate pts.length 0)) => R03.through_any Xs X (q.secrets ++ pts) (delta ++ List.replicate pts.length 0) ds d V hs hx (by rw [List.length_append]; omega) (by rw [List.length_append, List.length_append, List.length_replicate]; omega)
  have hxl : (q.secrets ++ pts).length = l0 + t0 := by rw [List.length_append]; omega
  unfold RetBytes at hTH
  rw [hxl, show (delta ++ List.replicate pts.length (0 : UInt8)).length = l0 + t0 from by rw [List.length_append, List.length_replicate]; omega] at hTH
  have hpt : pts.length = t0 := by omega
  rw [hpt] at hTH hPT ⊢
  generalize LagrM.thr (q.secrets ++ pts) (delta ++ List.replicate t0 0) = res at *
  have HTH := Lib.hid hTH; have HPT := Lib.hid hPT; have HZS := Lib.hid hZS; have HSEC := Lib.hid hS; have H1 := Lib.hid h1; have H := Lib.hid h; have HYS := Lib.hid hys
  have HXL := Lib.hid hxl
  have HDL : Hid (delta.length = l0) := Lib.hid (by omega)
  have hb9 : t0 ≤ 256 ∧ l0 ≤ 256 := by omega
  obtain ⟨zn, hzn⟩ : ∃ zn, zn = z.length := ⟨_, rfl⟩
  rw [← hzn] at HZS ⊢
  obtain ⟨zsn, hzsn⟩ : ∃ zsn, zsn = zs.length := ⟨_, rfl⟩
  rw [← hzsn] at HZS HPT
  have HSLL : Hid (q.secrets.length ≤ 256) := Lib.hid (by omega)
  have HPLL : Hid (pts.length = t0) := Lib.hid hpt
  generalize q.secrets = sec at *
  clear hTH hPT hZS hS h1 h hys hxl hM hM' hsl hok hzl hfew hdl hpl hpt hq hv eN eT eL ezs hzn hzsn
  clear q
  unfold RetB
  obtain ⟨rn, hrn⟩ : ∃ rn, rn = res.length := ⟨_, rfl⟩
  rw [← hrn] at HTH ⊢
  clear hrn
  rw [HDL.out]
  go_enter Try.func14, Try.ntmps14
  go_wp2_with fail
  generalize w.alloc (.cells #[.int .i64 (n0 : Nat), .int .i64 (t0 : Nat), .int .i64 (l0 : Nat), .int .i64 W, .int .i64 S, .int .i64 R] 23) = w0 at *
  go_wp2_with fail
  refine Drawn.wp_region_flowT 6 [Drawn.SP.is (.agg #[.int .i64 (n0 : Nat), .int .i64 (t0 : Nat), .int .i64 (l0 : Nat), .int .i64 W, .int .i64 S, .int .i64 R]), SP.own w0.heap.size sec, Drawn.SP.is (.agg #[.int .i64 (n0 : Nat), .int .i64 (t0 : Nat), .int .i64 (l0 : Nat), .int .i64 W, .int .i64 S, .int .i64 R]), Drawn.SP.is (.slice A zn c), SP.iN zs zsn, SP.bN pts t0] (by kernel_rfl) (by kernel_rfl) ?_ ?_
  · intro i hi a wq hb hev hdep
    rcases (show i = 0 ∨ i = 1 ∨ i = 2 ∨ i = 3 ∨ i = 4 ∨ i = 5 by omega) with rfl | rfl | rfl | rfl | rfl | rfl
    · have e3 : a.tmps[3]?.getD undef = .pointer (some ⟨w.heap.size, 0, none⟩) := hev 3 rfl
      refine Drawn.wpOp_flow 9 rfl rfl rfl ?_
      obtain ⟨c0, c1, c2, c3, c4, c5⟩ := six (HA.out.below hb)
      clear hev hdep hb
      go_simp
      exact ⟨_, rfl, rfl, Below.refl _ _⟩
    · have d0 : a.tmps[9]?.getD undef = .agg #[.int .i64 (n0 : Nat), .int .i64 (t0 : Nat), .int .i64 (l0 : Nat), .int .i64 W, .int .i64 S, .int .i64 R] := hdep 0 rfl
      refine Drawn.wpOp_flow 10 rfl rfl rfl ?_
      clear hev hdep
      have C := HSEC.out wq
      have hz := hb.size
      clear hb
      go_simp
      refine C.mono ?_
      rintro e w' ⟨v, rfl, ho, hb'⟩
      exact ⟨_, rfl, ⟨_, rfl, Plan.Own.lower ho hz, Nat.le_trans hz hb'.size⟩, hb'⟩
    · have e3 : a.tmps[3]?.getD undef = .pointer (some ⟨w.heap.size, 0, none⟩) := hev 3 rfl
      refine Drawn.wpOp_flow 11 rfl rfl rfl ?_
      obtain ⟨c0, c1, c2, c3, c4, c5⟩ := six (HA.out.below hb)
      clear hev hdep hb
      go_simp
      exact ⟨_, rfl, rfl, Below.refl _ _⟩
    · have e2 : a.tmps[2]?.getD undef = .slice A zn c := hev 2 rfl
      refine Drawn.wpOp_flow 12 rfl rfl rfl ?_
      clear hev hdep hb
      go_simp
      exact ⟨_, rfl, rfl, Below.refl _ _⟩
    · have d2 : a.tmps[11]?.getD undef = .agg #[.int .i64 (n0 : Nat), .int .i64 (t0 : Nat), .int .i64 (l0 : Nat), .int .i64 W, .int .i64 S, .int .i64 R] := hdep 2 rfl
      have d3 : a.tmps[12]?.getD undef = .slice A zn c := hdep 3 rfl
      refine Drawn.wpOp_flow 13 rfl rfl rfl ?_
      clear hev hdep
      have C := HZS.out wq (H.out.below (bstep HB0.out hb))
      clear hb
      go_simp
      refine C.mono ?_
      rintro e w' ⟨X, d, rfl, _, _, g3, hb', _⟩
      exact ⟨_, rfl, ⟨X, d, rfl, g3⟩, hb'⟩
    · obtain ⟨X2, d2, d4, x2⟩ : (SP.iN zs zsn).p (a.tmps[13]?.getD undef) wq := hdep 4 rfl
      refine Drawn.wpOp_flow 14 rfl rfl rfl ?_
      clear hev hdep
      have C := HPT.out X2 d2 wq x2
      clear x2
      clear hb
      go_simp
      refine C.mono ?_
      rintro e w' ⟨X, d, rfl, _, _, g3, hb', _⟩
      exact ⟨_, rfl, ⟨X, d, rfl, g3⟩, hb'⟩
  · intro xq wq hb hxq
    have vq0 : xq 0 = .agg #[.int .i64 (n0 : Nat), .int .i64 (t0 : Nat), .int .i64 (l0 : Nat), .int .i64 W, .int .i64 S, .int .i64 R] := hxq 0 (by omega)
    obtain ⟨u1, vq1, x1, x1s⟩ : (SP.own w0.heap.size sec).p (xq 1) wq := hxq 1 (by omega)
    have vq2 : xq 2 = .agg #[.int .i64 (n0 : Nat), .int .i64 (t0 : Nat), .int .i64 (l0 : Nat), .int .i64 W, .int .i64 S, .int .i64 R] := hxq 2 (by omega)
    have vq3 : xq 3 = .slice A zn c := hxq 3 (by omega)
    obtain ⟨X3, d3, vq5, x3⟩ : (SP.bN pts t0).p (xq 5) wq := hxq 5 (by omega)
    show wpList _ _ _ _ (Drawn.acts _ [(14, some (xq 5)), (13, some (xq 4)), (12, some (xq 3)), (11, some (xq 2)), (10, some (xq 1)), (9, some (xq 0))]) _
    rw [vq0, vq1, vq2, vq3, vq5]
    clear hxq vq0 vq1 vq2 vq3 vq5
    generalize xq 4 = yq4
    clear xq
    simp only [Drawn.acts, List.drop_succ_cons, List.drop_zero]
    go_simp
    have hzq := hb.size
    have HX1 := Lib.hid x1; have HX3 := Lib.hid x3; have HB1 := Lib.hid (bstep HB0.out hb)
    have hlen1 : sec.length + pts.length < 1099511627776 := by have := HSLL.out; have := HPLL.out; omega
    clear x1 x3
    go_wp2_with (first
      | (at_builtin; refine wpList_append_bytes rfl _ _ rfl w0.heap.size _ sec pts rfl HX1.out X3 t0 d3 rfl HPLL.out.symm HX3.out hlen1 hzq ?_; intro v1 w1 ho1 hb1; have HO1 := Lib.hid ho1; have HBW := Lib.hid (bstep HB0.out (hb.trans hb1)); have HOE := Lib.hid (Own.empty w1 w1.heap.size (Nat.le_refl _)); clear ho1 hb hb1)
      | (at_builtin; refine wpList_append_bytes rfl _ _ rfl w1.heap.size _ [] delta rfl HOE.out A1 l0 c1 rfl HDL.out.symm (H1.out.below (bstep HBW.out (balloc _ _))) (by simp; have := HDL.out; omega) (by simp) ?_; intro v2 w2 ho2 hb2; have HO2 := Lib.hid ho2; have HB2 := Lib.hid (show Below w1.heap.size w1 w2 from (balloc w1 _).trans hb2); clear ho2 hb2))
    obtain ⟨Xs, ds, rfl, _, _, hXs, _⟩ := HO1.out.new
    rw [HXL.out]
    have HXS := Lib.hid hXs
    clear hXs
    go_loopw [8] (fun v wr => ∃ k : Nat, k ≤ t0 ∧ Own wr w1.heap.size v (delta ++ List.replicate k 0) ∧ Below w1.heap.size w1 wr)
      (fun v _ => match v with | .slice _ m _ => l0 + t0 - m | _ => 0)
    case atStart => exact ⟨0, Nat.zero_le _, by rw [List.replicate_zero, List.append_nil]; have := HO2.out; rw [List.nil_append] at this; exact this, HB2.out⟩
    case round =>
      obtain ⟨k, hk, hown, hbr⟩ := hrel
      rename World => wr
      have HO := Lib.hid hown
      obtain ⟨Y, dy, rfl, _, _, hY, _⟩ := hown.new
      have hyl : (delta ++ List.replicate k (0 : UInt8)).length = l0 + k := by rw [List.length_append, List.length_replicate, HDL.out]
      have HYL := Lib.hid hyl
      have HY := Lib.hid hY
      have hys := HYS.out k hk
      have HYS2 := Lib.hid hys
      have hzr := hbr.size
      rw [hyl] at HO ⊢
      clear hown hY hys hyl
      generalize hye : delta ++ List.replicate k (0 : UInt8) = ys at *
      have HYE := Lib.hid hye
      clear hye
      by_cases hlt : k < t0
      · go_wp2_with (at_builtin; refine wpList_append_u8 rfl _ _ rfl w1.heap.size _ ys rfl (HO.out.alloc _) wr.heap.size 1 0 rfl (by simp) (by have := HYL.out; omega) (by simp; omega) ?_; intro v3 w3 ho3 hb3; have HO3 := Lib.hid ho3; clear ho3)
        have HB3 := Lib.hid ((hbr.alloc hzr _).trans hb3)
        go_roundw
        case rel => exact ⟨k + 1, by omega, by rw [HYS2.out]; exact HO3.out, HB3.out⟩
        case measure =>
          obtain ⟨Y3, d3', rfl, _⟩ := HO3.out.new
          have := HYL.out
          simp
          omega
      · obtain rfl : k = t0 := by omega
        have C := HTH.out Xs ds Y dy wr (HXS.out.below hbr) (by rw [HYE.out]; exact HY.out)
        have HC := Lib.hid C
        clear C
        go_wp2_with fail
        refine HC.out.mono ?_
        rintro e w5 ⟨Z, dz, rfl, _, _, hZ, hb5⟩
        have HZ := Lib.hid hZ
        clear hZ
        go_wp2
        go_ret
        exact ⟨Z, dz, rfl, HZ.out, bstep HBW.out (bstep hbr hb5)⟩
end Go.Proofs.Ytompeiemioeohaa.R14
