/- merged: CptA, CptB, CptC -/
import Derived.Test.YthmllbijfgimcaaMMC
import Derived.Test.YthmllbijfgimcaaTrips
import Derived.Test.YthmllbijfgimcaaInts
import Derived.Test.YthmllbijfgimcaaStore
import Derived.Lib.MinMax
import Derived.Test.YthmllbijfgimcaaSeqA

/- package compact: Apart, withGap, Gaps -/
set_option maxRecDepth 100000
set_option maxHeartbeats 1000000
namespace Go.Proofs.Ythmllbijfgimcaa.Compact
open Go.RowKit CptM Pairs

def In64 (z : Int) : Prop := -9223372036854775808 ≤ z ∧ z ≤ 9223372036854775807
def InL (l : List I2) : Prop := ∀ r ∈ l, In64 r.1 ∧ In64 r.2
theorem PairsAt.at_ {w : World} {A : Option Addr} {l : List I2} (h : PairsAt w A l) {i : Nat} (hi : i < l.length) : ∃ b o, A = some ⟨b, o, none⟩ ∧ w.cell? ⟨b, o + i * 2, none⟩ = some (.int .i64 l[i].1) ∧ w.cell? ⟨b, o + i * 2 + 1, none⟩ = some (.int .i64 l[i].2) := h i hi
theorem run_info : (Try.prog.info? 37).map (fun i => (i.zero, i.size, i.bytes)) = some (some (.agg #[.int .i64 0, .int .i64 0]), 2, 16) := by kernel_rfl
theorem run_info' : ∃ i, Try.prog.info? 37 = some i ∧ i.zero = some (.agg #[.int .i64 0, .int .i64 0]) ∧ i.size = 2 ∧ i.bytes = 16 := by
  obtain ⟨i0, h, a, b, c⟩ := info_parts run_info
  exact ⟨i0, h, a, b, c⟩
theorem apart_any (A : Option Addr) (l : List I2) (c : Nat) (w : World) (hA : PairsAt w A l) (hin : InL l) (_h1 : l.length ≤ c) (_h2 : c ≤ maxLen) :
    Calls Try.prog 7 #[.slice A l.length c] w fun e w' => e = .returned (.bool (decide (Apart l))) ∧ Below w.heap.size w w' := by
  have HA := Lib.hid hA
  have HI := Lib.hid hin
  unfold maxLen at _h2
  obtain ⟨N, hN⟩ : ∃ N, N = l.length := ⟨_, rfl⟩
  have HN := Lib.hid hN
  have hNs : N ≤ 9223372036854775807 := by omega
  rw [← hN]
  clear hA hin hN _h1 _h2
  go_enter Try.func7, Try.ntmps7
  go_wp2
  go_loopw [3, 8] (fun v i wr => ∃ (k : Nat) (x : Int), i = .int .i64 k ∧ k ≤ N ∧ v = .int .i64 x ∧ Hid (x = endOf l k ∧ Apart (l.take k) ∧ Below w.heap.size w wr)) (fun _ i _ => N - (intOf i).toNat)
  case atStart => exact ⟨0, 0, rfl, Nat.zero_le _, rfl, Lib.hid ⟨rfl, apart_nil, Below.refl _ _⟩⟩
  case round =>
    obtain ⟨k, x, rfl, hk, rfl, HK⟩ := hrel
    rename World => wr
    have hx := endOf_in HK.out.2.1 (by have := HN.out; omega)
    rw [← HK.out.1] at hx
    by_cases hlt : k < N
    · have hkl : k < l.length := by have := HN.out; omega
      obtain ⟨b, o, hAe, e0, e1⟩ := (HA.out.below HK.out.2.2) k hkl
      subst hAe
      have hsu := apart_succ hkl HK.out.2.1
      rw [← HK.out.1] at hsu
      have hir := HI.out l[k] (List.getElem_mem hkl)
      unfold In64 at hir
      have HES := Lib.hid (endOf_succ l k hkl)
      obtain ⟨p, hp⟩ : ∃ p, p = l[k].1 := ⟨_, rfl⟩
      obtain ⟨q, hq⟩ : ∃ q, q = l[k].2 := ⟨_, rfl⟩
      rw [← hp, ← hq] at hsu HES hir
      rw [← hp] at e0
      rw [← hq] at e1
      have HNO : Hid ((p < x ∨ q < 1 ∨ 256 - p < q) → decide (Apart l) = false) := Lib.hid fun h => by
        rw [decide_eq_false_iff_not]
        intro hap
        have := hsu.1 (hap.take (k + 1))
        omega
      have HYES : Hid (¬ (p < x ∨ q < 1 ∨ 256 - p < q) → p + q = endOf l (k + 1) ∧ Apart (l.take (k + 1)) ∧ Below w.heap.size w (wr.alloc (.cells #[.int .i64 p, .int .i64 q] 37))) := Lib.hid fun h =>
        ⟨HES.out.symm, hsu.2 (by omega), HK.out.2.2.alloc HK.out.2.2.size _⟩
      have HB := Lib.hid (HK.out.2.2.alloc HK.out.2.2.size (.cells #[.int .i64 p, .int .i64 q] 37))
      clear hp hq hsu HES HK
      by_cases h1 : p < x
      · have HF := Lib.hid (HNO.out (.inl h1))
        clear HNO HYES
        go_wp2
        go_ret
        exact ⟨by rw [HF.out]; rfl, HB.out⟩
      by_cases h2 : q < 1
      · have HF := Lib.hid (HNO.out (.inr (.inl h2)))
        clear HNO HYES
        go_wp2
        go_ret
        exact ⟨by rw [HF.out]; rfl, HB.out⟩
      have i1 : IntKind.i64.wrap (256 - p) = 256 - p := IntWalk.i64_in _ (by omega)
      by_cases h3 : 256 - p < q
      · have HF := Lib.hid (HNO.out (.inr (.inr h3)))
        clear HNO HYES
        go_wp2
        go_ret
        exact ⟨by rw [HF.out]; rfl, HB.out⟩
      have HY := Lib.hid (HYES.out (by omega))
      have i2 : IntKind.i64.wrap (p + q) = p + q := IntWalk.i64_in _ (by omega)
      clear HNO HYES HB
      go_wp2
      go_roundw
      case rel => exact ⟨k + 1, p + q, by go_num, by omega, by go_num, HY⟩
      case measure => simp [intOf] <;> omega
    · obtain rfl : k = N := by omega
      have hap := HK.out.2.1
      rw [HN.out, List.take_length] at hap
      have HF : Hid (decide (Apart l) = true) := Lib.hid (by rw [decide_eq_true_iff]; exact hap)
      have HB := Lib.hid HK.out.2.2
      clear hap HK
      go_wp2
      go_ret
      exact ⟨by rw [HF.out]; rfl, HB.out⟩
/-- one gap, told in natural numbers -/
theorem gap_nat {a b : Nat} (h : a < b) : (gap1 a b).map nat2 = [((a : Int), ((b - a : Nat) : Int))] := by unfold gap1; rw [if_pos h]; rfl
theorem gap_none {a b : Nat} (h : ¬ a < b) : gap1 a b = [] := by unfold gap1; rw [if_neg h]
/-- runs that are told, in a list of the call's own -/
structure Had (w0 : World) (base : Nat) (e : TypeId) (v : Value) (l : List I2) (w : World) : Prop where
  own : OwnPr w base e v l
  below : Below w0.heap.size w0 w
theorem gap_any (w0 : World) (v : Value) (L : List (Nat × Nat)) (a b : Nat) (w : World) (h : Had w0 w0.heap.size 37 v (L.map nat2) w) (hL : L.length ≤ 1000000) (ha : a ≤ 256) (hb : b ≤ 256) :
    Calls Try.prog 15 #[v, .int .i64 (a : Nat), .int .i64 (b : Nat)] w fun e w' => ∃ v', e = .returned v' ∧ Had w0 w0.heap.size 37 v' ((L ++ gap1 a b).map nat2) w' ∧ Keeps (fun k => v.ownBlock = some k) w w' := by
  have HH := Lib.hid h
  by_cases hlt : a < b
  · obtain ⟨d, hd⟩ : ∃ d, d = b - a := ⟨_, rfl⟩
    have hdd : (b : Int) - (a : Int) = (d : Int) := by omega
    have i1 : IntKind.i64.wrap ((b : Int) - (a : Int)) = (d : Int) := by rw [hdd]; exact IntWalk.i64_in _ (by omega)
    have HG := Lib.hid (gap_nat hlt)
    rw [← hd] at HG
    obtain ⟨i0, hi, hz, hs1, hb1⟩ := run_info'
    have HI := Lib.hid (And.intro hi (And.intro hz (And.intro hs1 hb1)))
    have hlen : (L.map nat2).length + 1 < 1099511627776 := by rw [List.length_map]; omega
    have HLEN := Lib.hid hlen
    have HL := Lib.hid (PairsAt.lit w ((a : Nat), (d : Nat)) 37)
    have HB := Lib.hid (balloc w (.cells #[.int .i64 (a : Nat), .int .i64 (d : Nat)] 37))
    have HOW := Lib.hid (HH.out.own.below HB.out)
    have HFB := Lib.hid (HH.out.below.trans (HB.out.mono HH.out.below.size))
    clear h hlen hi hz hs1 hb1 hd hdd
    go_enter Try.func15, Try.ntmps15
    go_wp2_with (at_builtin; refine wpList_append_pairs Try.underlying26 HI.out.1 HI.out.2.1 HI.out.2.2.1 HI.out.2.2.2 rfl rfl _ _ rfl w0.heap.size v _ rfl HOW.out (some ⟨w.heap.size, 0, none⟩) 1 1 [((a : Nat), (d : Nat))] rfl rfl HL.out HLEN.out (by omega) HFB.out.size ?_; intro v' w2 ha; have HN := Lib.hid (And.intro ha.own (And.intro (ha.below HOW.out HFB.out (Nat.le_refl _) HFB.out.size) ((Keeps.of_below (fun k => v.ownBlock = some k) HB.out).own ha.grow (fun k e => .inl e)))); clear ha)
    go_ret
    exact ⟨v', rfl, ⟨by rw [HG.out]; exact HN.out.1, HN.out.2.1⟩, HN.out.2.2⟩
  · have HG := Lib.hid (gap_none hlt)
    have hlt' : ¬ (a : Int) < (b : Int) := by omega
    clear h
    go_enter Try.func15, Try.ntmps15
    go_wp2
    go_ret
    exact ⟨v, rfl, by rw [HG.out, List.map_nil, List.append_nil]; exact HH.out, .refl _ _⟩
theorem apart_few {l : List I2} (h : Apart l) : ∀ k, k ≤ l.length → (k : Int) ≤ endOf l k := fun k => by
  induction k with
  | zero => intro _; exact Int.le_refl _
  | succ k ih =>
    intro hk
    have h1 := (apart_succ (show k < l.length by omega) (h.take k)).1 (h.take (k + 1))
    rw [endOf_succ l k (by omega)]
    have := ih (by omega)
    omega
theorem apart_len {l : List I2} (h : Apart l) : l.length ≤ 256 := by
  have h1 := apart_few h l.length (Nat.le_refl _)
  have h2 := (endOf_in (h.take l.length) (Nat.le_refl _)).2
  omega
theorem betw_len (s : Nat) : ∀ (L : List (Nat × Nat)) (e : Nat), (SpaceM.betw s e L).length ≤ L.length + 1 := fun L => by
  induction L with
  | nil => intro e; rw [betw_nil]; unfold gap1; split <;> simp
  | cons r L ih =>
    intro e
    rw [betw_cons, List.length_append]
    have := ih (r.1 + r.2)
    have : (gap1 e (min r.1 s)).length ≤ 1 := by unfold gap1; split <;> simp
    simp; omega
/-- what Gaps tells: the gaps between runs apart, of a number of slots that may be; else none -/
def gapsA (l : List I2) (slots : Int) : List I2 := if 1 ≤ slots ∧ slots ≤ 256 ∧ Apart l then (SpaceM.betw slots.toNat 0 (l.map fun r => (r.1.toNat, r.2.toNat))).map nat2 else []
theorem nat2_back (L : List (Nat × Nat)) : (L.map nat2).map (fun r => (r.1.toNat, r.2.toNat)) = L := by
  rw [List.map_map]
  refine (List.map_congr_left fun r _ => ?_).trans (List.map_id L)
  simp [nat2]
/-- gaps on the way: what has been told, and what is still to tell -/
structure GapsTo (w : World) (G : List (Nat × Nat)) (s : Nat) (L : List (Nat × Nat)) (k : Nat) (v : Value) (e : Nat) (wr : World) : Prop where
  had : ∃ K, Had w w.heap.size 37 v (K.map nat2) wr ∧ K ++ SpaceM.betw s e (L.drop k) = G
  end_ : e = endN L k
theorem gaps_any (A : Option Addr) (l : List I2) (c : Nat) (slots : Int) (w : World) (hA : PairsAt w A l) (hin : InL l) (h1 : l.length ≤ c) (h2 : c ≤ maxLen) (hs : In64 slots) :
    Calls Try.prog 10 #[.slice A l.length c, .int .i64 slots] w fun e w' => ∃ v, e = .returned v ∧ Had w w.heap.size 37 v (gapsA l slots) w' := by
  have HC := Lib.hid (apart_any A l c w hA hin h1 h2)
  have HNO : Hid (¬ (1 ≤ slots ∧ slots ≤ 256 ∧ Apart l) → gapsA l slots = []) := Lib.hid fun h => by unfold gapsA; rw [if_neg h]
  unfold In64 at hs
  by_cases g1 : slots < 1
  · have HE := Lib.hid (HNO.out (by omega))
    have HN : Hid (∃ N, N = l.length) := Lib.hid ⟨_, rfl⟩
    clear hA hin HC HNO
    generalize l.length = N at *
    go_enter Try.func10, Try.ntmps10
    go_wp2
    go_ret
    exact ⟨_, rfl, by rw [HE.out]; exact OwnPr.nil _ _ _, Below.refl _ _⟩
  by_cases g2 : 256 < slots
  · have HE := Lib.hid (HNO.out (by omega))
    clear hA hin HC HNO
    generalize l.length = N at *
    go_enter Try.func10, Try.ntmps10
    go_wp2
    go_ret
    exact ⟨_, rfl, by rw [HE.out]; exact OwnPr.nil _ _ _, Below.refl _ _⟩
  by_cases hap : Apart l
  · obtain ⟨L, hL, hL1, hL2⟩ := apart_nat hap
    obtain ⟨s, rfl⟩ : ∃ s : Nat, slots = (s : Nat) := ⟨slots.toNat, by omega⟩
    have hdt : decide (Apart l) = true := by rw [decide_eq_true_iff]; exact hap
    rw [hdt] at HC
    have HFIN : Hid (gapsA l (s : Nat) = (SpaceM.betw s 0 L).map nat2) := Lib.hid (by
      unfold gapsA
      rw [if_pos ⟨by omega, by omega, hap⟩, hL, nat2_back, Int.toNat_natCast])
    have hlen := apart_len hap
    have HGL := betw_len s L 0
    obtain ⟨G, hG⟩ : ∃ G, G = SpaceM.betw s 0 L := ⟨_, rfl⟩
    rw [← hG] at HFIN HGL
    have HG := Lib.hid hG
    have hll : l.length = L.length := by rw [hL, List.length_map]
    obtain ⟨N, hN⟩ : ∃ N, N = l.length := ⟨_, rfl⟩
    rw [← hN] at HC hlen hll h1 ⊢
    have HN := Lib.hid hll
    have HGB : Hid (G.length ≤ 1000) := Lib.hid (by omega)
    have HA := Lib.hid hA
    have HL1 := Lib.hid hL1
    have HLL := Lib.hid hL
    have HPW := Lib.hid hL2
    have HNO2 := HNO
    clear hA hin HNO HNO2 hap hL hL1 hL2 hdt hG hN hll HGL
    go_enter Try.func10, Try.ntmps10
    go_wp2_with fail
    refine HC.out.mono ?_
    rintro e w1 ⟨rfl, hb1⟩
    have HS0 : Hid (GapsTo w G s L 0 (.slice none 0 0) 0 w1) := Lib.hid ⟨⟨[], ⟨OwnPr.nil _ _ _, hb1⟩, by rw [HG.out]; rfl⟩, rfl⟩
    clear hb1 HC
    go_wp2
    go_loopw [5, 6, 22] (fun v x i wr => ∃ k e : Nat, i = .int .i64 k ∧ k ≤ N ∧ x = .int .i64 e ∧ e ≤ 256 ∧ Hid (GapsTo w G s L k v e wr)) (fun _ _ i _ => N - (intOf i).toNat)
    case atStart => exact ⟨0, 0, rfl, Nat.zero_le _, rfl, Nat.zero_le _, HS0⟩
    case round =>
      obtain ⟨k, e, rfl, hk, rfl, he, HK⟩ := hrel
      rename World => wr
      obtain ⟨v, hv⟩ : ∃ v, v = u5 := ⟨_, rfl⟩
      subst hv
      obtain ⟨⟨K, hK, hKG⟩, hend⟩ := HK.out
      have hKl : K.length ≤ 1000 := by have := HGB.out; rw [← hKG, List.length_append] at this; omega
      by_cases hlt : k < N
      · have hkl : k < L.length := by have := HN.out; omega
        have hAb := HA.out.below hK.below
        rw [HLL.out] at hAb
        obtain ⟨b, o, hAe, e0, e1⟩ := hAb k (by rw [List.length_map]; exact hkl)
        subst hAe
        rw [List.getElem_map] at e0 e1
        have hr := HL1.out L[k] (List.getElem_mem hkl)
        have HST := Lib.hid (betw_step s L k hkl)
        have HES := Lib.hid (endN_succ L k hkl)
        obtain ⟨p, hp⟩ : ∃ p, p = L[k].1 := ⟨_, rfl⟩
        obtain ⟨q, hq⟩ : ∃ q, q = L[k].2 := ⟨_, rfl⟩
        unfold nat2 at e0 e1
        simp only at e0 e1
        rw [← hp] at HST HES hr e0
        rw [← hq] at HES hr e1
        obtain ⟨m, hm⟩ : ∃ m, m = min p s := ⟨_, rfl⟩
        have hmi : min (p : Int) (s : Int) = (m : Int) := by omega
        have hm256 : m ≤ 256 := by omega
        rw [← hm, ← hend] at HST
        have HC2 := fun V (h : Had w w.heap.size 37 v (K.map nat2) V) => gap_any w v K e m V h (by omega) he hm256
        have HC2 := Lib.hid HC2
        have HH1 := Lib.hid (show Had w w.heap.size 37 v (K.map nat2) (wr.alloc (.cells #[.int .i64 (p : Nat), .int .i64 (q : Nat)] 37)) from ⟨hK.own.below (balloc _ _), hK.below.alloc hK.below.size _⟩)
        have HC3 := Lib.hid (HC2.out _ HH1.out)
        have HKG := Lib.hid hKG
        have HNX : Hid (∀ w3 v', Had w w.heap.size 37 v' ((K ++ gap1 e m).map nat2) w3 → GapsTo w G s L (k + 1) v' (p + q) w3) := Lib.hid fun w3 v' hh => ⟨⟨K ++ gap1 e m, hh, by rw [← HES.out, List.append_assoc, ← HST.out]; exact HKG.out⟩, HES.out.symm⟩
        have hpq : p + q ≤ 256 := hr.2
        have i1 : IntKind.i64.wrap ((p : Int) + (q : Int)) = ((p + q : Nat) : Int) := by rw [IntWalk.i64_in _ (by omega)]; omega
        obtain ⟨x, hx⟩ : ∃ x, x = p + q := ⟨_, rfl⟩
        rw [← hx] at HNX i1 hpq
        have HD2 := HC3.out.mono (R' := fun e' w3 => ∃ v', e' = .returned v' ∧ Hid (GapsTo w G s L (k + 1) v' x w3) ∧ w3.cell? ⟨wr.heap.size, 0, none⟩ = some (.int .i64 (p : Nat)) ∧ w3.cell? ⟨wr.heap.size, 1, none⟩ = some (.int .i64 (q : Nat))) (fun e' w3 h => by
          obtain ⟨v', rfl, hh, hk⟩ := h
          exact ⟨v', rfl, Lib.hid (HNX.out _ _ hh), hk.cell (by simp) (fun e => by have := (hK.own.lt _ e).2; simp at this), hk.cell (by simp) (fun e => by have := (hK.own.lt _ e).2; simp at this)⟩)
        have HD2 := Lib.hid HD2
        clear HC3 HNX hp hq hm hK hKG hend HK HC2 HKG HST HES hx hr
        go_wp2_with fail
        refine HD2.out.mono ?_
        rintro e' w3 ⟨v', rfl, hh, g0, g1⟩
        go_wp2
        go_roundw
        case rel => exact ⟨k + 1, x, by go_num, by omega, by go_num, hpq, hh⟩
        case measure => simp [intOf] <;> omega
      · have hkl : L.length = k := by have := HN.out; omega
        rw [← hkl, List.drop_length, betw_nil] at hKG
        have HC4 := Lib.hid (gap_any w _ K e s wr hK (by omega) he (by omega))
        have HKG := Lib.hid hKG
        obtain rfl : k = N := by omega
        clear hK hKG hend HK hkl
        go_wp2_with fail
        refine HC4.out.mono ?_
        rintro e' w3 ⟨v', rfl, hh, -⟩
        have HH := Lib.hid hh
        clear hh
        go_wp2
        go_ret
        exact ⟨v', rfl, by rw [HFIN.out, ← HKG.out]; exact HH.out⟩
  · have HE := Lib.hid (HNO.out (fun h => hap h.2.2))
    have hdt : decide (Apart l) = false := by rw [decide_eq_false_iff_not]; exact hap
    rw [hdt] at HC
    clear hA hin HNO hap hdt
    generalize l.length = N at *
    go_enter Try.func10, Try.ntmps10
    go_wp2_with fail
    refine HC.out.mono ?_
    rintro e w1 ⟨rfl, hb1⟩
    have HB := Lib.hid hb1
    clear hb1
    go_wp2
    go_ret
    exact ⟨_, rfl, by rw [HE.out]; exact OwnPr.nil _ _ _, HB.out⟩
end Go.Proofs.Ythmllbijfgimcaa.Compact

/- package compact: places (an iterator), Moves -/
set_option maxRecDepth 100000
set_option maxHeartbeats 1000000
namespace Go.Proofs.Ythmllbijfgimcaa.Compact
open Go.RowKit CptM Pairs Trips Seqs

/-- where the first k go -/
def placesTo (l : List I2) (k : Nat) : List I3 := (List.range k).filterMap fun i => (l[i]?).map fun r => (r.1, to l i, r.2)
theorem placesTo_succ (l : List I2) (k : Nat) (hk : k < l.length) : placesTo l (k + 1) = placesTo l k ++ [(l[k].1, to l k, l[k].2)] := by
  unfold placesTo
  rw [List.range_succ, List.filterMap_append]
  simp [hk]
theorem placesTo_len (l : List I2) : ∀ k, k ≤ l.length → (placesTo l k).length = k := fun k => by
  induction k with
  | zero => intro _; rfl
  | succ k ih => intro hk; rw [placesTo_succ l k (by omega), List.length_append, ih (by omega)]; rfl
/-- those that go elsewhere -/
def goes (l : List I3) : List I3 := l.filter fun x => decide (x.1 ≠ x.2.1)
theorem goes_snoc (l : List I3) (x : I3) : goes (l ++ [x]) = if x.1 = x.2.1 then goes l else goes l ++ [x] := by
  unfold goes
  rw [List.filter_append]
  by_cases h : x.1 = x.2.1 <;> simp [h]
theorem goes_all (l : List I2) : ∀ k, k ≤ l.length → goes (placesTo l k) = movesTo l k := fun k => by
  induction k with
  | zero => intro _; rfl
  | succ k ih =>
    intro hk
    rw [placesTo_succ l k (by omega), goes_snoc, ih (by omega)]
    by_cases h : l[k].1 = to l k
    · rw [if_pos h, movesTo_stay l k (by omega) h.symm]
    · rw [if_neg h, movesTo_move l k (by omega) (fun e => h e.symm)]
def encM (x : I3) : Array Value := #[.agg #[.int .i64 x.1, .int .i64 x.2.1, .int .i64 x.2.2]]
/-- the blocks that the runs are read from -/
def BlkR (tb : Nat) (A : Option Addr) (l : List I2) (k : Nat) : Prop := k = tb ∨ (0 < l.length ∧ ∃ a, A = some a ∧ k = a.block)
theorem boxed_k {F : Nat → Prop} {w w' : World} {g : Nat} {t : TypeId} {v : Value} (h : Boxed w g t v) (q : Keeps F w w') (hn : ¬ F g) : Boxed w' g t v := (q.block g h.lt hn).trans h
theorem places_in (m : Nat) (A : Option Addr) (n c : Nat) (w : World) :
    CallsIn Fence.wide m Try.prog 14 #[.slice A n c] w fun e w' => e = .returned (.func (.func 16) #[] #[.pointer (some ⟨w.heap.size, 0, none⟩)]) ∧
      w' = w.alloc (.cells #[.slice A n c] 26) := by
  refine callsIn_of_wp Try.func14 rfl trivial ?_ rfl
  simp only [Try.ntmps14, List.size_toArray, List.length_cons, List.length_nil, Nat.reduceAdd, Nat.reduceSub, Array.replicate_succ, Array.replicate_zero, List.push_toArray, List.append_toArray, List.nil_append, List.cons_append]
  gi_wp2
  go_ret
  exact ⟨rfl, rfl⟩
/-- between two rounds of the iterator -/
structure Pcs (W : World) (J : List I3 → (Nat → Prop) → World → Prop) (tb : Nat) (A : Option Addr) (l : List I2) (c : Nat) (k : Nat) (V : World) : Prop where
  had : ∃ T : Nat → Prop, J (placesTo l k) T V
  tb : V.cell? ⟨tb, 0, none⟩ = some (.slice A l.length c)
  runs : PairsAt V A l
  size : W.heap.size ≤ V.heap.size
theorem places1_own (tb : Nat) (A : Option Addr) (l : List I2) (c : Nat) (hap : Apart l) (hc : l.length ≤ c) (_hc2 : c ≤ maxLen) (w0 : World) (h0 : w0.cell? ⟨tb, 0, none⟩ = some (.slice A l.length c)) (ht : PairsAt w0 A l) :
    SeqOwn Fence.wide 11 Try.prog 16 #[.pointer (some ⟨tb, 0, none⟩)] encM (fun _ _ => True) (BlkR tb A l) (fun xs => xs = placesTo l l.length) l.length w0 := by
  intro q J W hW hJ1 hJ2 hY hJ0
  have HJ2 := Lib.hid hJ2; have HY := Lib.hid hY
  have e0 := (hW.cell (p := ⟨tb, 0, none⟩) (cell_lt h0)).trans h0
  have HP : Hid (Pcs W J tb A l c 0 W) := Lib.hid ⟨⟨_, hJ0⟩, e0, ht.below hW, Nat.le_refl _⟩
  have HAP := Lib.hid hap
  have hl := apart_len hap
  clear hJ1 hJ2 hY hJ0 ht h0 hap hW
  obtain ⟨N, hN⟩ : ∃ N, N = l.length := ⟨_, rfl⟩
  have HN := Lib.hid hN
  rw [← hN] at e0 hc hl HY
  rw [← hN]
  clear hN
  refine callsIn_of_wp Try.func16 rfl trivial ?_ rfl
  simp only [Try.ntmps16, List.size_toArray, List.length_cons, List.length_nil, Nat.reduceAdd, Nat.reduceSub, Array.replicate_succ, Array.replicate_zero, List.push_toArray, List.append_toArray, List.nil_append, List.cons_append]
  gi_wp2
  clear e0
  gi_loopw [3, 8] (fun v i wr => ∃ (k : Nat) (x : Int), i = .int .i64 k ∧ k ≤ N ∧ v = .int .i64 x ∧ Hid (x = to l k ∧ Pcs W J tb A l c k wr)) (fun _ i _ => N - (intOf i).toNat)
  case atStart => exact ⟨0, 0, rfl, Nat.zero_le _, rfl, Lib.hid ⟨rfl, HP.out⟩⟩
  case round =>
    obtain ⟨k, x, rfl, hk, rfl, HK⟩ := hrel
    rename World => wr
    have hx := to_in HAP.out k (by have := HN.out; omega)
    rw [← HK.out.1] at hx
    by_cases hlt : k < N
    · have hkl : k < l.length := by have := HN.out; omega
      have hir := HAP.out.1 l[k] (List.getElem_mem hkl)
      unfold In at hir
      have HPS := Lib.hid (placesTo_succ l k hkl)
      have HTS := Lib.hid (to_succ l k hkl)
      rw [← HK.out.1] at HPS HTS
      obtain ⟨b, o, hAe, e0, e1⟩ := HK.out.2.runs k hkl
      subst hAe
      obtain ⟨p, hp⟩ : ∃ p, p = l[k].1 := ⟨_, rfl⟩
      obtain ⟨d, hd⟩ : ∃ d, d = l[k].2 := ⟨_, rfl⟩
      rw [← hp] at HPS hir e0
      rw [← hd] at HPS HTS hir e1
      have hx2 := to_in HAP.out (k + 1) (by omega)
      rw [HTS.out] at hx2
      obtain ⟨T, hT⟩ := HK.out.2.had
      have hbw := balloc wr (.cells #[.int .i64 p, .int .i64 d] 37)
      have hJ3 := HJ2.out _ T _ _ hT (.of_below _ hbw)
      have c0 : (wr.alloc (.cells #[.int .i64 p, .int .i64 d] 37)).cell? ⟨wr.heap.size, 0, none⟩ = some (.int .i64 p) := by simp
      have c1 : (wr.alloc (.cells #[.int .i64 p, .int .i64 d] 37)).cell? ⟨wr.heap.size, 1, none⟩ = some (.int .i64 d) := by simp
      have HTB := Lib.hid ((hbw.cell (p := ⟨tb, 0, none⟩) (cell_lt HK.out.2.tb)).trans HK.out.2.tb)
      have HRU := Lib.hid (HK.out.2.runs.below hbw)
      have HSZ := Lib.hid HK.out.2.size
      have HTT : Hid (plus T wr (wr.alloc (.cells #[.int .i64 p, .int .i64 d] 37)) wr.heap.size) := Lib.hid (.inr ⟨Nat.le_refl _, by simp⟩)
      have hpl : (placesTo l k).length < N := by rw [placesTo_len l k (by omega)]; exact hlt
      have hy := HY.out _ (p, x, d) _ _ hJ3 trivial hpl
      have hy : YieldAt Fence.wide (11 - 1) Try.prog q #[.agg #[.int .i64 p, .int .i64 x, .int .i64 d]] (wr.alloc (.cells #[.int .i64 p, .int .i64 d] 37)) _ := hy
      obtain ⟨fn, tmps, assign, body, hy1, hR⟩ := hy
      have HR := Lib.hid hR
      have i1 : IntKind.i64.wrap (x + d) = x + d := IntWalk.i64_in _ (by omega)
      have HX2 := Lib.hid HTS.out.symm
      clear hp hd hir hT hJ3 hpl hR hbw HTS hkl HK
      gi_wp2_with fail
      refine HR.out.mono ?_
      rintro e V' ⟨rfl, r1, r2, r3⟩
      have f0 := r2.cell c0 (fun h => h.1 HTT.out)
      have f1 := r2.cell c1 (fun h => h.1 HTT.out)
      have HPN : Hid (x + d = to l (k + 1) ∧ Pcs W J tb (some ⟨b, o, none⟩) l c (k + 1) V') := Lib.hid ⟨HX2.out, ⟨_, by rw [HPS.out]; exact r1⟩, r2.cell HTB.out (fun h => h.2 (.inl rfl)),
        HRU.out.keep r2 (fun h0 a e h => h.2 (.inr ⟨h0, a, e, rfl⟩)), Nat.le_trans HSZ.out (by have := r2.size; simp at this; omega)⟩
      clear r1 r2 r3 hy1 HY HJ2 HR
      gi_wp2
      go_roundw
      case rel => exact ⟨k + 1, x + d, by go_num, by omega, by go_num, HPN⟩
      case measure => simp [intOf] <;> omega
    · obtain rfl : k = N := by omega
      obtain ⟨T, hT⟩ := HK.out.2.had
      have HF : Hid (∃ xs T, xs = placesTo l l.length ∧ J xs T wr) := Lib.hid ⟨_, T, rfl, by rw [← HN.out]; exact hT⟩
      clear hT
      gi_wp2
      go_end0
      exact ⟨⟨_, rfl⟩, by have h := HF.out; rw [← HN.out] at h; exact h⟩
theorem move_info : (Try.prog.info? 35).map (fun i => (i.zero, i.size, i.bytes)) = some (some (.agg #[.int .i64 0, .int .i64 0, .int .i64 0]), 3, 24) := by kernel_rfl
theorem move_info' : ∃ i, Try.prog.info? 35 = some i ∧ i.zero = some (.agg #[.int .i64 0, .int .i64 0, .int .i64 0]) ∧ i.size = 3 ∧ i.bytes = 24 := by
  obtain ⟨i0, h, a, b, c⟩ := info_parts move_info
  exact ⟨i0, h, a, b, c⟩
/-- between two rounds of Moves' loop: what lies in the box; nothing of before was touched -/
structure Pt (w : World) (g tb : Nat) (l : List I3) (T : Nat → Prop) (V : World) : Prop where
  had : ∃ v, Boxed V g 28 v ∧ OwnTr V (tb + 1) 35 v l ∧ ∀ k, v.ownBlock = some k → ¬ T k
  below : Below w.heap.size w V
  low : w.heap.size ≤ g ∧ g < tb ∧ tb < V.heap.size
/-- within a round: the round's own variable lies in block r -/
structure Md (w : World) (g tb r : Nat) (l : List I3) (x : I3) (T : Nat → Prop) (V : World) : Prop where
  had : ∃ v, Boxed V g 28 v ∧ OwnTr V (tb + 1) 35 v l ∧ ∀ k, v.ownBlock = some k → ¬ T k ∧ k ≠ r
  below : Below w.heap.size w V
  low : w.heap.size ≤ g ∧ g < tb ∧ tb < V.heap.size
  row : V.heap[r]? = some (.cells #[.int .i64 x.1, .int .i64 x.2.1, .int .i64 x.2.2] 35 (0, 0))
  new : tb < r ∧ ¬ T r
theorem ownTr_grown {w w' : World} {base : Nat} {e : TypeId} {v : Value} {l : List I3} {row : Option Nat} (h : OwnTr w base e v l) (hg : w.grownBy w' row) (hr : ∀ r, row = some r → ∃ o : Obj, w.heap[r]? = some o ∧ o.isCells = false) : OwnTr w' base e v l := by
  refine ⟨h.1, ?_⟩
  rcases h.2 with h | ⟨g, cap, cur, k1, k2, k3, k4⟩
  · exact .inl h
  · exact .inr ⟨g, cap, cur, k1, k2, (grownBy_keeps_cells hg hr k3 rfl).trans k3, k4⟩
theorem ownTr_cells {w : World} {base : Nat} {e : TypeId} {v : Value} {l : List I3} (h : OwnTr w base e v l) : ∀ (j : Nat) (o : Obj), v.ownBlock = some j → w.heap[j]? = some o → o.isCells = true := fun j o e ho => by
  rcases h.2 with ⟨rfl, _⟩ | ⟨g, cap, cur, rfl, _, k3, _⟩
  · cases e
  · injection e with e
    simp only at e
    subst e
    rw [k3] at ho; injection ho with ho; subst ho; rfl
section
variable {w : World} {g tb r : Nat} {l : List I3} {x : I3} {T : Nat → Prop} {V V' : World} {row : Option Nat}
theorem Pt.grown (h : Pt w g tb l T V) (hg : V.grownBy V' row) (hr : ∀ r, row = some r → tb + 1 ≤ r ∧ ∃ o : Obj, V.heap[r]? = some o ∧ o.isCells = false) : Pt w g tb l T V' := by
  obtain ⟨⟨v, h1, h2, h3⟩, h4, h5⟩ := h
  have hr2 : ∀ r, row = some r → ∃ o : Obj, V.heap[r]? = some o ∧ o.isCells = false := fun r e => (hr r e).2
  exact ⟨⟨v, (grownBy_keeps_cells hg hr2 h1 rfl).trans h1, ownTr_grown h2 hg hr2, h3⟩, h4.grown hg h4.size (fun k e => by have := (hr k e).1; omega), h5.1, h5.2.1, Nat.lt_of_lt_of_le h5.2.2 hg.size⟩
theorem Pt.joined (h : Pt w g tb l T V) (hT : ∀ k, T k → tb < k) (q : Keeps T V V') : Pt w g tb l (plus T V V') V' := by
  obtain ⟨⟨v, h1, h2, h3⟩, h4, h5⟩ := h
  refine ⟨⟨v, boxed_k h1 q (fun e => by have := hT _ e; omega), h2.keep q h3, fun k e h => ?_⟩, below_keeps h4 q (fun k hk => by have := hT k hk; omega) h4.size, h5.1, h5.2.1, Nat.lt_of_lt_of_le h5.2.2 q.size⟩
  rcases h with h | h
  · exact h3 k e h
  · have := (h2.lt k e).2; omega
theorem Md.grown (h : Md w g tb r l x T V) (hg : V.grownBy V' row) (hr : ∀ r, row = some r → tb + 1 ≤ r ∧ ∃ o : Obj, V.heap[r]? = some o ∧ o.isCells = false) : Md w g tb r l x T V' := by
  obtain ⟨⟨v, h1, h2, h3⟩, h4, h5, h6, h7⟩ := h
  have hr2 : ∀ r, row = some r → ∃ o : Obj, V.heap[r]? = some o ∧ o.isCells = false := fun r e => (hr r e).2
  exact ⟨⟨v, (grownBy_keeps_cells hg hr2 h1 rfl).trans h1, ownTr_grown h2 hg hr2, h3⟩, h4.grown hg h4.size (fun k e => by have := (hr k e).1; omega), ⟨h5.1, h5.2.1, Nat.lt_of_lt_of_le h5.2.2 hg.size⟩, (grownBy_keeps_cells hg hr2 h6 rfl).trans h6, h7⟩
/-- the round's variable is made -/
theorem Pt.round (h : Pt w g tb l T V) (hT : ∀ k, T k → k < V.heap.size) : Md w g tb V.heap.size l x T (V.alloc (.cells #[.int .i64 x.1, .int .i64 x.2.1, .int .i64 x.2.2] 35)) := by
  obtain ⟨⟨v, h1, h2, h3⟩, h4, h5⟩ := h
  have hb := balloc V (.cells #[.int .i64 x.1, .int .i64 x.2.1, .int .i64 x.2.2] 35)
  exact ⟨⟨v, h1.alloc _, h2.below hb, fun k e => ⟨h3 k e, fun e2 => by have := (h2.lt k e).2; omega⟩⟩, h4.alloc h4.size _, ⟨h5.1, h5.2.1, Nat.lt_of_lt_of_le h5.2.2 hb.size⟩, heap_alloc_new V _, h5.2.2, fun h => by have := hT _ h; omega⟩
theorem Md.stay (h : Md w g tb r l x T V) : Pt w g tb l T V := by
  obtain ⟨⟨v, h1, h2, h3⟩, h4, h5, -, -⟩ := h
  exact ⟨⟨v, h1, h2, fun k e => (h3 k e).1⟩, h4, h5⟩
end
end Go.Proofs.Ythmllbijfgimcaa.Compact

/- package compact: Moves -/
set_option maxRecDepth 100000
set_option maxHeartbeats 2000000
namespace Go.Proofs.Ythmllbijfgimcaa.Compact
open Go.RowKit Go.Shelf CptM Pairs Trips Seqs
attribute [local go_sem] Oper.semAt_some

theorem wpListIn_append_trips {F : Fence} {n : Nat} {t e : TypeId} {i : TypeInfo} {z : Value} {bytes : Nat} (ht : Try.prog.underlying t = some (.slice e)) (hi : Try.prog.info? e = some i) (hz : i.zero = some z) (hsize : i.size = 3) (hby : i.bytes = bytes) (hzs : z.cells.size = 3)
    {ops : Array Oper} {rest : List Oper} {o : Oper} {a : Act} {w : World} {Q : Exit → Act → World → Prop} (hgd : o.guard = none) (s x : Operand)
    (ho : o.op = .call { callee := .builtin .append, args := #[s, x], argTypes := #[t, t] })
    (base : Nat) (v : Value) (xs : List I3) (hs : a.eval s = v) (hown : OwnTr w base e v xs) (A : Option Addr) (m c : Nat) (ys : List I3) (hx : a.eval x = .slice A m c) (hy : ys.length = m) (hA : TripsAt w A ys)
    (hl : xs.length + m < 1099511627776) (hb : bytes ≤ 64) (hbase : base ≤ w.heap.size)
    (h : ∀ v' w', AppdTr w base e v (xs ++ ys) v' w' → wpListIn F n Try.prog ops Q rest (a.put o.dst v') w') : wpListIn F n Try.prog ops Q (o :: rest) a w := by
  obtain ⟨v', w', hrun, k2⟩ := run_append_trips (ty := o.type) ht hi hz hsize hby hzs hown hy hA hl hb hbase (c := c)
  refine wpListIn_plain hgd fun K hK' => ?_
  unfold Oper.wpIn
  refine ⟨?_, ?_⟩
  · simp [Oper.about, ho, resolve, Target.leads, Sem.run_pure]
  · rw [Oper.semAt_plain F _ _ (by rw [ho]; intro c hc'; cases hc')]
    simp [execOp, ho, resolve, invoke, builtin, hs, hx, hrun, Result.andThen]
    exact hK' _ _ (h v' w' k2)
theorem new_cell (w : World) (v : Value) (t : TypeId) : (w.alloc (.cells #[v] t)).cell? ⟨w.heap.size, 0, none⟩ = some v := by simp
theorem weak3 {W : World} {base base' : Nat} {e : TypeId} {v : Value} {l : List I3} (h : OwnTr W base e v l) (hb : base' ≤ base) : OwnTr W base' e v l := by
  refine ⟨h.1, ?_⟩
  rcases h.2 with h | ⟨g, cap, cur, k1, k2, k3⟩
  · exact .inl h
  · exact .inr ⟨g, cap, cur, k1, Nat.le_trans hb k2, k3⟩
/-- what Moves tells: of runs apart those that go elsewhere; else none -/
def movesA (l : List I2) : List I3 := if Apart l then moves l else []
theorem moves_any (A : Option Addr) (l : List I2) (c : Nat) (w : World) (hA : PairsAt w A l) (hin : InL l) (h1 : l.length ≤ c) (h2 : c ≤ maxLen) :
    Calls Try.prog 9 #[.slice A l.length c] w fun e w' => ∃ v, e = .returned v ∧ OwnTr w' w.heap.size 35 v (movesA l) ∧ Below w.heap.size w w' := by
  have HC := Lib.hid (apart_any A l c w hA hin h1 h2)
  by_cases hap : Apart l
  · have hdt : decide (Apart l) = true := by rw [decide_eq_true_iff]; exact hap
    rw [hdt] at HC
    have HFIN : Hid (movesA l = goes (placesTo l l.length)) := Lib.hid (by unfold movesA; rw [if_pos hap, goes_all l _ (Nat.le_refl _)]; rfl)
    have hlen := apart_len hap
    have HAP := Lib.hid hap
    have HA := Lib.hid hA
    obtain ⟨N, hN⟩ : ∃ N, N = l.length := ⟨_, rfl⟩
    have HN := Lib.hid hN
    rw [← hN] at HC hlen h1 ⊢
    obtain ⟨i0, hi, hz, hs1, hb1⟩ := move_info'
    have HI := Lib.hid (And.intro hi (And.intro hz (And.intro hs1 hb1)))
    clear hA hin hap hdt hN hi hz hs1 hb1
    refine (callsIn_wide (n := 12)).1 ?_
    refine callsIn_of_wp_marks Try.func9 rfl trivial ?_ rfl
    simp only [Try.ntmps9, List.size_toArray, List.length_cons, List.length_nil, Nat.reduceAdd, Nat.reduceSub, Array.replicate_succ, Array.replicate_zero, List.push_toArray, List.append_toArray, List.nil_append, List.cons_append]
    gi_wp2_with fail
    refine ⟨trivial, ?_⟩
    refine (callsIn_wide.2 HC.out).mono ?_
    rintro e w1 ⟨rfl, hb1⟩
    have HB1 := Lib.hid hb1
    clear hb1
    gi_wp2_with fail
    refine ⟨trivial, ?_⟩
    refine (places_in _ A N c _).mono ?_
    rintro e w' ⟨rfl, rfl⟩
    gi_wp2_with fail
    have hsz : (w1.alloc (.cells #[.slice none 0 0] 28)).heap.size = w1.heap.size + 1 := by simp
    have hbA := balloc w1 (.cells #[.slice none 0 0] 28)
    have hbB := balloc (w1.alloc (.cells #[.slice none 0 0] 28)) (.cells #[.slice A N c] 26)
    have hb0 := HB1.out.trans ((bstep hbA hbB).mono HB1.out.size)
    have htb : ((w1.alloc (.cells #[.slice none 0 0] 28)).alloc (.cells #[.slice A N c] 26)).cell? ⟨w1.heap.size + 1, 0, none⟩ = some (.slice A N c) := by
      have := new_cell (w1.alloc (.cells #[.slice none 0 0] 28)) (.slice A N c) 26
      rw [hsz] at this; exact this
    have hbx := (Boxed.new w1 28 (.slice none 0 0)).alloc (.cells #[.slice A N c] 26)
    have hz0 : ((w1.alloc (.cells #[.slice none 0 0] 28)).alloc (.cells #[.slice A N c] 26)).heap.size = w1.heap.size + 2 := by simp
    generalize (w1.alloc (.cells #[.slice none 0 0] 28)).alloc (.cells #[.slice A N c] 26) = W0 at *
    have hge := HB1.out.size
    obtain ⟨g, hg⟩ : ∃ g, g = w1.heap.size := ⟨_, rfl⟩
    obtain ⟨tb, htbe⟩ : ∃ tb, tb = w1.heap.size + 1 := ⟨_, rfl⟩
    rw [← htbe] at htb ⊢
    rw [← hg] at hbx ⊢
    have HPT : Hid (Pt w g tb (goes []) (fun _ => False) W0) := Lib.hid ⟨⟨_, hbx, OwnTr.nil _ _ _, fun k e => by cases e⟩, hb0, by omega, by omega, by omega⟩
    have hW0 : W0.heap.size = tb + 1 := by omega
    have HBO := Lib.hid (places1_own tb A l c HAP.out (by rw [← HN.out]; exact h1) h2 W0 (by rw [← HN.out]; exact htb) (HA.out.below hb0))
    have HGB : Hid (∀ k, BlkR tb A l k → k = tb ∨ k < w.heap.size) := Lib.hid fun k h => by
      rcases h with rfl | ⟨h0, a, e, rfl⟩
      · exact .inl rfl
      · obtain ⟨b, o, e2, hc, _⟩ := HA.out 0 h0
        rw [e] at e2; injection e2 with e2; subst e2
        have := cell_lt hc
        simp only at this ⊢; omega
    have HW0 := Lib.hid hW0
    have hgw : g < W0.heap.size := by omega
    have HWL : Hid (w.heap.size ≤ tb) := Lib.hid (by omega)
    clear hsz hbA hbB hb0 htb hbx hge hg htbe hz0 hW0 hgw
    refine wpIn_rangeFunc_seqA rfl (by omega) (gf := 16) (lb := #[.pointer (some ⟨tb, 0, none⟩)]) rfl trivial (enters_of Try.func16 (by kernel_rfl) rfl)
      HBO.out (Below.refl _ _) (fun _ => rfl) (fun j hj => by have := HGB.out j hj; have := HW0.out; have := HWL.out; omega)
      (fun xs T V => Pt w g tb (goes xs) T V)
      (fun T xs X Y row h hg hr => h.grown hg (fun r e => ⟨by have := (hr r e).1; have := HW0.out; omega, (hr r e).2⟩))
      (fun xs T V V' hT h q => h.joined (fun j hj => by have := (hT j hj).1; have := HW0.out; omega) q)
      HPT.out
      (fun xs x T a V => ∃ r, a = { tmps := #[.slice A N c, undef, .slice none 0 0, .pointer (some ⟨g, 0, none⟩), .pointer (some ⟨r, 0, none⟩), .slice A N c, .bool true, .bool false, .slice A N c, .func (.func 16) #[] #[.pointer (some ⟨tb, 0, none⟩)], .agg #[.int .i64 x.1, .int .i64 x.2.1, .int .i64 x.2.2], undef, undef, undef, undef, undef, undef, undef, undef, undef, undef], defers := [] } ∧ Md w g tb r (goes xs) x T V)
      (fun x T a xs X Y row h hg hr => by
        obtain ⟨r, h1, h2⟩ := h
        exact ⟨r, h1, h2.grown hg (fun r e => ⟨by have := (hr r e).1; have := HW0.out; omega, (hr r e).2⟩)⟩) ?assign ?body ?done
    case assign =>
      intro q pre x T V K hT hP _ hlt hK
      have hM := hP.round (x := x) (fun k h => (hT k h).2)
      have hb := balloc V (.cells #[.int .i64 x.1, .int .i64 x.2.1, .int .i64 x.2.2] 35)
      have HK2 := Lib.hid (fun a h => hK a _ ⟨_, h, hM⟩ (.of_below _ hb) ⟨hb.size, fun k _ _ h _ => (hb.block k (Array.getElem?_eq_some_iff.1 h).1).trans h⟩)
      clear hK hM hb hP
      unfold encM
      gi_wp2
      exact HK2.out _ rfl
    case body =>
      rintro q pre x T a V hT ⟨r, rfl, hM⟩ hlt
      have HM := Lib.hid hM
      obtain ⟨x1, x2, x3⟩ := x
      have c0 : V.cell? ⟨r, 0, none⟩ = some (.int .i64 x1) := by rw [cell_of_row V r 0 _ 35 (0, 0) hM.row]; rfl
      have c1 : V.cell? ⟨r, 1, none⟩ = some (.int .i64 x2) := by rw [cell_of_row V r 1 _ 35 (0, 0) hM.row]; rfl
      have c2 : V.cell? ⟨r, 2, none⟩ = some (.int .i64 x3) := by rw [cell_of_row V r 2 _ 35 (0, 0) hM.row]; rfl
      have HGS := Lib.hid (goes_snoc pre (x1, x2, x3))
      simp only at HGS
      clear hM
      by_cases hx : x1 = x2
      · have HF : Hid (seqPost W0.heap.size (BlkR tb A l) (fun xs T V => Pt w g tb (goes xs) T V) (pre ++ [(x1, x2, x3)]) T V .normal ⟨#[], []⟩ V) := Lib.hid ⟨.refl _ _, .refl _ _, by
          show Pt w g tb (goes (pre ++ [(x1, x2, x3)])) T V
          rw [HGS.out, if_pos hx]; exact HM.out.stay⟩
        subst hx
        clear HM HGS
        gi_wp2
        exact HF.out
      · obtain ⟨v, h1, h2, h3⟩ := HM.out.had
        have c3 := h1.cell
        have HB1 := Lib.hid h1; have HO1 := Lib.hid h2; have HT1 := Lib.hid h3
        have hb := balloc V (.cells #[.int .i64 x1, .int .i64 x2, .int .i64 x3] 35)
        have HBV := Lib.hid hb
        have HOW := Lib.hid (h2.below hb)
        have HLT := Lib.hid (TripsAt.lit V (x1, x2, x3) 35)
        have HSZ : Hid (tb + 1 ≤ (V.alloc (.cells #[.int .i64 x1, .int .i64 x2, .int .i64 x3] 35)).heap.size) := Lib.hid (by have := HM.out.low; simp; omega)
        have HGL : Hid ((goes pre).length + 1 < 1099511627776) := Lib.hid (by
          have : (goes pre).length ≤ pre.length := by unfold goes; exact List.length_filter_le _ _
          have := HN.out; omega)
        clear h1 h2 h3 hb
        gi_wp2_with (gi_at_builtin; refine wpListIn_append_trips Try.underlying28 HI.out.1 HI.out.2.1 HI.out.2.2.1 HI.out.2.2.2 rfl rfl _ _ rfl (tb + 1) v _ rfl HOW.out (some ⟨V.heap.size, 0, none⟩) 1 1 [(x1, x2, x3)] rfl rfl HLT.out HGL.out (by omega) HSZ.out ?_; intro v' w2 ha; have HAP2 := Lib.hid ha; have bx2 := (HB1.out.alloc (.cells #[.int .i64 x1, .int .i64 x2, .int .i64 x3] 35)).kept ha.grow (fun e => by have := (HO1.out.lt g e.symm).1; have := HM.out.low; omega); have c4 := bx2.cell; have f4 := bx2.frozen; have HB2 := Lib.hid bx2; clear ha bx2; obtain ⟨A', c', hv', q1, q2, -, -⟩ := HAP2.out.own.trips; subst hv'; generalize (goes pre ++ [(x1, x2, x3)]).length = N' at *)
        have ha := HAP2.out
        have hlow := HM.out.low
        have hlt := HO1.out.lt
        have qg : Keeps (fun k => k = g ∨ v.ownBlock = some k) V (w2.setCell ⟨g, 0, none⟩ (.slice A' N' c')) :=
          ((Keeps.of_below (fun k => k = g ∨ v.ownBlock = some k) HBV.out).own ha.grow (fun k e => .inl (.inr e))).trans (.set _ _ _ _ (.inl rfl))
        have hnew : ∀ k, (Value.slice A' N' c').ownBlock = some k → tb + 1 ≤ k ∧ ¬ T k := fun k e => by
          refine ⟨(ha.own.lt k e).1, fun hk => ?_⟩
          rcases ha.place with h | h
          · rw [h] at e; exact (HT1.out k e).1 hk
          · rw [h] at e; injection e with e
            have := (hT k hk).2
            simp at e; omega
        have FIN : seqPost W0.heap.size (BlkR tb A l) (fun xs T V => Pt w g tb (goes xs) T V) (pre ++ [(x1, x2, x3)]) T V .normal ⟨#[], []⟩ (w2.setCell ⟨g, 0, none⟩ (.slice A' N' c')) := by
          refine ⟨?_, qg.mono fun k _ hk => ?_, ?_⟩
          · refine KeepsFrom.trans ⟨HBV.out.size, fun k _ _ h _ => (HBV.out.block k (Array.getElem?_eq_some_iff.1 h).1).trans h⟩ (((KeepsOthers.of_grownBy ha.grow (ownTr_cells HOW.out)).trans (KeepsOthers.setCell _ _ _)).from _)
          · rcases hk with rfl | hk
            · exact ⟨fun h => by have := (hT _ h).1; have := HW0.out; omega, fun h => by rcases HGB.out _ h with h | h <;> omega⟩
            · exact ⟨(HT1.out k hk).1, fun h => by have := (hlt k hk).1; have := HWL.out; rcases HGB.out _ h with h | h <;> omega⟩
          · show Pt w g tb (goes (pre ++ [(x1, x2, x3)])) T _
            rw [HGS.out, if_neg hx]
            refine ⟨⟨_, HB2.out.set _, ha.own.keep (F := fun k => k = g) (.set _ _ _ _ rfl) (fun k e h => by have := (hnew k e).1; omega), fun k e => (hnew k e).2⟩, below_keeps HM.out.below qg (fun k hk => ?_) HM.out.below.size, hlow.1, hlow.2.1, Nat.lt_of_lt_of_le hlow.2.2 qg.size⟩
            rcases hk with rfl | hk
            · exact hlow.1
            · have := (hlt k hk).1; omega
        exact FIN
    case done =>
      rintro D xs T V hD hS hP hK
      subst hS
      rw [← HFIN.out] at hP
      obtain ⟨v, h1, h2, h3⟩ := hP.had
      have c0 := h1.cell
      have hlow := hP.low
      have hw0 := HW0.out
      have hwl := HWL.out
      have hbD : Below w.heap.size w (V.putObj D (.deferred none)) := hP.below.trans (belowK_b (w := w) (Nat.le_refl _) _ D _ (.deferred none) (by omega) hK rfl rfl)
      have hgr := grownBy_putObj' V D (.deferred none)
      have hr2 : ∀ r, some D = some r → ∃ o : Obj, V.heap[r]? = some o ∧ o.isCells = false := fun r e => by cases e; exact ⟨_, hK, rfl⟩
      have HO2 := Lib.hid (ownTr_grown h2 hgr hr2)
      have HB := Lib.hid hbD
      clear h1 h2 h3 hP hbD hgr hr2 hlow hw0 hwl
      gi_wp2
      refine ⟨by simp, .inl ⟨_, _, rfl, run_takeDeferred hK, ?_⟩⟩
      exact ⟨_, results_tmp rfl _ _ _, v, rfl, weak3 HO2.out (by have := HWL.out; omega), HB.out⟩
  · have hdt : decide (Apart l) = false := by rw [decide_eq_false_iff_not]; exact hap
    rw [hdt] at HC
    have HE : Hid (movesA l = []) := Lib.hid (by unfold movesA; rw [if_neg hap])
    clear hA hin hap hdt
    generalize l.length = N at *
    go_enter Try.func9, Try.ntmps9
    go_wp2_with fail
    refine HC.out.mono ?_
    rintro e w1 ⟨rfl, hb1⟩
    have HB := Lib.hid hb1
    clear hb1
    go_wp2
    go_ret
    exact ⟨_, rfl, by rw [HE.out]; exact OwnTr.nil _ _ _, HB.out⟩
end Go.Proofs.Ythmllbijfgimcaa.Compact
