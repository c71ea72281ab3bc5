/- merged: R23, R23B, R23C -/
import Derived.Test.YthmllbijfgimcaaMMC
import Derived.Test.YthmllbijfgimcaaTrips
import Derived.Test.YthmllbijfgimcaaInts
import Derived.Test.YthmllbijfgimcaaStore
import Derived.Lib.MinMax
import Derived.BigQuiet
import Derived.Test.YthmllbijfgimcaaPairSet
import Derived.Test.YthmllbijfgimcaaFlow

/- the document's own answers of layer 23 -/
set_option maxRecDepth 100000
set_option maxHeartbeats 1000000
namespace Go.Proofs.Ythmllbijfgimcaa.R23
open Go.RowKit CptM Pairs

def In64 (z : Int) : Prop := -9223372036854775808 ≤ z ∧ z ≤ 9223372036854775807
def InL (l : List I2) : Prop := ∀ r ∈ l, In64 r.1 ∧ In64 r.2
/-- a block of numbers, stated whole -/
def Arr (w : World) (g : Nat) (m : List Int) : Prop := w.heap[g]? = some (.cells (intV m).toArray 3 (0, 0))
section
variable {w w' : World} {g : Nat} {m : List Int}
theorem Arr.lt (h : Arr w g m) : g < w.heap.size := (Array.getElem?_eq_some_iff.1 h).1
theorem Arr.below (h : Arr w g m) (hb : Below w.heap.size w w') : Arr w' g m := (hb.block g h.lt).trans h
theorem Arr.cell (h : Arr w g m) {i : Nat} (hi : i < m.length) : w.cell? ⟨g, i, none⟩ = some (.int .i64 m[i]) := by
  rw [cell_of_row w g i _ 3 (0, 0) h]
  simp [intV, hi]
theorem Arr.fr (h : Arr w g m) (i : Nat) : w.frozen? ⟨g, i, none⟩ = false := by simp [World.frozen?, show w.heap[g]? = _ from h]
theorem Arr.set (h : Arr w g m) (i : Nat) (z : Int) : Arr (w.setCell ⟨g, i, none⟩ (.int .i64 z)) g (m.set i z) := by
  have : (w.setCell ⟨g, i, none⟩ (.int .i64 z)).heap[g]? = _ := heap_setCell_same w g i _ _ _ h
  unfold Arr
  rw [this, List.setIfInBounds_toArray]
  unfold intV
  rw [List.map_set]
theorem Arr.ints (h : Arr w g m) : IntsAt w (some ⟨g, 0, none⟩) m := fun i hi => by
  have hi' : i < m.length := by rw [← intV_len]; exact hi
  exact ⟨g, 0, rfl, by rw [Nat.zero_add, h.cell hi', intV_get]⟩
end
theorem make_ints (n : Nat) (hn : n ≤ 1048576) (w : World) :
    (Instr.makeSlice 39 (.int .i64 (n : Int)) (.int .i64 (n : Int))).run Try.prog w = .ok (.slice (some ⟨w.heap.size, 0, none⟩) n n) (w.alloc (.cells (intV (List.replicate n 0)).toArray 3)) := by
  obtain ⟨i0, hi, hz, hs, hb⟩ := int_info'
  have hr := run_make (P := Try.prog) w 39 3 i0 _ Try.underlying39 hi hz .i64 .i64 n n (by omega) (by omega) (by rw [hb]; omega) (by omega)
  simp only [Int.toNat_natCast] at hr
  have : madeCells (Value.int .i64 0).cells n = (intV (List.replicate n 0)).toArray := by
    apply Array.ext'
    rw [show (Value.int .i64 0).cells = #[.int .i64 0] from rfl, toList_madeCells_one]
    simp [intV]
  rw [hr, hs, Nat.mul_one, this]
/-- what Map tells: a block of 256 numbers, and whether the runs are well -/
def RetMap (w : World) (l : List I2) (e : Ending) (w' : World) : Prop :=
  ∃ (g : Nat) (m : List Int), e = .returned (.tuple #[.slice (some ⟨g, 0, none⟩) 256 256, .bool (decide (Ok l))]) ∧ Arr w' g m ∧ m.length = 256 ∧ (Ok l → Cov m l) ∧ w.heap.size ≤ g ∧ Below w.heap.size w w'
/-- the map on the way -/
structure Mp (w : World) (g : Nat) (m : List Int) (wr : World) : Prop where
  arr : Arr wr g m
  len : m.length = 256
  below : Below w.heap.size w wr
  new : w.heap.size ≤ g
theorem Mp.set {w wr : World} {g : Nat} {m : List Int} (h : Mp w g m wr) (i : Nat) (z : Int) : Mp w g (m.set i z) (wr.setCell ⟨g, i, none⟩ (.int .i64 z)) :=
  ⟨h.arr.set i z, by rw [List.length_set]; exact h.len, below_keeps (F := fun k => k = g) h.below (.set _ _ _ _ rfl) (fun k e => by rw [e]; exact h.new) h.below.size, h.new⟩
theorem Mp.draw {w wr : World} {g : Nat} {m : List Int} (h : Mp w g m wr) (n : Nat) : Mp w g m (wr.drewN n) := ⟨h.arr.below (bdraw wr n), h.len, below_drewN h.below n, h.new⟩
theorem Mp.no {w wr : World} {g : Nat} {m : List Int} {l : List I2} (h : Mp w g m wr) (hn : ¬ Ok l) : RetMap w l (.returned (.tuple #[.slice (some ⟨g, 0, none⟩) 256 256, .bool false])) wr :=
  ⟨g, m, by rw [decide_eq_false hn], h.arr, h.len, fun q => absurd q hn, h.new, h.below⟩
theorem map_any (A : Option Addr) (l : List I2) (c : Nat) (w : World) (hA : PairsAt w A l) (hin : InL l) (_h1 : l.length ≤ c) (_h2 : c ≤ maxLen) :
    Calls Try.prog 13 #[.slice A l.length c] w (RetMap w l) := by
  have HA := Lib.hid hA
  have HI := Lib.hid hin
  unfold maxLen at _h2
  obtain ⟨N, hN⟩ : ∃ N, N = l.length := ⟨_, rfl⟩
  have HN := Lib.hid hN
  have hNs : N ≤ 9223372036854775807 := by omega
  rw [← hN]
  obtain ⟨C0, hC0⟩ : ∃ C0, C0 = (intV (List.replicate 256 0)).toArray := ⟨_, rfl⟩
  have hmk : ∀ W : World, (Instr.makeSlice 39 (.int .i64 256) (.int .i64 256)).run Try.prog W = .ok (.slice (some ⟨W.heap.size, 0, none⟩) 256 256) (W.alloc (.cells C0 3)) := fun W => by rw [hC0]; exact make_ints 256 (by omega) W
  have HM0 : Hid (Mp w w.heap.size (List.replicate 256 0) (w.alloc (.cells C0 3))) := Lib.hid ⟨by rw [hC0]; exact heap_alloc_new w _, List.length_replicate, balloc _ _, Nat.le_refl _⟩
  clear hA hin hN _h1 _h2 hC0
  go_enter Try.func13, Try.ntmps13
  go_wp2
  clear hmk
  generalize w.alloc (.cells C0 3) = W1 at *
  obtain ⟨g, hg⟩ : ∃ g, g = w.heap.size := ⟨_, rfl⟩
  rw [← hg] at HM0 ⊢
  clear hg
  go_loopw [5] (fun i wr => ∃ (k : Nat) (m : List Int), i = .int .i64 k ∧ k ≤ 256 ∧ Hid (Mp w g m wr ∧ ∀ j, (h : j < m.length) → j < k → m[j] = -1)) (fun i _ => 256 - (intOf i).toNat)
  case atStart => exact ⟨0, _, rfl, Nat.zero_le _, Lib.hid ⟨HM0.out, fun j _ h => by omega⟩⟩
  case round =>
    obtain ⟨k, m, rfl, hk, HK⟩ := hrel
    rename World => wr
    by_cases hlt : k < 256
    · have f0 := HK.out.1.arr.fr k
      have e0 := HK.out.1.arr.cell (i := k) (by rw [HK.out.1.len]; exact hlt)
      have HN2 : Hid (Mp w g (m.set k (-1)) (wr.setCell ⟨g, k, none⟩ (.int .i64 (-1))) ∧ ∀ j, (h : j < (m.set k (-1)).length) → j < k + 1 → (m.set k (-1))[j] = -1) := Lib.hid ⟨HK.out.1.set k (-1), fun j h hj => by
        rw [List.getElem_set]
        split
        · rfl
        · exact HK.out.2 j (by simpa using h) (by omega)⟩
      generalize m[k]'(by rw [HK.out.1.len]; exact hlt) = z0 at *
      clear HK HM0
      go_wp2
      go_roundw
      case rel => exact ⟨k + 1, _, by go_num, by omega, HN2⟩
      case measure => simp [intOf] <;> omega
    · have HM : Hid (Mp w g (List.replicate 256 (-1)) wr) := Lib.hid (by
        have h1 := HK.out.1
        have : m = List.replicate 256 (-1) := List.ext_getElem (by rw [h1.len, List.length_replicate]) fun j q1 q2 => by
          rw [List.getElem_replicate]; exact HK.out.2 j q1 (by rw [h1.len] at q1; omega)
        rw [← this]; exact h1)
      have hk1 : ¬ ((k : Int) < 256) := by omega
      have HC0 : Hid (∃ m, Mp w g m wr ∧ Cov m (l.take 0) ∧ Ok (l.take 0)) := Lib.hid ⟨_, HM.out, Cov.none, ok_nil⟩
      clear HK HM0 HM hlt hk
      go_wp2
      go_loopw [6] (fun i wr => ∃ (k : Nat), i = .int .i64 k ∧ k ≤ N ∧ Hid (∃ m, Mp w g m wr ∧ Cov m (l.take k) ∧ Ok (l.take k))) (fun i _ => N - (intOf i).toNat)
      case atStart => exact ⟨0, rfl, Nat.zero_le _, HC0⟩
      case round =>
        obtain ⟨k, rfl, hk, HK⟩ := hrel
        rename World => wr
        obtain ⟨m, hm, hcov, hok⟩ := HK.out
        by_cases hlt : k < N
        · have hkl : k < l.length := by have := HN.out; omega
          obtain ⟨b, o, hAe, e0, e1⟩ := (HA.out.below hm.below) k hkl
          subst hAe
          have hir := HI.out l[k] (List.getElem_mem hkl)
          unfold In64 at hir
          obtain ⟨x, hx⟩ : ∃ x, x = l[k].1 := ⟨_, rfl⟩
          obtain ⟨y, hy⟩ : ∃ y, y = l[k].2 := ⟨_, rfl⟩
          have HNO : Hid ((x < 0 ∨ 255 < x ∨ y < 1 ∨ 256 - x < y) → ¬ Ok l) := Lib.hid fun h => not_in hkl (by unfold In; rw [← hx, ← hy]; omega)
          rw [← hx] at e0 hir
          rw [← hy] at e1 hir
          have HX := Lib.hid hx; have HY := Lib.hid hy
          have HM := Lib.hid hm; have HCV := Lib.hid hcov; have HOK := Lib.hid hok
          have hlti : (k : Int) < (N : Int) := by omega
          clear hx hy hm hcov hok HK HC0
          by_cases h1 : x < 0
          · have HF2 := Lib.hid (fun n => (HM.out.draw n).no (HNO.out (.inl h1)))
            have d1 : decide (x < 0) = true := by simpa using h1
            clear HNO HX HY HCV HOK HM
            go_wp2
            go_quiet (fail)
            go_wp2
            go_ret2
            exact HF2.out _
          have d1 : decide (x < 0) = false := by simpa using h1
          by_cases h2 : 255 < x
          · have HF2 := Lib.hid (fun n => (HM.out.draw n).no (HNO.out (.inr (.inl h2))))
            have d2 : decide (255 < x) = true := by simpa using h2
            clear HNO HX HY HCV HOK HM
            go_wp2
            go_quiet (fail)
            go_wp2
            go_ret2
            exact HF2.out _
          have d2 : decide (255 < x) = false := by simpa using h2
          by_cases h3 : y < 1
          · have HF2 := Lib.hid (fun n => (HM.out.draw n).no (HNO.out (.inr (.inr (.inl h3)))))
            have d3 : decide (y < 1) = true := by simpa using h3
            clear HNO HX HY HCV HOK HM
            go_wp2
            go_quiet (fail)
            go_wp2
            go_ret2
            exact HF2.out _
          have d3 : decide (y < 1) = false := by simpa using h3
          have i1 : IntKind.i64.wrap (256 - x) = 256 - x := IntWalk.i64_in _ (by omega)
          by_cases h4 : 256 - x < y
          · have HF2 := Lib.hid (fun n => (HM.out.draw n).no (HNO.out (.inr (.inr (.inr h4)))))
            have d4 : decide (256 - x < y) = true := by simpa using h4
            clear HNO HX HY HCV HOK HM
            go_wp2
            go_quiet (fail)
            go_wp2
            go_ret2
            exact HF2.out _
          have d4 : decide (256 - x < y) = false := by simpa using h4
          clear HNO
          obtain ⟨x, rfl⟩ : ∃ q : Nat, x = (q : Nat) := ⟨x.toNat, by omega⟩
          obtain ⟨y, rfl⟩ : ∃ q : Nat, y = (q : Nat) := ⟨y.toNat, by omega⟩
          have HE : Hid (l[k] = ((x : Int), (y : Int))) := Lib.hid (Prod.ext HX.out.symm HY.out.symm)
          have HIN : Hid (In l[k]) := Lib.hid (by rw [HE.out]; unfold In; simp only; omega)
          have hxy : x + y ≤ 256 := by omega
          have i2 : IntKind.i64.wrap ((x : Int) + (y : Int)) = ((x + y : Nat) : Int) := by rw [IntWalk.i64_in _ (by omega)]; omega
          obtain ⟨E, hE⟩ : ∃ E, E = x + y := ⟨_, rfl⟩
          rw [← hE] at i2 hxy
          have hxE : x ≤ E := by omega
          have HEE := Lib.hid hE
          clear hE HX HY
          have HS : Hid (∀ n, ∃ m, Mp w g m (wr.drewN n) ∧ CovTo m (l.take k) x x ∧ Free (l.take k) x x) := Lib.hid fun n => ⟨m, HM.out.draw n, HCV.out.start x, fun r _ j q1 q2 => by omega⟩
          go_wp2
          go_quiet (fail)
          have HS := Lib.hid (HS.out nq)
          have hbq := bdraw wr nq
          have e0 := (hbq.cell (p := ⟨b, o + k * 2, none⟩) (cell_lt e0)).trans e0
          have e1 := (hbq.cell (p := ⟨b, o + k * 2 + 1, none⟩) (cell_lt e1)).trans e1
          generalize wr.drewN nq = wq at *
          clear hbq d1 d2 d3 d4 HM HCV h1 h2 h3 h4
          go_wp2
          go_loopw [7] (fun v wv => ∃ i : Nat, v = .int .i64 i ∧ x ≤ i ∧ i ≤ E ∧ Hid (∃ m, Mp w g m wv ∧ CovTo m (l.take k) x i ∧ Free (l.take k) x i)) (fun v _ => E - (intOf v).toNat)
          case atStart => exact ⟨x, rfl, Nat.le_refl _, hxE, HS⟩
          case round =>
            obtain ⟨i, rfl, hi1, hi2, HK2⟩ := hrel
            rename World => wv
            obtain ⟨m2, hm, hcov, hfr⟩ := HK2.out
            obtain ⟨b', o', hAe, e0', e1'⟩ := (HA.out.below hm.below) k hkl
            injection hAe with hAe; injection hAe with q1 q2; subst q1; subst q2
            rw [HE.out] at e0' e1'
            simp only at e0' e1'
            have HM := Lib.hid hm; have HCV := Lib.hid hcov; have HFR := Lib.hid hfr
            clear hm hcov hfr HK2 e0 e1 HS
            by_cases hlt2 : i < E
            · have d5 : decide ((i : Int) < (E : Int)) = true := by simpa using hlt2
              have him : i < m2.length := by rw [HM.out.len]; omega
              have hi3 : (i : Int) < 256 := by omega
              have hc := fun n => (HM.out.draw n).arr.cell him
              have hf := fun n => (HM.out.draw n).arr.fr i
              obtain ⟨z, hz⟩ : ∃ z, z = m2[i] := ⟨_, rfl⟩
              rw [← hz] at hc
              by_cases h0 : 0 ≤ z
              · have HNO := Lib.hid (HCV.out.hit hkl HE.out hi1 (by have := HEE.out; omega) him (by rw [← hz]; exact h0))
                have HF2 := Lib.hid (fun n => (HM.out.draw n).no HNO.out)
                have HC := Lib.hid hc
                clear hz hc hf HNO HM HCV HFR him
                go_wp2
                go_quiet (fail)
                have e5 := HC.out nq
                have HF3 := Lib.hid (HF2.out nq)
                generalize wv.drewN nq = wz at *
                go_wp2
                go_ret2
                exact HF3.out
              · have HN2 : Hid (∀ n, ∃ m, Mp w g m ((wv.drewN n).setCell ⟨g, i, none⟩ (.int .i64 (k : Nat))) ∧ CovTo m (l.take k) x (i + 1) ∧ Free (l.take k) x (i + 1)) := Lib.hid fun n =>
                  ⟨m2.set i (k : Nat), (HM.out.draw n).set i _, HCV.out.step hi1 (by omega), Free.step HCV.out HFR.out hi1 him (by rw [← hz]; exact h0)⟩
                have HC := Lib.hid hc; have HFF := Lib.hid hf
                clear hz hc hf HM HCV HFR him
                go_wp2
                go_quiet (fail)
                have e5 := HC.out nq
                have f5 := HFF.out nq
                have HN3 := Lib.hid (HN2.out nq)
                generalize wv.drewN nq = wz at *
                go_wp2
                go_roundw
                case rel => exact ⟨i + 1, by go_num, by omega, by omega, HN3⟩
                case measure => simp [intOf] <;> omega
            · obtain rfl : i = E := by omega
              have d5 : decide ((i : Int) < (i : Int)) = false := by simp
              have HN2 : Hid (∀ n, ∃ m, Mp w g m (wv.drewN n) ∧ Cov m (l.take (k + 1)) ∧ Ok (l.take (k + 1))) := Lib.hid fun n => by
                have h1 := HCV.out
                have h2 := HFR.out
                rw [HEE.out] at h1 h2
                exact ⟨m2, HM.out.draw n, h1.stop hkl HE.out, h2.stop hkl HE.out HIN.out HOK.out⟩
              clear HM HCV HFR
              go_wp2
              go_quiet (fail)
              have HN3 := Lib.hid (HN2.out nq)
              generalize wv.drewN nq = wz at *
              clear HN2
              go_wp2
              go_roundw
              case rel => exact ⟨k + 1, by go_num, by omega, HN3⟩
              case measure => simp [intOf] <;> omega
        · obtain rfl : k = N := by omega
          have hd : decide (Ok l) = true := by rw [decide_eq_true_iff]; rw [HN.out, List.take_length] at hok; exact hok
          rw [HN.out, List.take_length] at hcov
          have HF : Hid (RetMap w l (.returned (.tuple #[.slice (some ⟨g, 0, none⟩) 256 256, .bool true])) wr) := Lib.hid ⟨g, m, by rw [hd], hm.arr, hm.len, fun _ => hcov, hm.new, hm.below⟩
          clear hm hcov hok hd HK HC0
          go_wp2
          go_ret2
          exact HF.out
end Go.Proofs.Ythmllbijfgimcaa.R23

/- the document's own answers of layer 23: To, Apart -/
set_option maxRecDepth 100000
set_option maxHeartbeats 1000000
namespace Go.Proofs.Ythmllbijfgimcaa.R23
open Go.RowKit CptM Pairs

theorem to_any (A : Option Addr) (l : List I2) (c k : Nat) (w : World) (hA : PairsAt w A l) (hap : Apart l) (hk : k ≤ l.length) (_h1 : l.length ≤ c) (_h2 : c ≤ maxLen) :
    Calls Try.prog 11 #[.slice A l.length c, .int .i64 (k : Nat)] w fun e w' => e = .returned (.int .i64 (to l k)) ∧ w' = w := by
  have HA := Lib.hid hA
  have HAP := Lib.hid hap
  unfold maxLen at _h2
  obtain ⟨N, hN⟩ : ∃ N, N = l.length := ⟨_, rfl⟩
  have HN := Lib.hid hN
  rw [← hN] at hk _h1 ⊢
  clear hA hap hN
  go_enter Try.func11, Try.ntmps11
  go_wp2
  go_loopw [5, 6] (fun v i wr => ∃ (j : Nat) (x : Int), i = .int .i64 j ∧ j ≤ k ∧ v = .int .i64 x ∧ wr = w ∧ Hid (x = to l j)) (fun _ i _ => k - (intOf i).toNat)
  case atStart => exact ⟨0, 0, rfl, Nat.zero_le _, rfl, rfl, Lib.hid rfl⟩
  case round =>
    obtain ⟨j, x, rfl, hj, rfl, rfl, HK⟩ := hrel
    by_cases hlt : j < k
    · have hjl : j < l.length := by have := HN.out; omega
      obtain ⟨b, o, hAe, -, e1⟩ := HA.out j hjl
      subst hAe
      have hst := to_succ l j hjl
      have hb := to_in HAP.out (j + 1) (by omega)
      rw [hst] at hb
      rw [← HK.out] at hst hb
      obtain ⟨y, hy⟩ : ∃ y, y = l[j].2 := ⟨_, rfl⟩
      rw [← hy] at hst hb e1
      have HST := Lib.hid hst.symm
      have i1 : IntKind.i64.wrap (x + y) = x + y := IntWalk.i64_in _ (by omega)
      have hjN : j < N := by omega
      clear hy hst
      go_wp2
      go_roundw
      case rel => exact ⟨j + 1, x + y, by go_num, by omega, by go_num, (by first | rfl | trivial), HST⟩
      case measure => simp [intOf] <;> omega
    · obtain rfl : j = k := by omega
      have HX := Lib.hid HK.out
      clear HK
      go_wp2
      go_ret
      exact ⟨by rw [HX.out]; rfl, rfl⟩
theorem apart_any (A : Option Addr) (l : List I2) (c : Nat) (w : World) (hA : PairsAt w A l) (hin : InL l) (h1 : l.length ≤ c) (h2 : c ≤ maxLen) :
    Calls Try.prog 6 #[.slice A l.length c] w fun e w' => e = .returned (.bool (decide (Apart l))) ∧ Below w.heap.size w w' := by
  have HC := Lib.hid (map_any A l c w hA hin h1 h2)
  have HA := Lib.hid hA
  have HI := Lib.hid hin
  unfold maxLen at h2
  obtain ⟨N, hN⟩ : ∃ N, N = l.length := ⟨_, rfl⟩
  have HN := Lib.hid hN
  rw [← hN] at HC h1 ⊢
  clear hA hin hN
  go_enter Try.func6, Try.ntmps6
  go_wp2_with fail
  refine HC.out.mono ?_
  rintro e w1 ⟨g, m, rfl, -, -, -, -, hb1⟩
  obtain ⟨b0, hb0⟩ : ∃ b0, b0 = decide (Ok l) := ⟨_, rfl⟩
  rw [← hb0]
  have HS : Hid ((b0 = true ↔ Ok l ∧ RiseTo l 1) ∧ Below w.heap.size w w1) := Lib.hid ⟨by rw [hb0, decide_eq_true_iff]; exact ⟨fun h => ⟨h, .one l⟩, fun h => h.1⟩, hb1⟩
  clear hb1 hb0 HC
  go_wp2
  go_loopw [4, 5] (fun v i wr => ∃ (k : Nat) (b : Bool), i = .int .i64 ((k + 1 : Nat) : Int) ∧ v = .bool b ∧ k + 1 ≤ max N 1 ∧ Hid ((b = true ↔ Ok l ∧ RiseTo l (k + 1)) ∧ Below w.heap.size w wr)) (fun _ i _ => N - (intOf i).toNat)
  case atStart => exact ⟨0, b0, rfl, rfl, by omega, HS⟩
  case round =>
    obtain ⟨k, b, rfl, rfl, hk, HK⟩ := hrel
    rename World => wr
    by_cases hlt : k + 1 < N
    · have hkl : k + 1 < l.length := by have := HN.out; omega
      have hAw := HA.out.below HK.out.2
      obtain ⟨B, o, hAe, c0, -⟩ := hAw k (by omega)
      subst hAe
      obtain ⟨B', o', hAe, c1, -⟩ := hAw (k + 1) hkl
      injection hAe with hAe; injection hAe with q1 q2; subst q1; subst q2
      have hsu := RiseTo.succ (l := l) (k := k + 1) (by omega) hkl
      simp only [Nat.add_sub_cancel] at hsu
      obtain ⟨x, hx⟩ : ∃ x, x = l[k].1 := ⟨_, rfl⟩
      obtain ⟨y, hy⟩ : ∃ y, y = l[k + 1].1 := ⟨_, rfl⟩
      rw [← hx] at c0 hsu
      rw [← hy] at c1 hsu
      have HN2 : Hid (∀ n, ((b && decide (x < y)) = true ↔ Ok l ∧ RiseTo l (k + 1 + 1)) ∧ Below w.heap.size w (wr.drewN n)) := Lib.hid fun n => ⟨by
        rw [Bool.and_eq_true, decide_eq_true_iff, HK.out.1, hsu, and_assoc], below_drewN HK.out.2 n⟩
      obtain ⟨kk, hkk⟩ : ∃ kk, kk = k + 1 := ⟨_, rfl⟩
      have i1 : IntKind.i64.wrap (((kk : Nat) : Int) - 1) = (k : Int) := by rw [IntWalk.i64_in _ (by omega)]; omega
      have i2 : IntKind.i64.wrap (((kk : Nat) : Int) + 1) = (kk : Int) + 1 := IntWalk.i64_in _ (by omega)
      rw [← hkk] at c1 ⊢
      have hkN : (kk : Int) < (N : Int) := by omega
      have hkN2 : (k : Int) < (N : Int) := by omega
      have HKK := Lib.hid hkk
      clear hx hy hsu HK hAw HS hkk
      rcases b with _ | _
      · go_wp2
        go_quiet (fail)
        have HN3 := Lib.hid (HN2.out nq)
        generalize wr.drewN nq = wq at *
        clear HN2
        go_wp2
        go_roundw
        case rel => exact ⟨k + 1, false, by rw [← HKK.out]; go_num, rfl, by omega, by have h := HN3.out; rw [Bool.false_and] at h; exact Lib.hid h⟩
        case measure => have := HKK.out; simp [intOf] <;> omega
      · rcases hd : decide (x < y) with _ | _
        all_goals
          rw [hd] at HN2
          go_wp2
          go_quiet (fail)
          have HN3 := Lib.hid (HN2.out nq)
          generalize wr.drewN nq = wq at *
          clear HN2
          go_wp2
          go_roundw
          case rel => exact ⟨k + 1, _, by rw [← HKK.out]; go_num, rfl, by omega, by have h := HN3.out; rw [Bool.true_and] at h; exact Lib.hid h⟩
          case measure => have := HKK.out; simp [intOf] <;> omega
    · have HF : Hid (b = decide (Apart l) ∧ Below w.heap.size w wr) := Lib.hid ⟨by
        rw [Bool.eq_iff_iff, decide_eq_true_iff, HK.out.1, apart_iff, RiseTo.all (by have := HN.out; omega)], HK.out.2⟩
      obtain ⟨kk, hkk⟩ : ∃ kk, kk = k + 1 := ⟨_, rfl⟩
      rw [← hkk] at hlt ⊢
      have hlt' : ¬ (kk : Int) < (N : Int) := by omega
      clear HK HS hkk
      go_wp2
      go_ret
      exact ⟨by rw [HF.out.1]; rfl, HF.out.2⟩
end Go.Proofs.Ythmllbijfgimcaa.R23

/- the document's own answers of layer 23: Gaps -/
set_option maxRecDepth 100000
set_option maxHeartbeats 2000000
namespace Go.Proofs.Ythmllbijfgimcaa.R23
open Go.RowKit CptM Pairs SpaceM

theorem run_info : (Try.prog.info? 32).map (fun i => (i.zero, i.size, i.bytes)) = some (some (.agg #[.int .i64 0, .int .i64 0]), 2, 16) := by kernel_rfl
theorem run_info' : ∃ i, Try.prog.info? 32 = some i ∧ i.zero = some (.agg #[.int .i64 0, .int .i64 0]) ∧ i.size = 2 ∧ i.bytes = 16 := by
  obtain ⟨i0, h, a, b, c⟩ := info_parts run_info
  exact ⟨i0, h, a, b, c⟩
theorem run_size : (Try.prog.info? 32).map (·.size) = some 2 := by kernel_rfl
theorem clip_mem {f : List Bool} {a : Nat} : ∀ r ∈ clip f a, r.1 + r.2 ≤ a := fun r hr => by
  unfold clip at hr
  rw [List.mem_map] at hr
  obtain ⟨i, hi, rfl⟩ := hr
  have h1 := List.mem_range.1 (List.mem_filter.1 hi).1
  simp only; omega
theorem clip_len (f : List Bool) (a : Nat) : (clip f a).length ≤ a := by
  unfold clip
  rw [List.length_map]
  exact Nat.le_trans (List.length_filter_le _ _) (by rw [List.length_range]; exact Nat.le_refl _)
/-- the gaps on the way -/
structure Gp (w : World) (g : Nat) (m : List Int) (f : List Bool) (v : Value) (i : Nat) (wr : World) : Prop where
  own : OwnPr wr w.heap.size 32 v ((clip f i).map nat2)
  map_ : Mp w g m wr
  ne : ∀ k, v.ownBlock = some k → k ≠ g
section
variable {w wr w' : World} {g i : Nat} {m : List Int} {f : List Bool} {v v' : Value}
theorem Gp.below (h : Gp w g m f v i wr) {W : World} (hb : Below wr.heap.size wr W) : Gp w g m f v i W := ⟨h.own.below hb, ⟨h.map_.arr.below hb, h.map_.len, h.map_.below.trans (hb.mono h.map_.below.size), h.map_.new⟩, h.ne⟩
theorem Gp.same (h : Gp w g m f v i wr) (hf : fr f i = false) : Gp w g m f v (i + 1) wr := ⟨by rw [clip_step, hf]; exact h.own, h.map_, h.ne⟩
theorem step_new {L : List (Nat × Nat)} {a : Nat} (h : ∀ r, L.getLast? = some r → r.1 + r.2 ≠ a) : gapStep L a true = L ++ [(a, 1)] := by
  unfold gapStep
  rw [if_pos rfl]
  rcases hl : L.getLast? with _ | r
  · obtain rfl : L = [] := by simpa using hl
    rfl
  · simp only
    rw [if_neg (h r hl)]
theorem step_more {L : List (Nat × Nat)} {a p q : Nat} (h : p + q = a) : gapStep (L ++ [(p, q)]) a true = L ++ [(p, q + 1)] := by
  unfold gapStep
  rw [if_pos rfl, List.getLast?_concat]
  simp only
  rw [if_pos h, List.dropLast_concat]
theorem Gp.next (h : Gp w g m f v i wr) (hf : fr f i = true) (hn : ∀ r, (clip f i).getLast? = some r → r.1 + r.2 ≠ i) {W : World} (hb : Below wr.heap.size wr W) (ha : AppdPr W w.heap.size 32 v ((clip f i).map nat2 ++ [((i : Int), (1 : Int))]) v' w') : Gp w g m f v' (i + 1) w' := by
  have hw := h.map_.below.trans (hb.mono h.map_.below.size)
  have ho := h.own.below hb
  refine ⟨by rw [clip_step, hf, step_new hn, List.map_append]; exact ha.own, ⟨(ha.grow.block g (by have := h.map_.arr.lt; have := hb.size; omega) (fun e => h.ne g e.symm rfl)).trans (h.map_.arr.below hb), h.map_.len, ha.below ho hw (Nat.le_refl _) hw.size, h.map_.new⟩, fun k e hk => ?_⟩
  rcases ha.place with q | q
  · rw [q] at e; exact h.ne k e hk
  · rw [q] at e; injection e with e
    have := h.map_.arr.lt; have := hb.size; omega
theorem Gp.more {gg d kk p q : Nat} {L : List (Nat × Nat)} (h : Gp w g m f (.slice (some ⟨gg, 0, none⟩) (kk + 1) d) i wr) (hf : fr f i = true) (hL : clip f i = L ++ [(p, q)]) (hk : L.length = kk) (hpq : p + q = i) :
    Gp w g m f (.slice (some ⟨gg, 0, none⟩) (kk + 1) d) (i + 1) (wr.setCells gg (kk * 2) [.int .i64 (p : Nat), .int .i64 ((q : Int) + 1)]) := by
  have h1 := h.own
  rw [hL] at h1
  have hkl : kk < ((L ++ [(p, q)]).map nat2).length := by simp; omega
  have h2 := h1.set2 hkl ((p : Int), (q : Int) + 1)
  have hge := (h.own.lt gg rfl).1
  have hne := h.ne gg rfl
  refine ⟨?_, ⟨((keeps_set2 wr gg _ _ _).block g h.map_.arr.lt (fun e => hne e.symm)).trans h.map_.arr, h.map_.len, below_keeps h.map_.below (keeps_set2 wr gg _ _ _) (fun k e => by rw [e]; exact hge) h.map_.below.size, h.map_.new⟩, h.ne⟩
  rw [clip_step, hf, hL, step_more hpq]
  have e : ((L ++ [(p, q)]).map nat2).set kk ((p : Int), (q : Int) + 1) = (L ++ [(p, q + 1)]).map nat2 := by
    rw [List.map_append, List.map_append, List.set_append_right _ _ (by simp; omega)]
    simp [hk, nat2]
  rw [← e]
  exact h2
end
theorem gaps_any (A : Option Addr) (l : List I2) (c s : Nat) (w : World) (hA : PairsAt w A l) (hin : InL l) (h1 : l.length ≤ c) (h2 : c ≤ maxLen) (hap : Apart l) (hs : s ≤ 256) :
    Calls Try.prog 12 #[.slice A l.length c, .int .i64 (s : Nat)] w fun e w' => ∃ v m, e = .returned v ∧ OwnPr w' w.heap.size 32 v ((runs (free m s)).map nat2) ∧ Cov m l ∧ Below w.heap.size w w' := by
  have HC := Lib.hid (map_any A l c w hA hin h1 h2)
  have HAP := Lib.hid hap
  obtain ⟨i0, hi, hz, hs1, hb1⟩ := run_info'
  have HI := Lib.hid (And.intro hi (And.intro hz (And.intro hs1 hb1)))
  clear hA hin hap hi hz hs1 hb1
  generalize l.length = N at *
  go_enter Try.func12, Try.ntmps12
  go_wp2_with fail
  refine HC.out.mono ?_
  rintro e w1 ⟨g, m, rfl, hm1, hm2, hm3, hm4, hb1⟩
  generalize decide (Ok l) = b0
  obtain ⟨f, hf⟩ : ∃ f, f = free m s := ⟨_, rfl⟩
  have HF : Hid (f = free m s ∧ Cov m l ∧ m.length = 256 ∧ f.length = s) := Lib.hid ⟨hf, hm3 HAP.out.ok, hm2, by rw [hf, free_len (by omega)]⟩
  have HS : Hid (Gp w g m f (.slice none 0 0) 0 w1) := Lib.hid ⟨OwnPr.nil _ _ _, ⟨hm1, hm2, hb1, hm4⟩, fun k e => by cases e⟩
  clear hm1 hm2 hm3 hm4 hb1 hf HC
  go_wp2
  go_loopw [5, 8] (fun v i wr => ∃ k : Nat, i = .int .i64 k ∧ k ≤ s ∧ Hid (Gp w g m f v k wr)) (fun _ i _ => s - (intOf i).toNat)
  case atStart => exact ⟨0, rfl, Nat.zero_le _, HS⟩
  case round =>
    obtain ⟨k, rfl, hk, HK⟩ := hrel
    rename World => wr
    by_cases hlt : k < s
    · have hkm : k < m.length := by have := HF.out.2.2.1; omega
      have e0 := HK.out.map_.arr.cell hkm
      have hfr : fr f k = decide (m[k] < 0) := by rw [HF.out.1]; exact free_at (by have := HF.out.2.2.1; omega) hlt
      obtain ⟨z, hz⟩ : ∃ z, z = m[k] := ⟨_, rfl⟩
      rw [← hz] at e0 hfr
      have hk256 : (k : Int) < 256 := by omega
      by_cases h0 : 0 ≤ z
      · have HN := Lib.hid (HK.out.same (by rw [hfr]; simpa using h0))
        clear hz hfr HK HS
        go_wp2
        go_roundw
        case rel => exact ⟨k + 1, by go_num, by omega, HN⟩
        case measure => simp [intOf] <;> omega
      · have hft : fr f k = true := by rw [hfr]; simpa using h0
        have HFT := Lib.hid hft
        have hLm : ∀ r ∈ clip f k, r.1 + r.2 ≤ k := clip_mem
        have hLl := clip_len f k
        have HOW := Lib.hid HK.out.own
        have HNE := Lib.hid HK.out.ne
        rcases hcl : (clip f k).getLast? with _ | ⟨p, q⟩
        · have hnil : clip f k = [] := by simpa using hcl
          have HNX := Lib.hid (fun (W : World) (v' : Value) (w' : World) (hb : Below wr.heap.size wr W) ha => HK.out.next (v' := v') (w' := w') HFT.out (by rw [hcl]; intro r e; cases e) hb ha)
          have hform := HOW.out.pairs
          rw [hnil] at hform
          obtain ⟨A0, c0, hv, -, -, -, -⟩ := hform
          simp only [List.map_nil, List.length_nil] at hv
          subst hv
          have HLN := Lib.hid hLl
          have HLT := Lib.hid (fun W => PairsAt.lit W (((k : Nat) : Int), (1 : Int)) 32)
          have HBA := Lib.hid (fun (W : World) => balloc W (.cells #[.int .i64 (k : Nat), .int .i64 1] 32))
          have HSZ := Lib.hid HK.out.map_.below.size
          clear hz hfr hft hLm hLl hcl hnil HK HS HNE
          go_wp2
          go_quiet (fail)
          generalize hgq : wr.drewN nq = wq at *
          have HBQ : Hid (Below wr.heap.size wr wq) := Lib.hid (by rw [← hgq]; exact bdraw wr nq)
          clear hgq
          have HFB := Lib.hid (bstep HBQ.out (HBA.out wq))
          have HOW2 := Lib.hid (HOW.out.below HFB.out)
          have HLL := Lib.hid (HLT.out wq)
          have HSZ2 : Hid (w.heap.size ≤ (wq.alloc (.cells #[.int .i64 (k : Nat), .int .i64 1] 32)).heap.size) := Lib.hid (Nat.le_trans HSZ.out HFB.out.size)
          have HLEN : Hid (((clip f k).map nat2).length + 1 < 1099511627776) := Lib.hid (by rw [List.length_map]; have := HLN.out; omega)
          have HNX2 := Lib.hid (fun (v' : Value) (w' : World) ha => HNX.out _ v' w' HFB.out ha)
          clear HBQ HFB HLT HBA HNX HOW HSZ
          go_wp2_with (at_builtin; refine wpList_append_pairs Try.underlying22 HI.out.1 HI.out.2.1 HI.out.2.2.1 HI.out.2.2.2 rfl rfl _ _ rfl w.heap.size (.slice A0 0 c0) _ rfl HOW2.out (some ⟨wq.heap.size, 0, none⟩) 1 1 [((k : Nat), 1)] rfl rfl HLL.out HLEN.out (by omega) HSZ2.out ?_; intro v' w2 ha; have HN := Lib.hid (HNX2.out v' w2 ha); clear ha)
          go_roundw
          case rel => exact ⟨k + 1, by go_num, by omega, HN⟩
          case measure => simp [intOf] <;> omega
        · obtain ⟨L, hL⟩ : ∃ L, clip f k = L ++ [(p, q)] := by
            have hne : clip f k ≠ [] := fun e => by rw [e] at hcl; cases hcl
            refine ⟨(clip f k).dropLast, ?_⟩
            have h1 := List.dropLast_concat_getLast hne
            rw [List.getLast?_eq_some_getLast hne] at hcl
            injection hcl with hcl
            rw [hcl] at h1; exact h1.symm
          have hpq := hLm (p, q) (by rw [hL]; simp)
          simp only at hpq
          obtain ⟨kk, hkk⟩ : ∃ kk, L.length = kk := ⟨_, rfl⟩
          have hlen2 : (clip f k).length = kk + 1 := by rw [hL]; simp [hkk]
          have hform : ∃ gg d, u5 = .slice (some ⟨gg, 0, none⟩) (kk + 1) d := by
            obtain ⟨A0, d, hv, -, -, hp, hb⟩ := HOW.out.pairs
            rw [List.length_map, hlen2] at hv
            rcases HOW.out.2 with ⟨e, hn⟩ | ⟨gg, cap, cur, e, _⟩
            · rw [List.length_map, hlen2] at hn; omega
            · rw [List.length_map, hlen2] at e
              exact ⟨gg, cap, e⟩
          obtain ⟨gg, d, hv⟩ := hform
          subst hv
          have hkl : kk < ((clip f k).map nat2).length := by rw [List.length_map]; omega
          obtain ⟨c0, c1⟩ := HOW.out.at_ hkl
          have hel : ((clip f k).map nat2)[kk] = ((p : Int), (q : Int)) := by
            simp only [hL, List.getElem_map]
            rw [List.getElem_append_right (by omega)]
            simp [hkk, nat2]
          rw [hel] at c0 c1
          simp only at c0 c1
          have i1 : IntKind.i64.wrap (((kk + 1 : Nat) : Int) - 1) = (kk : Int) := by rw [IntWalk.i64_in _ (by omega)]; omega
          have i2 : IntKind.i64.wrap ((p : Int) + (q : Int)) = ((p + q : Nat) : Int) := by rw [IntWalk.i64_in _ (by omega)]; omega
          obtain ⟨x, hx⟩ : ∃ x, x = p + q := ⟨_, rfl⟩
          rw [← hx] at i2 hpq
          have hkk0 : (0 : Int) ≤ (kk : Int) := by omega
          have hkk1 : (kk : Int) < ((kk + 1 : Nat) : Int) := by omega
          by_cases hxk : x = k
          · have HMO := Lib.hid (fun W (hb : Below wr.heap.size wr W) => (HK.out.below hb).more HFT.out hL hkk (by omega))
            have HCB := Lib.hid (And.intro c0 c1)
            have HTH := Lib.hid (fun W (hb : Below wr.heap.size wr W) => (HK.out.below hb).own.there hkl)
            have d1 : ((x : Int) == (k : Int)) = true := by rw [hxk]; simp
            have d0 : decide ((0 : Int) ≤ (kk : Int)) = true := by simp
            clear hkk0
            have i3 : IntKind.i64.wrap ((q : Int) + 1) = (q : Int) + 1 := IntWalk.i64_in _ (by omega)
            obtain ⟨kn, hkn⟩ : ∃ kn, kn = kk + 1 := ⟨_, rfl⟩
            have hk2 : kk < kn := by omega
            have hk3 : (kk : Int) < (kn : Int) := by omega
            have HKN := Lib.hid hkn
            clear hz hfr hft hLm hLl hcl hL hx hkk hlen2 hel HK HS HNE HOW hkl HFT
            rw [← hkn] at HMO hkk1 i1 ⊢
            clear hkn
            go_wp2
            go_quiet (fail)
            have HC0 := Lib.hid (show (wr.drewN nq).cell? _ = _ from c0)
            have HC1 := Lib.hid (show (wr.drewN nq).cell? _ = _ from c1)
            have HBQ := Lib.hid (bdraw wr nq)
            clear HCB c0 c1 e0
            generalize wr.drewN nq = wq at *
            go_wp2_with fail
            refine Drawn.wp_region_flowT 15 [Drawn.SP.is (.slice (some ⟨gg, 0, none⟩) kn d), Drawn.SP.is (.int .i64 (kk : Nat)), Drawn.SP.is (.slice (some ⟨gg, 0, none⟩) kn d), Drawn.SP.is (.int .i64 (kk : Nat)), Drawn.SP.is (.pointer (some ⟨gg, kk * 2, none⟩)), Drawn.SP.is (.pointer (some ⟨gg, kk * 2, none⟩)), Drawn.SP.is (.int .i64 (p : Nat)), Drawn.SP.is (.slice (some ⟨gg, 0, none⟩) kn d), Drawn.SP.is (.int .i64 (kk : Nat)), Drawn.SP.is (.pointer (some ⟨gg, kk * 2, none⟩)), Drawn.SP.is (.pointer (some ⟨gg, kk * 2 + 1, none⟩)), Drawn.SP.is (.int .i64 (q : Nat)), Drawn.SP.is (.int .i64 ((q : Int) + 1)), Drawn.SP.is (.agg #[.int .i64 (p : Nat), .int .i64 ((q : Int) + 1)]), Drawn.SP.is (.pointer (some ⟨gg, kk * 2, none⟩))] (by kernel_rfl) (by kernel_rfl) ?_ ?_
            · intro i hi a w3 hb hev hdep
              rcases (show i = 0 ∨ i = 1 ∨ i = 2 ∨ i = 3 ∨ i = 4 ∨ i = 5 ∨ i = 6 ∨ i = 7 ∨ i = 8 ∨ i = 9 ∨ i = 10 ∨ i = 11 ∨ i = 12 ∨ i = 13 ∨ i = 14 by omega) with rfl | rfl | rfl | rfl | rfl | rfl | rfl | rfl | rfl | rfl | rfl | rfl | rfl | rfl | rfl
              · have e5 : a.tmps[5]?.getD undef = .slice (some ⟨gg, 0, none⟩) kn d := hev 5 rfl
                refine Drawn.wpOp_flow 45 rfl rfl rfl ?_
                clear hev hdep hb
                go_simp
                exact ⟨_, rfl, rfl, Below.refl _ _⟩
              · have e9 : a.tmps[9]?.getD undef = .int .i64 (kk : Nat) := hev 9 rfl
                refine Drawn.wpOp_flow 46 rfl rfl rfl ?_
                clear hev hdep hb
                go_simp
                exact ⟨_, rfl, rfl, Below.refl _ _⟩
              · have e5 : a.tmps[5]?.getD undef = .slice (some ⟨gg, 0, none⟩) kn d := hev 5 rfl
                refine Drawn.wpOp_flow 47 rfl rfl rfl ?_
                clear hev hdep hb
                go_simp
                exact ⟨_, rfl, rfl, Below.refl _ _⟩
              · have e9 : a.tmps[9]?.getD undef = .int .i64 (kk : Nat) := hev 9 rfl
                refine Drawn.wpOp_flow 48 rfl rfl rfl ?_
                clear hev hdep hb
                go_simp
                exact ⟨_, rfl, rfl, Below.refl _ _⟩
              · have d2 : a.tmps[47]?.getD undef = .slice (some ⟨gg, 0, none⟩) kn d := hdep 2 rfl
                have d3 : a.tmps[48]?.getD undef = .int .i64 (kk : Nat) := hdep 3 rfl
                refine Drawn.wpOp_flow 49 rfl rfl rfl ?_
                clear hev hdep hb
                go_simp
                exact ⟨_, rfl, rfl, Below.refl _ _⟩
              · have d4 : a.tmps[49]?.getD undef = .pointer (some ⟨gg, kk * 2, none⟩) := hdep 4 rfl
                refine Drawn.wpOp_flow 50 rfl rfl rfl ?_
                clear hev hdep hb
                go_simp
                exact ⟨_, rfl, rfl, Below.refl _ _⟩
              · have d5 : a.tmps[50]?.getD undef = .pointer (some ⟨gg, kk * 2, none⟩) := hdep 5 rfl
                refine Drawn.wpOp_flow 51 rfl rfl rfl ?_
                have c0 := (hb.cell (p := ⟨gg, kk * 2, none⟩) (cell_lt HC0.out)).trans HC0.out; have c1 := (hb.cell (p := ⟨gg, kk * 2 + 1, none⟩) (cell_lt HC1.out)).trans HC1.out
                clear hev hdep hb
                go_simp
                exact ⟨_, rfl, rfl, Below.refl _ _⟩
              · have e5 : a.tmps[5]?.getD undef = .slice (some ⟨gg, 0, none⟩) kn d := hev 5 rfl
                refine Drawn.wpOp_flow 52 rfl rfl rfl ?_
                clear hev hdep hb
                go_simp
                exact ⟨_, rfl, rfl, Below.refl _ _⟩
              · have e9 : a.tmps[9]?.getD undef = .int .i64 (kk : Nat) := hev 9 rfl
                refine Drawn.wpOp_flow 53 rfl rfl rfl ?_
                clear hev hdep hb
                go_simp
                exact ⟨_, rfl, rfl, Below.refl _ _⟩
              · have d7 : a.tmps[52]?.getD undef = .slice (some ⟨gg, 0, none⟩) kn d := hdep 7 rfl
                have d8 : a.tmps[53]?.getD undef = .int .i64 (kk : Nat) := hdep 8 rfl
                refine Drawn.wpOp_flow 54 rfl rfl rfl ?_
                clear hev hdep hb
                go_simp
                exact ⟨_, rfl, rfl, Below.refl _ _⟩
              · have d9 : a.tmps[54]?.getD undef = .pointer (some ⟨gg, kk * 2, none⟩) := hdep 9 rfl
                refine Drawn.wpOp_flow 55 rfl rfl rfl ?_
                clear hev hdep hb
                go_simp
                exact ⟨_, rfl, rfl, Below.refl _ _⟩
              · have d10 : a.tmps[55]?.getD undef = .pointer (some ⟨gg, kk * 2 + 1, none⟩) := hdep 10 rfl
                refine Drawn.wpOp_flow 56 rfl rfl rfl ?_
                have c0 := (hb.cell (p := ⟨gg, kk * 2, none⟩) (cell_lt HC0.out)).trans HC0.out; have c1 := (hb.cell (p := ⟨gg, kk * 2 + 1, none⟩) (cell_lt HC1.out)).trans HC1.out
                clear hev hdep hb
                go_simp
                exact ⟨_, rfl, rfl, Below.refl _ _⟩
              · have d11 : a.tmps[56]?.getD undef = .int .i64 (q : Nat) := hdep 11 rfl
                refine Drawn.wpOp_flow 57 rfl rfl rfl ?_
                clear hev hdep hb
                go_simp
                exact ⟨_, rfl, rfl, Below.refl _ _⟩
              · have d6 : a.tmps[51]?.getD undef = .int .i64 (p : Nat) := hdep 6 rfl
                have d12 : a.tmps[57]?.getD undef = .int .i64 ((q : Int) + 1) := hdep 12 rfl
                refine Drawn.wpOp_flow 58 rfl rfl rfl ?_
                clear hev hdep hb
                go_simp
                exact ⟨_, rfl, rfl, Below.refl _ _⟩
              · have d0 : a.tmps[45]?.getD undef = .slice (some ⟨gg, 0, none⟩) kn d := hdep 0 rfl
                have d1 : a.tmps[46]?.getD undef = .int .i64 (kk : Nat) := hdep 1 rfl
                refine Drawn.wpOp_flow 59 rfl rfl rfl ?_
                clear hev hdep hb
                go_simp
                exact ⟨_, rfl, rfl, Below.refl _ _⟩
            · intro xq w3 hb hxq
              have vq0 : xq 0 = .slice (some ⟨gg, 0, none⟩) kn d := hxq 0 (by omega)
              have vq1 : xq 1 = .int .i64 (kk : Nat) := hxq 1 (by omega)
              have vq2 : xq 2 = .slice (some ⟨gg, 0, none⟩) kn d := hxq 2 (by omega)
              have vq3 : xq 3 = .int .i64 (kk : Nat) := hxq 3 (by omega)
              have vq4 : xq 4 = .pointer (some ⟨gg, kk * 2, none⟩) := hxq 4 (by omega)
              have vq5 : xq 5 = .pointer (some ⟨gg, kk * 2, none⟩) := hxq 5 (by omega)
              have vq6 : xq 6 = .int .i64 (p : Nat) := hxq 6 (by omega)
              have vq7 : xq 7 = .slice (some ⟨gg, 0, none⟩) kn d := hxq 7 (by omega)
              have vq8 : xq 8 = .int .i64 (kk : Nat) := hxq 8 (by omega)
              have vq9 : xq 9 = .pointer (some ⟨gg, kk * 2, none⟩) := hxq 9 (by omega)
              have vq10 : xq 10 = .pointer (some ⟨gg, kk * 2 + 1, none⟩) := hxq 10 (by omega)
              have vq11 : xq 11 = .int .i64 (q : Nat) := hxq 11 (by omega)
              have vq12 : xq 12 = .int .i64 ((q : Int) + 1) := hxq 12 (by omega)
              have vq13 : xq 13 = .agg #[.int .i64 (p : Nat), .int .i64 ((q : Int) + 1)] := hxq 13 (by omega)
              have vq14 : xq 14 = .pointer (some ⟨gg, kk * 2, none⟩) := hxq 14 (by omega)
              show wpList _ _ _ _ (Drawn.acts _ [(59, some (xq 14)), (58, some (xq 13)), (57, some (xq 12)), (56, some (xq 11)), (55, some (xq 10)), (54, some (xq 9)), (53, some (xq 8)), (52, some (xq 7)), (51, some (xq 6)), (50, some (xq 5)), (49, some (xq 4)), (48, some (xq 3)), (47, some (xq 2)), (46, some (xq 1)), (45, some (xq 0))]) _
              rw [vq0, vq1, vq2, vq3, vq4, vq5, vq6, vq7, vq8, vq9, vq10, vq11, vq12, vq13, vq14]
              clear hxq vq0 vq1 vq2 vq3 vq4 vq5 vq6 vq7 vq8 vq9 vq10 vq11 vq12 vq13 vq14
              clear xq
              simp only [Drawn.acts, List.drop_succ_cons, List.drop_zero]
              go_simp

              have hbb := bstep HBQ.out hb
              have HTV := HTH.out w3 hbb
              have HN := Lib.hid (HMO.out w3 hbb)
              clear HMO HTH hb hbb HBQ HC0 HC1
              refine wpList_store_mid rfl 32 _ _ rfl gg (kk * 2) #[.int .i64 (p : Nat), .int .i64 ((q : Int) + 1)] rfl rfl HTV run_size (by simp [Value.oneCell']) ?_
              clear HTV
              go_wp2
              go_roundw
              case rel => exact ⟨k + 1, by go_num, by omega, by first | exact HN | (have h := HN.out; rw [HKN.out]; exact Lib.hid h)⟩
              case measure => simp [intOf] <;> omega
          · have HNX := Lib.hid (fun (W : World) (v' : Value) (w' : World) (hb : Below wr.heap.size wr W) ha => HK.out.next (v' := v') (w' := w') HFT.out (by rw [hcl]; intro r e; injection e with e; subst e; simp only; omega) hb ha)
            have HLN := Lib.hid hLl
            have HLT := Lib.hid (fun W => PairsAt.lit W (((k : Nat) : Int), (1 : Int)) 32)
            have HBA := Lib.hid (fun (W : World) => balloc W (.cells #[.int .i64 (k : Nat), .int .i64 1] 32))
            have HSZ := Lib.hid HK.out.map_.below.size
            have d1 : ((x : Int) == (k : Int)) = false := by simp; omega
            have d0 : decide ((0 : Int) ≤ (kk : Int)) = true := by simp
            obtain ⟨kn, hkn⟩ : ∃ kn, kn = kk + 1 := ⟨_, rfl⟩
            have hk2 : kk < kn := by omega
            have hk3 : (kk : Int) < (kn : Int) := by omega
            rw [← hkn] at HOW HNX hkk1 i1 ⊢
            clear hkk0 hz hfr hft hLm hLl hcl hL hx hkk hlen2 hel HK HS HNE hkl HFT hkn
            go_wp2
            go_quiet (fail)
            generalize hgq : wr.drewN nq = wq at *
            have HBQ : Hid (Below wr.heap.size wr wq) := Lib.hid (by rw [← hgq]; exact bdraw wr nq)
            clear hgq
            have HFB := Lib.hid (bstep HBQ.out (HBA.out wq))
            have HOW2 := Lib.hid (HOW.out.below HFB.out)
            have HLL := Lib.hid (HLT.out wq)
            have HSZ2 : Hid (w.heap.size ≤ (wq.alloc (.cells #[.int .i64 (k : Nat), .int .i64 1] 32)).heap.size) := Lib.hid (Nat.le_trans HSZ.out HFB.out.size)
            have HLEN : Hid (((clip f k).map nat2).length + 1 < 1099511627776) := Lib.hid (by rw [List.length_map]; have := HLN.out; omega)
            have HNX2 := Lib.hid (fun (v' : Value) (w' : World) ha => HNX.out _ v' w' HFB.out ha)
            clear HBQ HFB HLT HBA HNX HOW HSZ
            go_wp2_with (at_builtin; refine wpList_append_pairs Try.underlying22 HI.out.1 HI.out.2.1 HI.out.2.2.1 HI.out.2.2.2 rfl rfl _ _ rfl w.heap.size (.slice (some ⟨gg, 0, none⟩) kn d) _ rfl HOW2.out (some ⟨wq.heap.size, 0, none⟩) 1 1 [((k : Nat), 1)] rfl rfl HLL.out HLEN.out (by omega) HSZ2.out ?_; intro v' w2 ha; have HN := Lib.hid (HNX2.out v' w2 ha); clear ha)
            go_roundw
            case rel => exact ⟨k + 1, by go_num, by omega, HN⟩
            case measure => simp [intOf] <;> omega
    · obtain rfl : k = s := by omega
      have hfl := HF.out.2.2.2
      have HFIN : Hid (∃ m, OwnPr wr w.heap.size 32 u5 ((runs (free m k)).map nat2) ∧ Cov m l ∧ Below w.heap.size w wr) := Lib.hid ⟨m, by
        have h := HK.out.own
        rw [← HF.out.1, ← clip_runs, hfl]; exact h, HF.out.2.1, HK.out.map_.below⟩
      clear hfl HK HS
      go_wp2
      go_ret
      obtain ⟨m', q1, q2, q3⟩ := HFIN.out
      exact ⟨u5, m', rfl, q1, q2, q3⟩
end Go.Proofs.Ythmllbijfgimcaa.R23
