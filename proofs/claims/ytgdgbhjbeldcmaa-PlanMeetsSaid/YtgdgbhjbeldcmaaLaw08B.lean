/- the walks of PlanPoints and PlanMeets -/
import Derived.Test.YtgdgbhjbeldcmaaLaw08
import Derived.Test.YtgdgbhjbeldcmaaOpenP
import Derived.Test.YtgdgbhjbeldcmaaR03
set_option maxRecDepth 100000
namespace Go.Proofs.Ytgdgbhjbeldcmaa.Law08
open Go.RowKit PlanM

theorem points_all (n : Nat) (h : n ≤ 256) : points (all n) = from_ 0 n := by
  induction n with
  | zero => rfl
  | succ n ih =>
    have e : points (all (n + 1)) = points (all n) ++ [point ((n : Int) + 1)] := by unfold points; rw [all_succ, List.map_append]; rfl
    rw [e, ih (by omega), from_succ, Nat.zero_add]
    have e2 : point ((n : Int) + 1) = UInt8.ofNat n := by
      unfold point
      rw [if_neg (by omega)]
      congr 1; omega
    rw [e2]
theorem from_app (n k : Nat) : from_ 0 n ++ from_ n k = from_ 0 (n + k) := by
  induction k with
  | zero => rw [from_zero, List.append_nil]; rfl
  | succ k ih => rw [from_succ, ← List.append_assoc, ih, ← Nat.add_assoc, from_succ, Nat.zero_add]
theorem from_unl (n : Nat) (h : n ≤ 256) : LagrM.unl (from_ 0 n) = true := by
  rw [LagrM.unl_iff]
  unfold from_
  rw [List.nodup_iff_pairwise_ne, List.pairwise_map]
  refine List.Pairwise.imp_of_mem ?_ List.pairwise_lt_range
  intro a b ha hb hlt e
  rw [List.mem_range] at ha hb
  have := congrArg UInt8.toNat e
  rw [UInt8.toNat_ofNat_of_lt' (by simp only [UInt8.size]; omega), UInt8.toNat_ofNat_of_lt' (by simp only [UInt8.size]; omega)] at this
  omega
theorem points_unl (n k : Nat) (h : n + k ≤ 256) : LagrM.unl (points (all n) ++ from_ n k) = true := by
  rw [points_all n (by omega), from_app]; exact from_unl _ h
theorem points_no (N T L W S R : Int) (w : World) (hp : (⟨N, T, L, W, S, R⟩ : P).In) (hM : ¬ (⟨N, T, L, W, S, R⟩ : P).May) :
    Calls Try.prog 4 #[.agg #[.int .i64 N, .int .i64 T, .int .i64 L, .int .i64 W, .int .i64 S, .int .i64 R]] w fun e w' => e = .returned (.bool true) ∧ Below w.heap.size w w' := by
  have hr := P.right_no hM
  clear hM
  have HA := Lib.hid (PlanLies.new w N T L W S R)
  have hb0 := balloc w (.cells #[.int .i64 N, .int .i64 T, .int .i64 L, .int .i64 W, .int .i64 S, .int .i64 R] 23)
  obtain ⟨q, hq⟩ : ∃ q : P, q = ⟨N, T, L, W, S, R⟩ := ⟨_, rfl⟩
  rw [← hq] at hp hr
  have hv : q.val = .agg #[.int .i64 N, .int .i64 T, .int .i64 L, .int .i64 W, .int .i64 S, .int .i64 R] := by rw [hq]; rfl
  have K1 := fun W => R08.right_any q W hp
  rw [hr] at K1; rw [hv] at K1
  have H1 := Lib.hid K1
  clear K1
  go_enter Try.func4, Try.ntmps4
  go_wp2_with fail
  generalize w.alloc (.cells #[.int .i64 N, .int .i64 T, .int .i64 L, .int .i64 W, .int .i64 S, .int .i64 R] 23) = w0 at *
  refine (H1.out _).mono ?_
  rintro e w1 ⟨rfl, hb1⟩
  replace HA := Lib.hid (HA.out.below hb1)
  have c0 := HA.out.c0; have c1 := HA.out.c1; have c2 := HA.out.c2; have c3 := HA.out.c3; have c4 := HA.out.c4; have c5 := HA.out.c5
  go_wp2_with fail
  refine (alive_any _).mono ?_
  rintro e w2 ⟨rfl, hb2⟩
  clear c0 c1 c2 c3 c4 c5
  replace HA := Lib.hid (HA.out.below hb2)
  go_wp2
  go_ret
  exact ⟨rfl, bstep hb0 (bstep hb1 (hb2))⟩
theorem points_yes (n k : Nat) (T W S R : Int) (w : World) (hp : (⟨(n : Int), T, (k : Int), W, S, R⟩ : P).In) (hM : (⟨(n : Int), T, (k : Int), W, S, R⟩ : P).May) :
    Calls Try.prog 4 #[.agg #[.int .i64 (n : Int), .int .i64 T, .int .i64 (k : Int), .int .i64 W, .int .i64 S, .int .i64 R]] w fun e w' => e = .returned (.bool true) ∧ Below w.heap.size w w' := by
  have hr := P.right_yes hM
  unfold P.May at hM
  obtain ⟨m1, m2, m3, m4, m5, m6, m7, m8, m9⟩ := hM
  simp only at m1 m2 m3 m4 m5 m6 m7 m8 m9
  have HA := Lib.hid (PlanLies.new w (n : Int) T (k : Int) W S R)
  have hb0 := balloc w (.cells #[.int .i64 (n : Int), .int .i64 T, .int .i64 (k : Int), .int .i64 W, .int .i64 S, .int .i64 R] 23)
  obtain ⟨q, hq⟩ : ∃ q : P, q = ⟨(n : Int), T, (k : Int), W, S, R⟩ := ⟨_, rfl⟩
  rw [← hq] at hp hr
  have hv : q.val = .agg #[.int .i64 (n : Int), .int .i64 T, .int .i64 (k : Int), .int .i64 W, .int .i64 S, .int .i64 R] := by rw [hq]; rfl
  have K1 := fun W => R08.right_any q W hp
  have K2 := fun W => Plan.all_any q W hp
  have K3 := fun W => Plan.secrets_any q W hp
  rw [show q.secretsA = from_ (n : Int).toNat (k : Int).toNat from by unfold P.secretsA; rw [hr, hq]; rfl] at K3
  have hz0 : w.heap.size < (w.alloc (.cells #[.int .i64 (n : Int), .int .i64 T, .int .i64 (k : Int), .int .i64 W, .int .i64 S, .int .i64 R] 23)).heap.size := by simp
  rw [show q.allA = all (n : Int).toNat from by unfold P.allA; rw [hr, hq]; rfl] at K2
  rw [hr] at K1
  rw [hv] at K1 K2 K3
  rw [Int.toNat_natCast] at K2 K3
  rw [Int.toNat_natCast] at K3
  have hu := points_unl n k (by omega)
  have i1 : IntKind.i64.wrap ((n : Int) + k) = (n : Int) + k := IntWalk.i64_in _ (by omega)
  have al : (all n).length = n := all_len n
  have fl : (from_ n k).length = k := from_len n k
  have pl : (points (all n)).length = n := by rw [points_len, al]
  have ain : ∀ x ∈ all n, In64 x := by
    intro x hx
    unfold all at hx
    simp only [List.mem_map, List.mem_range] at hx
    obtain ⟨j, hj, rfl⟩ := hx
    unfold In64; omega
  generalize all n = als at *
  generalize from_ n k = sec at *
  obtain ⟨pts, hpts⟩ : ∃ l, l = points als := ⟨_, rfl⟩
  rw [← hpts] at hu pl
  have lu : (pts ++ sec).length = n + k := by rw [List.length_append, pl, fl]
  have K4 : ∀ A c W, IntsAt W A als → als.length ≤ c → c ≤ maxLen → Calls Try.prog 11 #[.slice A als.length c] W (RetOwn W pts) := fun A c W h h1 h2 => by
    rw [hpts]; exact Plan.points_any A als c W h (by rw [al]; omega) h1 h2 ain
  obtain ⟨tot, htot⟩ : ∃ l, l = pts ++ sec := ⟨_, rfl⟩
  rw [← htot] at hu lu
  have HP := Lib.hid hpts; have HU := Lib.hid hu; have HLU := Lib.hid lu; have AL := Lib.hid al; have FL := Lib.hid fl; have PL := Lib.hid pl; have AIN := Lib.hid ain; have HT := Lib.hid htot
  clear hpts hu lu al fl pl ain hv hq htot
  have H1 := Lib.hid K1
  have H2 := Lib.hid K2
  have H3 := Lib.hid K3
  have H4 := Lib.hid K4
  clear K1 K2 K3 K4
  go_enter Try.func4, Try.ntmps4
  go_wp2_with fail
  generalize w.alloc (.cells #[.int .i64 (n : Int), .int .i64 T, .int .i64 (k : Int), .int .i64 W, .int .i64 S, .int .i64 R] 23) = w0 at *
  refine (H1.out _).mono ?_
  rintro e w1 ⟨rfl, hb1⟩
  replace HA := Lib.hid (HA.out.below hb1)
  have c0 := HA.out.c0; have c1 := HA.out.c1; have c2 := HA.out.c2; have c3 := HA.out.c3; have c4 := HA.out.c4; have c5 := HA.out.c5
  go_wp2_with fail
  go_region_held3 (fun w' => w'.cell? ⟨w.heap.size, 0, none⟩ = some (.int .i64 (n : Int)) ∧ w'.cell? ⟨w.heap.size, 1, none⟩ = some (.int .i64 T) ∧ w'.cell? ⟨w.heap.size, 2, none⟩ = some (.int .i64 (k : Int)) ∧ w'.cell? ⟨w.heap.size, 3, none⟩ = some (.int .i64 W) ∧ w'.cell? ⟨w.heap.size, 4, none⟩ = some (.int .i64 S) ∧ w'.cell? ⟨w.heap.size, 5, none⟩ = some (.int .i64 R)) (first | (exact ⟨HA.out.c0, HA.out.c1, HA.out.c2, HA.out.c3, HA.out.c4, HA.out.c5⟩) | go_keep) ((first
    | (refine step_append_bytes rfl _ _ rfl w2.heap.size v pts sec rfl HVO.out Y sec.length dY rfl rfl HY.out (by rw [PL.out, FL.out]; omega) (by have := hb3.size; have := hb4.size; omega) ?_; intro v5 w5 hown hb5; have HO := Lib.hid hown; clear hown; replace HA := Lib.hid (HA.out.keep hb5 (by have := hb1.size; have := hb2.size; omega)))
    | (go_simp; go_at_call 14; refine (H2.out _).mono ?_; rintro e w2 ⟨X, dX, rfl, hd1, hd2, hX, hb2, _⟩; have hb2 : Below w1.heap.size w1 w2 := (by first | (exact hb2) | (exact bstep (bdraw w1 _) hb2)); replace HA := Lib.hid (HA.out.below hb2); have HX := Lib.hid hX; clear hX)
    | (go_simp; go_at_call 11; refine (H4.out _ _ _ HX.out hd1 hd2).mono ?_; rintro e w3 ⟨v, rfl, hvo, hb3⟩; have hvo : Own w3 w2.heap.size v pts := hvo; have hb3 : Below w2.heap.size w2 w3 := (by first | (exact hb3) | (exact bstep (bdraw w2 _) hb3)); replace HA := Lib.hid (HA.out.below hb3); have HVO := Lib.hid hvo; clear hvo)
    | (go_simp; go_at_call 13; refine (H3.out _).mono ?_; rintro e w4 ⟨Y, dY, rfl, _, _, hY, hb4, _⟩; have hb4 : Below w3.heap.size w3 w4 := (by first | (exact hb4) | (exact bstep (bdraw w3 _) hb4)); replace HA := Lib.hid (HA.out.below hb4); replace HVO := Lib.hid (HVO.out.below hb4); have HY := Lib.hid hY; clear hY)))
  have hbw : Below w.heap.size w w5 := (bstep hb0 (bstep hb1 (bstep hb2 (bstep hb3 hb4)))).trans (hb5.mono (by have := hb0.size; have := hb1.size; have := hb2.size; omega))
  have ho := HO.out
  rw [← HT.out] at ho
  obtain ⟨A5, c5', hv5, _, _, hB⟩ := ho.bytes
  subst hv5
  have HB := Lib.hid hB
  clear hB ho
  have q1 : ((tot.length : Int) == (n : Int) + k) = true := by rw [beq_iff_eq]; have := HLU.out; omega
  have hlt5 : tot.length ≤ 1099511627776 := by have := HLU.out; omega
  clear c0 c1 c2 c3 c4 c5
  have KU := Lib.hid (fun W (h : BytesAt W A5 tot) => (show Calls Try.prog 26 #[.slice A5 tot.length c5'] W fun e w' => e = .returned (.bool true) ∧ ∃ n, w' = W.drewN n from by have C := R03.unlike_any A5 tot c5' W h hlt5; rw [HU.out] at C; exact C))
  have c0 := HA.out.c0; have c1 := HA.out.c1; have c2 := HA.out.c2; have c3 := HA.out.c3; have c4 := HA.out.c4; have c5 := HA.out.c5
  go_wp2_with fail
  refine (KU.out _ HB.out).mono ?_
  rintro e w6 ⟨rfl, hq⟩
  have hb6 := bquiet hq
  clear hq
  clear c0 c1 c2 c3 c4 c5
  replace HB := Lib.hid (HB.out.below hb6)
  replace HA := Lib.hid (HA.out.below hb6)
  have c0 := HA.out.c0; have c1 := HA.out.c1; have c2 := HA.out.c2; have c3 := HA.out.c3; have c4 := HA.out.c4; have c5 := HA.out.c5
  go_wp2_with fail
  refine (alive_any _).mono ?_
  rintro e w7 ⟨rfl, hb7⟩
  clear c0 c1 c2 c3 c4 c5
  replace HB := Lib.hid (HB.out.below hb7)
  replace HA := Lib.hid (HA.out.below hb7)
  go_wp2
  go_ret
  exact ⟨rfl, bstep hbw (bstep hb6 (hb7))⟩
theorem points_law (p : P) (w : World) (hp : p.In) :
    Calls Try.prog 4 #[p.val] w fun e w' => e = .returned (.bool true) ∧ Below w.heap.size w w' := by
  by_cases hM : p.May
  · obtain ⟨N, T, L, W, S, R⟩ := p
    have h := hM
    unfold P.May at h
    simp only at h
    obtain ⟨n, rfl⟩ : ∃ n : Nat, N = n := ⟨N.toNat, by omega⟩
    obtain ⟨k, rfl⟩ : ∃ k : Nat, L = k := ⟨L.toNat, by omega⟩
    exact points_yes n k T W S R w hp hM
  · exact points_no p.N p.T p.L p.W p.S p.R w hp hM
end Go.Proofs.Ytgdgbhjbeldcmaa.Law08
