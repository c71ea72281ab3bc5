/- the document's own answers of layer 9 -/
import Derived.Test.YtifclcdhokhaoaaR08
import Derived.Test.YtifclcdhokhaoaaStripeMath
set_option maxRecDepth 100000
namespace Go.Proofs.Ytifclcdhokhaoaa.R09
open Go.RowKit PlanM StripeM

set_option maxHeartbeats 2000000 in
theorem cut_any (N T L W S R : Int) (A : Option Addr) (b : List UInt8) (c : Nat) (w : World) (hL : 1 ≤ L ∧ L ≤ 256) (h : BytesAt w A b) (hc : b.length ≤ c) (hc2 : c ≤ maxLen) (hb : b.length ≤ 240) :
    Calls Try.prog 10 #[.agg #[.int .i64 N, .int .i64 T, .int .i64 L, .int .i64 W, .int .i64 S, .int .i64 R], .slice A b.length c] w (RetRows w (cut ⟨N, T, L, W, S, R⟩ b)) := by
  obtain ⟨l, rfl⟩ : ∃ l : Nat, L = l := ⟨L.toNat, by omega⟩
  have HH := Lib.hid h
  clear h
  unfold maxLen at hc2
  have K := fun W' => R08.stripes_any ⟨N, T, (l : Int), W, S, R⟩ (b.length : Int) W' (by exact hL)
  have hs := stripes_le ⟨N, T, (l : Int), W, S, R⟩ (b.length : Int) hL.1
  have hcut : cut ⟨N, T, (l : Int), W, S, R⟩ b = cutTo l b (P.stripes ⟨N, T, (l : Int), W, S, R⟩ b.length) := by unfold cut; rfl
  rw [hcut]
  unfold P.val at K
  simp only at K
  generalize P.stripes ⟨N, T, (l : Int), W, S, R⟩ (b.length : Int) = n at *
  have HK := Lib.hid K
  clear K hcut
  have hbw := balloc w (.cells #[.int .i64 N, .int .i64 T, .int .i64 (l : Int), .int .i64 W, .int .i64 S, .int .i64 R] 23)
  have c0 := R08.plan_cell w N T (l : Int) W S R 0 _ rfl; have c1 := R08.plan_cell w N T (l : Int) W S R 1 _ rfl; have c2 := R08.plan_cell w N T (l : Int) W S R 2 _ rfl; have c3 := R08.plan_cell w N T (l : Int) W S R 3 _ rfl; have c4 := R08.plan_cell w N T (l : Int) W S R 4 _ rfl; have c5 := R08.plan_cell w N T (l : Int) W S R 5 _ rfl
  have hgl : w.heap.size < (w.alloc (.cells #[.int .i64 N, .int .i64 T, .int .i64 (l : Int), .int .i64 W, .int .i64 S, .int .i64 R] 23)).heap.size := by simp
  go_enter Try.func10, Try.ntmps10
  go_wp2_with fail
  generalize w.alloc (.cells #[.int .i64 N, .int .i64 T, .int .i64 (l : Int), .int .i64 W, .int .i64 S, .int .i64 R] 23) = w2 at *
  go_loopw [5, 6] (fun v i wr => ∃ k : Nat, k ≤ n ∧ i = .int .i64 k ∧ OwnM wr w2.heap.size v (cutTo l b k) ∧ Below w2.heap.size w2 wr)
    (fun _ i _ => n - (intOf i).toNat)
  case atStart => exact ⟨0, Nat.zero_le _, rfl, OwnM.nil _ _, Below.refl _ _⟩
  case round =>
    obtain ⟨k, hk, rfl, hown, hb0⟩ := hrel
    rename World => w3
    have C0 := Lib.hid c0; have C1 := Lib.hid c1; have C2 := Lib.hid c2; have C3 := Lib.hid c3; have C4 := Lib.hid c4; have C5 := Lib.hid c5
    have HO := Lib.hid hown
    clear c0 c1 c2 c3 c4 c5 hown
    have d0 := (hb0.cell (p := ⟨w.heap.size, 0, none⟩) hgl).trans C0.out; have d1 := (hb0.cell (p := ⟨w.heap.size, 1, none⟩) hgl).trans C1.out; have d2 := (hb0.cell (p := ⟨w.heap.size, 2, none⟩) hgl).trans C2.out
    have d3 := (hb0.cell (p := ⟨w.heap.size, 3, none⟩) hgl).trans C3.out; have d4 := (hb0.cell (p := ⟨w.heap.size, 4, none⟩) hgl).trans C4.out; have d5 := (hb0.cell (p := ⟨w.heap.size, 5, none⟩) hgl).trans C5.out
    have hz := hb0.size
    go_wp2_with fail
    refine (HK.out _).mono ?_
    rintro e w4 ⟨rfl, hb4⟩
    clear d0 d1 d2 d3 d4 d5
    have hb4' : Below w2.heap.size w2 w4 := hb0.trans (hb4.mono hz)
    have d2 := (hb4'.cell (p := ⟨w.heap.size, 2, none⟩) hgl).trans C2.out
    by_cases hlt : k < n
    · have hs := cutTo_succ l b k
      have HS := Lib.hid hs
      clear hs
      have hmk := fun w => make_u8 l (by omega) w
      go_wp2_with fail
      clear hmk
      have hz4 := hb4.size
      have hgl4 : w.heap.size < w4.heap.size := by have := hb4'.size; omega
      have HB4 := Lib.hid (HH.out.below (hbw.trans (hb4'.mono (by omega))))
      have HOW := Lib.hid (HO.out.below hb4)
      have D2 := Lib.hid d2
      clear d2 HO
      go_loopw [8] (fun j wr => ∃ t : Nat, t ≤ l ∧ j = .int .i64 t ∧ Row wr w4.heap.size (fillTo l b k t) ∧ Below w4.heap.size w4 wr)
        (fun j _ => l - (intOf j).toNat)
      case atStart => exact ⟨0, Nat.zero_le _, rfl, by rw [fillTo_zero]; exact Row.new _ _, balloc _ _⟩
      case round =>
        obtain ⟨t, ht, rfl, hrow, hb5⟩ := hrel
        rename World => w5
        have d2 := (hb5.cell (p := ⟨w.heap.size, 2, none⟩) hgl4).trans D2.out
        have HR := Lib.hid hrow
        clear hrow
        by_cases hlt2 : t < l
        · obtain ⟨x, hx⟩ : ∃ x, x = k * l := ⟨_, rfl⟩
          have hx2 : x ≤ 240 * 256 := by rw [hx]; exact Nat.mul_le_mul (by omega) (by omega)
          have i1 : IntKind.i64.wrap ((k : Int) * (l : Int)) = (x : Int) := by rw [← Int.natCast_mul, ← hx]; exact IntWalk.i64_in _ (by omega)
          have i2 : ((k : Int) * (l : Int)) = (x : Int) := by rw [← Int.natCast_mul, ← hx]
          obtain ⟨y, hy⟩ : ∃ y, y = x + t := ⟨_, rfl⟩
          have i3 : IntKind.i64.wrap ((x : Int) + t) = (y : Int) := by rw [show (x : Int) + t = (y : Int) from by omega]; exact IntWalk.i64_in _ (by omega)
          have i4 : ((x : Int) + t) = (y : Int) := by omega
          have hpl := fillTo_len l b k t
          have r1 := HR.out.cell t (by rw [hpl]; exact hlt2)
          have r2 := HR.out.frozen t
          have hps := fillTo_succ l b k t hlt2
          have hpn := fillTo_same l b k t
          rw [← hx, ← hy] at hps hpn
          by_cases hyl : y < b.length
          · obtain ⟨bb, bo, rfl, f1⟩ := HB4.out.below hb5 y hyl
            rw [PolyM.co_get b y hyl] at hps
            have HPS := Lib.hid hps
            generalize b[y] = u at *
            generalize (fillTo l b k t)[t]'(by rw [hpl]; exact hlt2) = u0 at *
            clear hps hpn hx hy hpl
            go_wp2
            go_roundw
            case rel => exact ⟨t + 1, by omega, by go_num, by rw [HPS.out]; exact HR.out.set t u, hb5.setCell (Nat.le_refl _) _⟩
            case measure => simp [intOf] <;> omega
          · have HPN := Lib.hid (hpn (by omega))
            generalize (fillTo l b k t)[t]'(by rw [hpl]; exact hlt2) = u0 at *
            clear hps hpn hx hy hpl
            go_wp2
            go_roundw
            case rel => exact ⟨t + 1, by omega, by go_num, by rw [HPN.out]; exact HR.out, hb5⟩
            case measure => simp [intOf] <;> omega
        · obtain rfl : l = t := by omega
          have hfa := fillTo_all l b k
          have rl := row_len l b k
          have rb := HR.out.bytes
          rw [hfa] at rb
          have RB := Lib.hid rb; have RL := Lib.hid rl
          have hol := HOW.out.ownlt
          have HOL := Lib.hid hol
          have hcl := cutTo_len l b k
          have hb5' : Below w2.heap.size w2 w5 := hb4'.trans (hb5.mono (by omega))
          have hz5 := hb5'.size
          have HCL := Lib.hid hcl
          clear hfa rl rb hol hcl
          go_wp2_with (at_builtin; refine wpList_append_row rfl _ _ rfl w2.heap.size _ _ rfl ((HOW.out.below hb5).alloc _) w5.heap.size 1 (row l b k) (some ⟨w4.heap.size, 0, none⟩) l rfl (by rw [RL.out]; simp) (by rw [RL.out]; exact Nat.le_refl _) (by unfold maxLen; omega) (RB.out.alloc _) (fun _ a e e' => by have h1 := (HOL.out _ e').2; injection e with e; subst e; simp at h1) (by rw [HCL.out]; omega) (by simp; omega) ?_; intro v' w7 hown1 hb7)
          go_roundw
          case rel => exact ⟨k + 1, by omega, by go_num, by rw [HS.out]; exact hown1, (hb5'.alloc hz5 _).trans hb7⟩
          case measure => simp [intOf] <;> omega
    · obtain rfl : k = n := by omega
      clear d2
      go_wp2
      go_ret
      have h3 := (HO.out.below hb4).rows
      obtain ⟨X, d, rfl, h1, h2, hX, hnx⟩ := h3
      exact ⟨X, d, rfl, h1, h2, hX, hbw.trans (hb4'.mono (by have := hbw.size; omega)), fun a e => by have := hnx a e; have := hbw.size; omega⟩
set_option maxHeartbeats 2000000 in
theorem fits_any (N T L W S R : Int) (A : Option Addr) (m : List (List UInt8)) (c : Nat) (size : Int) (w : World) (hL : 1 ≤ L ∧ L ≤ 256) (h : RowsAt w A m) (hm : m.length ≤ 1048576) :
    Calls Try.prog 12 #[.agg #[.int .i64 N, .int .i64 T, .int .i64 L, .int .i64 W, .int .i64 S, .int .i64 R], .slice A m.length c, .int .i64 size] w
      fun e w' => e = .returned (.bool (fits ⟨N, T, L, W, S, R⟩ m size)) ∧ Below w.heap.size w w' := by
  obtain ⟨l, rfl⟩ : ∃ l : Nat, L = l := ⟨L.toNat, by omega⟩
  have HH := Lib.hid h
  clear h
  have K := fun W' => R08.stripes_any ⟨N, T, (l : Int), W, S, R⟩ size W' (by exact hL)
  have hs := stripes_le ⟨N, T, (l : Int), W, S, R⟩ size hL.1
  unfold P.val at K
  simp only at K
  have g1 := @fits_no_len ⟨N, T, (l : Int), W, S, R⟩ m size
  have g2 := fun i (hi : i < m.length) (h : m[i].length ≠ l) => @fits_no_row ⟨N, T, (l : Int), W, S, R⟩ m size i hi h
  have g3 := fun h (h2 : ∀ i, (hi : i < m.length) → m[i].length = l) => @fits_yes ⟨N, T, (l : Int), W, S, R⟩ m size h h2
  generalize fits ⟨N, T, (l : Int), W, S, R⟩ m size = ok at *
  generalize P.stripes ⟨N, T, (l : Int), W, S, R⟩ size = n at *
  have HK := Lib.hid K; have G1 := Lib.hid g1; have G2 := Lib.hid g2; have G3 := Lib.hid g3
  clear K g1 g2 g3
  have hbw := balloc w (.cells #[.int .i64 N, .int .i64 T, .int .i64 (l : Int), .int .i64 W, .int .i64 S, .int .i64 R] 23)
  have c0 := R08.plan_cell w N T (l : Int) W S R 0 _ rfl; have c1 := R08.plan_cell w N T (l : Int) W S R 1 _ rfl; have c2 := R08.plan_cell w N T (l : Int) W S R 2 _ rfl; have c3 := R08.plan_cell w N T (l : Int) W S R 3 _ rfl; have c4 := R08.plan_cell w N T (l : Int) W S R 4 _ rfl; have c5 := R08.plan_cell w N T (l : Int) W S R 5 _ rfl
  have hgl : w.heap.size < (w.alloc (.cells #[.int .i64 N, .int .i64 T, .int .i64 (l : Int), .int .i64 W, .int .i64 S, .int .i64 R] 23)).heap.size := by simp
  go_enter Try.func12, Try.ntmps12
  go_wp2_with fail
  generalize w.alloc (.cells #[.int .i64 N, .int .i64 T, .int .i64 (l : Int), .int .i64 W, .int .i64 S, .int .i64 R] 23) = w2 at *
  refine (HK.out _).mono ?_
  rintro e w3 ⟨rfl, hb3⟩
  have hb3' : Below w.heap.size w w3 := hbw.trans (hb3.mono (by omega))
  have d2 := (hb3.cell (p := ⟨w.heap.size, 2, none⟩) hgl).trans c2
  clear c0 c1 c2 c3 c4 c5
  by_cases hlen : m.length = n
  · have q : ((m.length : Int) != (n : Int)) = false := by rw [hlen]; simp
    have HG3 := Lib.hid (G3.out hlen)
    have H3 := Lib.hid (HH.out.below hb3')
    clear hlen
    go_wp2_with fail
    go_loopw [7] (fun i wr => ∃ k d : Nat, k ≤ m.length ∧ i = .int .i64 k ∧ (∀ j, j < k → (hj : j < m.length) → m[j].length = l) ∧ wr = w3.drewN d)
      (fun i _ => m.length - (intOf i).toNat)
    case atStart => exact ⟨0, 0, Nat.zero_le _, rfl, fun j hj => by omega, rfl⟩
    case round =>
      obtain ⟨k, dn, hk, rfl, hall, hwr⟩ := hrel
      rename World => w4
      have HW := Lib.hid hwr; have HALL := Lib.hid hall
      have d4 : w4.cell? ⟨w.heap.size, 2, none⟩ = some (.int .i64 (l : Int)) := by rw [hwr]; exact d2
      have p4 : RowsAt w4 A m := by rw [hwr]; exact H3.out.drewN dn
      clear hwr hall d2
      by_cases hlt : k < m.length
      · obtain ⟨b, o, B, cr, rfl, f1, _, _, _⟩ := p4.row hlt
        have e1 := G2.out k hlt
        have e2 : m[k].length = l → ∀ j, j < k + 1 → (hj : j < m.length) → m[j].length = l := fun e j hj hj2 => by
          by_cases h : j < k
          · exact HALL.out j h hj2
          · obtain rfl : j = k := by omega
            exact e
        have E1 := Lib.hid e1; have E2 := Lib.hid e2
        clear e1 e2 p4
        generalize m[k].length = y at *
        by_cases hy : y = l
        · have q2 : ((y : Int) != (l : Int)) = false := by rw [hy]; simp
          have HE := Lib.hid (E2.out hy)
          clear hy
          go_wp2
          go_quiet (fail)
          go_wp2
          go_roundw
          case rel => exact ⟨k + 1, dn + nq, by omega, by go_num, HE.out, by rw [HW.out, World.drewN_drewN]⟩
          case measure => simp [intOf] <;> omega
        · have q2 : ((y : Int) != (l : Int)) = true := by simp; omega
          have HE := Lib.hid (E1.out hy)
          clear hy
          go_wp2
          go_quiet (fail)
          go_wp2
          go_ret
          exact ⟨ret_bool HE.out.symm, bstep hb3' (bquiet ⟨dn + nq, by rw [HW.out, World.drewN_drewN]⟩)⟩
      · have HE := Lib.hid (HG3.out fun i hi => HALL.out i (by omega) hi)
        clear p4
        go_wp2
        go_ret
        exact ⟨ret_bool HE.out.symm, bstep hb3' (bquiet ⟨dn, HW.out⟩)⟩
  · have q : ((m.length : Int) != (n : Int)) = true := by simp; omega
    have HE := Lib.hid (G1.out hlen)
    clear hlen
    go_wp2
    go_ret
    exact ⟨ret_bool HE.out.symm, hb3'⟩

set_option maxHeartbeats 2000000 in
theorem join_any (N T L W S R : Int) (A : Option Addr) (m : List (List UInt8)) (c : Nat) (size : Nat) (w : World) (hL : 1 ≤ L ∧ L ≤ 256) (h : RowsAt w A m) (hs : size ≤ 240) (hf : fits ⟨N, T, L, W, S, R⟩ m (size : Int) = true) :
    Calls Try.prog 13 #[.agg #[.int .i64 N, .int .i64 T, .int .i64 L, .int .i64 W, .int .i64 S, .int .i64 R], .slice A m.length c, .int .i64 (size : Int)] w (RetNew w (join L.toNat m size)) := by
  obtain ⟨l, rfl⟩ : ∃ l : Nat, L = l := ⟨L.toNat, by omega⟩
  rw [Int.toNat_natCast]
  have HH := Lib.hid h
  have hl := fits_len hf
  have hen := stripes_enough ⟨N, T, (l : Int), W, S, R⟩ size hL.1 hs
  rw [← hl] at hen
  replace hen : size ≤ m.length * l := hen
  have hr := fun {i} (hi : i < m.length) => (show m[i].length = l from fits_row hf hi)
  have hmle := stripes_le ⟨N, T, (l : Int), W, S, R⟩ (size : Int) hL.1
  rw [← hl] at hmle
  have HEN := Lib.hid hen; have HR := Lib.hid (fun i (hi : i < m.length) => hr hi)
  clear h hl hen hr hf
  have hbw := balloc w (.cells #[.int .i64 N, .int .i64 T, .int .i64 (l : Int), .int .i64 W, .int .i64 S, .int .i64 R] 23)
  have c2 := R08.plan_cell w N T (l : Int) W S R 2 _ rfl
  have hgl : w.heap.size < (w.alloc (.cells #[.int .i64 N, .int .i64 T, .int .i64 (l : Int), .int .i64 W, .int .i64 S, .int .i64 R] 23)).heap.size := by simp
  go_enter Try.func13, Try.ntmps13
  go_wp2_with fail
  generalize w.alloc (.cells #[.int .i64 N, .int .i64 T, .int .i64 (l : Int), .int .i64 W, .int .i64 S, .int .i64 R] 23) = w2 at *
  have H2 := Lib.hid (HH.out.below hbw); have C2 := Lib.hid c2
  clear c2
  go_loopw [7, 8] (fun v i wr => ∃ k : Nat, k ≤ size ∧ i = .int .i64 k ∧ Own wr w2.heap.size v (PolyM.tab k (byteAt l m)) ∧ Below w2.heap.size w2 wr)
    (fun _ i _ => size - (intOf i).toNat)
  case atStart => exact ⟨0, Nat.zero_le _, rfl, Own.nil _ _, Below.refl _ _⟩
  case round =>
    obtain ⟨k, hk, rfl, hown, hb3⟩ := hrel
    rename World => w3
    have HO := Lib.hid hown
    have hz := hb3.size
    clear hown
    by_cases hlt : k < size
    · obtain ⟨d, hd⟩ : ∃ d, d = k / l := ⟨_, rfl⟩
      obtain ⟨r, hr⟩ : ∃ r, r = k % l := ⟨_, rfl⟩
      have hrl : r < l := by rw [hr]; exact Nat.mod_lt _ (by omega)
      have hdm : d < m.length := by rw [hd, Nat.div_lt_iff_lt_mul (by omega)]; have := HEN.out; omega
      have hdk : d ≤ k := by rw [hd]; exact Nat.div_le_self _ _
      have i1 : ((k : Int)).tdiv (l : Int) = (d : Int) := by rw [hd]; rfl
      have i2 : ((k : Int)).tmod (l : Int) = (r : Int) := by rw [hr]; rfl
      have i3 : IntKind.i64.wrap (d : Int) = (d : Int) := IntWalk.i64_in _ (by omega)
      have i5 : ((l : Int) == 0) = false := by rw [beq_eq_false_iff_ne]; omega
      have i6 : ¬ ((l : Int) = 0) := by omega
      have i7 : ¬ (l = 0) := by omega
      obtain ⟨b1, o1, B, cr, rfl, f1, h1, h2, hB⟩ := H2.out.row hdm
      have hml := HR.out d hdm
      have hby : byteAt l m k = PolyM.co m[d] r := by unfold byteAt; rw [← hd, ← hr, ← List.getElem_eq_getD (h := hdm)]
      obtain ⟨b2, o2, rfl, f2⟩ := hB r (by rw [hml]; exact hrl)
      rw [hml] at f1
      have l1 : b1 < w2.heap.size := cell_lt f1
      have l2 : b2 < w2.heap.size := cell_lt f2
      replace f1 := (hb3.cell (p := ⟨b1, o1 + d, none⟩) l1).trans f1
      replace f2 := (hb3.cell (p := ⟨b2, o2 + r, none⟩) l2).trans f2
      rw [PolyM.co_get _ r (by rw [hml]; exact hrl)] at hby
      have hs := PolyM.tab_succ k (byteAt l m)
      rw [hby] at hs
      generalize m[d][r]'(by rw [hml]; exact hrl) = u at *
      have HS := Lib.hid hs
      have hlen := PolyM.tab_len k (byteAt l m)
      have HLEN := Lib.hid hlen
      have d2 := (hb3.cell (p := ⟨w.heap.size, 2, none⟩) hgl).trans C2.out
      clear hs hby hB hlen hml hd hr h1 h2
      generalize PolyM.tab k (byteAt l m) = t at *
      go_wp2_with fail
      go_region_held3 (fun w' => w'.cell? ⟨w.heap.size, 2, none⟩ = some (.int .i64 (l : Int)) ∧ w'.cell? ⟨b1, o1 + d, none⟩ = some (.slice (some ⟨b2, o2, none⟩) l cr) ∧ w'.cell? ⟨b2, o2 + r, none⟩ = some (.int .u8 (u.toNat : Nat))) (first | (exact ⟨d2, f1, f2⟩) | (exact ⟨(hb8.cell (p := ⟨w.heap.size, 2, none⟩) hgl).trans d2, (hb8.cell (p := ⟨b1, o1 + d, none⟩) l1).trans f1, (hb8.cell (p := ⟨b2, o2 + r, none⟩) l2).trans f2⟩) | go_keep)
        ((first | (refine step_append_u8 rfl _ _ rfl w2.heap.size _ t rfl (by first | exact HO.out.alloc _ | exact (HO.out.alloc _).drewN _) w3.heap.size 1 u rfl (by simp) (by rw [HLEN.out]; omega) (by simp; omega) ?_; intro v' w7 hown1 hb7; have hb8 : Below w2.heap.size w3 w7 := (by first | (exact ((Below.refl _ _).alloc hz _).trans hb7) | (exact (below_drewN ((Below.refl _ _).alloc hz _) _).trans hb7)))))
      all_goals
        go_wp2
        go_roundw
        case rel => exact ⟨k + 1, by omega, by go_num, by rw [HS.out]; exact hown1, hb3.trans hb8⟩
        case measure => simp [intOf] <;> omega
    · obtain rfl : k = size := by omega
      go_wp2
      go_ret
      have h3 := HO.out.new
      obtain ⟨X, d, rfl, h1, h2, hX, hnx⟩ := h3
      exact ⟨X, d, rfl, h1, h2, hX, hbw.trans (hb3.mono (by have := hbw.size; omega)), fun a e => by have := hnx a e; have := hbw.size; omega⟩
end Go.Proofs.Ytifclcdhokhaoaa.R09
