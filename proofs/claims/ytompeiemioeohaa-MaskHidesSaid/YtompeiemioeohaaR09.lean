/- the document's own answers of layer 9 -/
import Derived.Test.YtompeiemioeohaaR08
import Derived.Test.YtompeiemioeohaaMB
set_option maxRecDepth 100000
namespace Go.Proofs.Ytompeiemioeohaa.R09
open Go.RowKit PlanM StripeM

set_option maxHeartbeats 2000000 in
theorem cut_any (N T L W S R : Int) (A : Option Addr) (b : List UInt8) (c : Nat) (w : World) (hL : 1 ≤ L ∧ L ≤ 256) (h : BytesAt w A b) (_hc : b.length ≤ c) (_hc2 : c ≤ maxLen) (hb : b.length ≤ 240) :
    Calls Try.prog 28 #[.agg #[.int .i64 N, .int .i64 T, .int .i64 L, .int .i64 W, .int .i64 S, .int .i64 R], .slice A b.length c] w (RetRows w (cut ⟨N, T, L, W, S, R⟩ b)) := by
  obtain ⟨l, rfl⟩ : ∃ l : Nat, L = l := ⟨L.toNat, by omega⟩
  have HH := Lib.hid h
  clear h
  unfold maxLen at _hc2
  have K := fun W' => R08.stripes_any ⟨N, T, (l : Int), W, S, R⟩ (b.length : Int) W' (by exact hL)
  have hs := stripes_le ⟨N, T, (l : Int), W, S, R⟩ (b.length : Int) hL.1
  have hcut : cut ⟨N, T, (l : Int), W, S, R⟩ b = cutTo l b (P.stripes ⟨N, T, (l : Int), W, S, R⟩ b.length) := by unfold cut; rfl
  rw [hcut]
  unfold P.val at K
  simp only at K
  generalize P.stripes ⟨N, T, (l : Int), W, S, R⟩ (b.length : Int) = n at *
  have HK := Lib.hid K
  clear K hcut
  have hbw := balloc w (.cells #[.int .i64 N, .int .i64 T, .int .i64 (l : Int), .int .i64 W, .int .i64 S, .int .i64 R] 23)
  have c0 := R08.plan_cell w N T (l : Int) W S R 0 _ rfl; have c1 := R08.plan_cell w N T (l : Int) W S R 1 _ rfl; have c2 := R08.plan_cell w N T (l : Int) W S R 2 _ rfl; have c3 := R08.plan_cell w N T (l : Int) W S R 3 _ rfl; have c4 := R08.plan_cell w N T (l : Int) W S R 4 _ rfl; have c5 := R08.plan_cell w N T (l : Int) W S R 5 _ rfl
  have hgl : w.heap.size < (w.alloc (.cells #[.int .i64 N, .int .i64 T, .int .i64 (l : Int), .int .i64 W, .int .i64 S, .int .i64 R] 23)).heap.size := by simp
  go_enter Try.func28, Try.ntmps28
  go_wp2_with fail
  generalize w.alloc (.cells #[.int .i64 N, .int .i64 T, .int .i64 (l : Int), .int .i64 W, .int .i64 S, .int .i64 R] 23) = w2 at *
  go_loopw [5, 6] (fun v i wr => ∃ k : Nat, k ≤ n ∧ i = .int .i64 k ∧ OwnM wr w2.heap.size v (cutTo l b k) ∧ Below w2.heap.size w2 wr)
    (fun _ i _ => n - (intOf i).toNat)
  case atStart => exact ⟨0, Nat.zero_le _, rfl, OwnM.nil _ _, Below.refl _ _⟩
  case round =>
    obtain ⟨k, hk, rfl, hown, hb0⟩ := hrel
    rename World => w3
    have C0 := Lib.hid c0; have C1 := Lib.hid c1; have C2 := Lib.hid c2; have C3 := Lib.hid c3; have C4 := Lib.hid c4; have C5 := Lib.hid c5
    have HO := Lib.hid hown
    clear c0 c1 c2 c3 c4 c5 hown
    have d0 := (hb0.cell (p := ⟨w.heap.size, 0, none⟩) hgl).trans C0.out; have d1 := (hb0.cell (p := ⟨w.heap.size, 1, none⟩) hgl).trans C1.out; have d2 := (hb0.cell (p := ⟨w.heap.size, 2, none⟩) hgl).trans C2.out
    have d3 := (hb0.cell (p := ⟨w.heap.size, 3, none⟩) hgl).trans C3.out; have d4 := (hb0.cell (p := ⟨w.heap.size, 4, none⟩) hgl).trans C4.out; have d5 := (hb0.cell (p := ⟨w.heap.size, 5, none⟩) hgl).trans C5.out
    have hz := hb0.size
    go_wp2_with fail
    refine (HK.out _).mono ?_
    rintro e w4 ⟨rfl, hb4⟩
    clear d0 d1 d2 d3 d4 d5
    have hb4' : Below w2.heap.size w2 w4 := hb0.trans (hb4.mono hz)
    have d2 := (hb4'.cell (p := ⟨w.heap.size, 2, none⟩) hgl).trans C2.out
    by_cases hlt : k < n
    · have hs := cutTo_succ l b k
      have HS := Lib.hid hs
      clear hs
      have hmk := fun w => make_u8 l (by omega) w
      go_wp2_with fail
      clear hmk
      have hz4 := hb4.size
      have hgl4 : w.heap.size < w4.heap.size := by have := hb4'.size; omega
      have HB4 := Lib.hid (HH.out.below (hbw.trans (hb4'.mono (by omega))))
      have HOW := Lib.hid (HO.out.below hb4)
      have D2 := Lib.hid d2
      clear d2 HO
      go_loopw [8] (fun j wr => ∃ t : Nat, t ≤ l ∧ j = .int .i64 t ∧ Row wr w4.heap.size (fillTo l b k t) ∧ Below w4.heap.size w4 wr)
        (fun j _ => l - (intOf j).toNat)
      case atStart => exact ⟨0, Nat.zero_le _, rfl, by rw [fillTo_zero]; exact Row.new _ _, balloc _ _⟩
      case round =>
        obtain ⟨t, ht, rfl, hrow, hb5⟩ := hrel
        rename World => w5
        have d2 := (hb5.cell (p := ⟨w.heap.size, 2, none⟩) hgl4).trans D2.out
        have HR := Lib.hid hrow
        clear hrow
        by_cases hlt2 : t < l
        · obtain ⟨x, hx⟩ : ∃ x, x = k * l := ⟨_, rfl⟩
          have hx2 : x ≤ 240 * 256 := by rw [hx]; exact Nat.mul_le_mul (by omega) (by omega)
          have i1 : IntKind.i64.wrap ((k : Int) * (l : Int)) = (x : Int) := by rw [← Int.natCast_mul, ← hx]; exact IntWalk.i64_in _ (by omega)
          have i2 : ((k : Int) * (l : Int)) = (x : Int) := by rw [← Int.natCast_mul, ← hx]
          obtain ⟨y, hy⟩ : ∃ y, y = x + t := ⟨_, rfl⟩
          have i3 : IntKind.i64.wrap ((x : Int) + t) = (y : Int) := by rw [show (x : Int) + t = (y : Int) from by omega]; exact IntWalk.i64_in _ (by omega)
          have i4 : ((x : Int) + t) = (y : Int) := by omega
          have hpl := fillTo_len l b k t
          have r1 := HR.out.cell t (by rw [hpl]; exact hlt2)
          have r2 := HR.out.frozen t
          have hps := fillTo_succ l b k t hlt2
          have hpn := fillTo_same l b k t
          rw [← hx, ← hy] at hps hpn
          by_cases hyl : y < b.length
          · obtain ⟨bb, bo, rfl, f1⟩ := HB4.out.below hb5 y hyl
            rw [PolyM.co_get b y hyl] at hps
            have HPS := Lib.hid hps
            generalize b[y] = u at *
            generalize (fillTo l b k t)[t]'(by rw [hpl]; exact hlt2) = u0 at *
            clear hps hpn hx hy hpl
            go_wp2
            go_roundw
            case rel => exact ⟨t + 1, by omega, by go_num, by rw [HPS.out]; exact HR.out.set t u, hb5.setCell (Nat.le_refl _) _⟩
            case measure => simp [intOf] <;> omega
          · have HPN := Lib.hid (hpn (by omega))
            generalize (fillTo l b k t)[t]'(by rw [hpl]; exact hlt2) = u0 at *
            clear hps hpn hx hy hpl
            go_wp2
            go_roundw
            case rel => exact ⟨t + 1, by omega, by go_num, by rw [HPN.out]; exact HR.out, hb5⟩
            case measure => simp [intOf] <;> omega
        · obtain rfl : l = t := by omega
          have hfa := fillTo_all l b k
          have rl := row_len l b k
          have rb := HR.out.bytes
          rw [hfa] at rb
          have RB := Lib.hid rb; have RL := Lib.hid rl
          have hol := HOW.out.ownlt
          have HOL := Lib.hid hol
          have hcl := cutTo_len l b k
          have hb5' : Below w2.heap.size w2 w5 := hb4'.trans (hb5.mono (by omega))
          have hz5 := hb5'.size
          have HCL := Lib.hid hcl
          clear hfa rl rb hol hcl
          go_wp2_with (at_builtin; refine wpList_append_row rfl _ _ rfl w2.heap.size _ _ rfl ((HOW.out.below hb5).alloc _) w5.heap.size 1 (row l b k) (some ⟨w4.heap.size, 0, none⟩) l rfl (by rw [RL.out]; simp) (by rw [RL.out]; exact Nat.le_refl _) (by unfold maxLen; omega) (RB.out.alloc _) (fun _ a e e' => by have h1 := (HOL.out _ e').2; injection e with e; subst e; simp at h1) (by rw [HCL.out]; omega) (by simp; omega) ?_; intro v' w7 hown1 hb7)
          go_roundw
          case rel => exact ⟨k + 1, by omega, by go_num, by rw [HS.out]; exact hown1, (hb5'.alloc hz5 _).trans hb7⟩
          case measure => simp [intOf] <;> omega
    · obtain rfl : k = n := by omega
      clear d2
      go_wp2
      go_ret
      have h3 := (HO.out.below hb4).rows
      obtain ⟨X, d, rfl, h1, h2, hX, hnx⟩ := h3
      exact ⟨X, d, rfl, h1, h2, hX, hbw.trans (hb4'.mono (by have := hbw.size; omega)), fun a e => by have := hnx a e; have := hbw.size; omega⟩
end Go.Proofs.Ytompeiemioeohaa.R09
