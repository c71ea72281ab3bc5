/- the document's own answers of layer 10 -/
import Derived.Test.YtompeiemioeohaaLaw08
import Derived.Test.YtompeiemioeohaaR09
import Derived.Test.YtompeiemioeohaaR03
import Derived.Test.YtompeiemioeohaaMB
set_option maxRecDepth 100000
namespace Go.Proofs.Ytompeiemioeohaa.R10
open Go.RowKit PlanM StripeM DealM Law08

theorem step_append_row {ops : Array Oper} {o : Oper} {a : Act} {w : World} {K : Act → World → Prop} {Q : Exit → Act → World → Prop} {E : Prop} (hgd : o.guard = none) (s x : Operand)
    (ho : o.op = .call { callee := .builtin .append, args := #[s, x], argTypes := #[52, 52] })
    (base : Nat) (v : Value) (m : List (List UInt8)) (hs : a.eval s = v) (hown : OwnM w base v m) (g c : Nat) (r : List UInt8) (A : Option Addr) (cr : Nat) (hx : a.eval x = .slice (some ⟨g, 0, none⟩) 1 c)
    (hc : w.cell? ⟨g, 0, none⟩ = some (.slice A r.length cr)) (h1 : r.length ≤ cr) (h2 : cr ≤ maxLen) (hr : BytesAt w A r) (hne : 0 < r.length → ∀ a, A = some a → v.ownBlock ≠ some a.block)
    (hl : m.length < 1099511627776) (hbase : base ≤ w.heap.size)
    (h : ∀ v' w', OwnM w' base v' (m ++ [r]) → Below base w w' → K (a.put o.dst v') w') : if Region.wanted o (yielded ops a.tmps) = true then Oper.wp Try.prog o a w K Q else E := by
  have hw : Region.wanted o (yielded ops a.tmps) = true := by simp [Region.wanted, hgd]
  rw [if_pos hw]
  exact wp_append_row s x ho base v m hs hown g c r A cr hx hc h1 h2 hr hne hl hbase h

theorem cost_any (N T L W S R size : Int) (w : World) (hL : 1 ≤ L ∧ L ≤ 256) (hT : 0 ≤ T ∧ T ≤ 256) :
    Calls Try.prog 27 #[.agg #[.int .i64 N, .int .i64 T, .int .i64 L, .int .i64 W, .int .i64 S, .int .i64 R], .int .i64 size] w fun e w' => e = .returned (.int .i64 (cost ⟨N, T, L, W, S, R⟩ size)) ∧ Below w.heap.size w w' := by
  have HA := Lib.hid (PlanLies.new w N T L W S R)
  have hb0 := balloc w (.cells #[.int .i64 N, .int .i64 T, .int .i64 L, .int .i64 W, .int .i64 S, .int .i64 R] 23)
  have K1 := fun w => R08.stripes_any ⟨N, T, L, W, S, R⟩ size w hL
  have hs := stripes_le ⟨N, T, L, W, S, R⟩ size hL.1
  have hc : cost ⟨N, T, L, W, S, R⟩ size = T * (P.stripes ⟨N, T, L, W, S, R⟩ size : Nat) := rfl
  rw [hc]
  simp only [P.val] at K1
  generalize P.stripes ⟨N, T, L, W, S, R⟩ size = n at *
  have h0 : 0 ≤ T * (n : Int) := Int.mul_nonneg hT.1 (by omega)
  have h1 : T * (n : Int) ≤ 256 * 240 := Int.mul_le_mul hT.2 (by omega) (by omega) (by omega)
  have i1 : IntKind.i64.wrap (T * (n : Int)) = T * (n : Int) := IntWalk.i64_in _ (by omega)
  have H1 := Lib.hid K1
  clear K1 hc
  go_enter Try.func27, Try.ntmps27
  go_wp2_with fail
  generalize w.alloc (.cells #[.int .i64 N, .int .i64 T, .int .i64 L, .int .i64 W, .int .i64 S, .int .i64 R] 23) = w0 at *
  have c0 := HA.out.c0; have c1 := HA.out.c1; have c2 := HA.out.c2; have c3 := HA.out.c3; have c4 := HA.out.c4; have c5 := HA.out.c5
  skip
  go_region_held3 (fun w' => w'.cell? ⟨w.heap.size, 0, none⟩ = some (.int .i64 N) ∧ w'.cell? ⟨w.heap.size, 1, none⟩ = some (.int .i64 T) ∧ w'.cell? ⟨w.heap.size, 2, none⟩ = some (.int .i64 L) ∧ w'.cell? ⟨w.heap.size, 3, none⟩ = some (.int .i64 W) ∧ w'.cell? ⟨w.heap.size, 4, none⟩ = some (.int .i64 S) ∧ w'.cell? ⟨w.heap.size, 5, none⟩ = some (.int .i64 R)) (first | (exact ⟨HA.out.c0, HA.out.c1, HA.out.c2, HA.out.c3, HA.out.c4, HA.out.c5⟩) | go_keep) ((first
    | (go_simp; go_at_call 59; refine (H1.out _).mono ?_; rintro e w1 ⟨rfl, hb1⟩; have hb1 : Below w0.heap.size w0 w1 := (by first | (exact hb1) | (exact bstep (bdraw w0 _) hb1)); replace HA := Lib.hid (HA.out.below hb1))))
  clear c0 c1 c2 c3 c4 c5
  all_goals
    go_wp2
    go_ret
    exact ⟨rfl, bstep hb0 (hb1)⟩
theorem xor_any (A1 A2 : Option Addr) (a b : List UInt8) (c1 c2 : Nat) (w : World) (h1 : BytesAt w A1 a) (h2 : BytesAt w A2 b) (hl : a.length ≤ 1099511627) (hl2 : b.length ≤ 1099511627) :
    Calls Try.prog 29 #[.slice A1 a.length c1, .slice A2 b.length c2] w (RetNew w (xorL a b)) := by
  have H1 := Lib.hid h1; have H2 := Lib.hid h2
  clear h1 h2
  go_enter Try.func29, Try.ntmps29
  go_wp2
  go_loopw [5, 6] (fun v j wr => ∃ k : Nat, k ≤ a.length ∧ j = .int .i64 k ∧ Own wr w.heap.size v (PolyM.tab k fun k => GfM.add (PolyM.co a k) (PolyM.co b k)) ∧ Below w.heap.size w wr)
    (fun _ j _ => a.length - (intOf j).toNat)
  case atStart => exact ⟨0, Nat.zero_le _, rfl, Own.nil _ _, Below.refl _ _⟩
  case round =>
    obtain ⟨k, hk, rfl, hown, hb3⟩ := hrel
    rename World => w3
    have HO := Lib.hid hown
    have hz := hb3.size
    clear hown
    by_cases hlt : k < a.length
    · obtain ⟨b1, o1, rfl, f1⟩ := H1.out k hlt
      have l1 : b1 < w.heap.size := cell_lt f1
      replace f1 := (hb3.cell (p := ⟨b1, o1 + k, none⟩) l1).trans f1
      have HB := Lib.hid (H2.out.below hb3)
      have hs : (PolyM.tab (k + 1) fun k => GfM.add (PolyM.co a k) (PolyM.co b k)) = (PolyM.tab k fun k => GfM.add (PolyM.co a k) (PolyM.co b k)) ++ [GfM.add (PolyM.co a k) (PolyM.co b k)] := PolyM.tab_succ k _
      have hlen : (PolyM.tab k fun k => GfM.add (PolyM.co a k) (PolyM.co b k)).length ≤ 1099511627 := by rw [PolyM.tab_len]; omega
      rw [PolyM.co_get a k hlt] at hs
      generalize PolyM.tab k (fun k => GfM.add (PolyM.co a k) (PolyM.co b k)) = t at *
      generalize a[k] = x at *
      obtain ⟨y, hy⟩ : ∃ y, y = PolyM.co b k := ⟨_, rfl⟩
      have KE := Lib.hid (fun W (h : BytesAt W A2 b) => (show Calls Try.prog 60 #[.slice A2 b.length c2, .int .i64 (k : Nat)] W fun e w' => e = .returned (.int .u8 (y.toNat : Nat)) ∧ W = w' from by rw [hy]; exact R02.at_any A2 b c2 k W h (by omega) (by omega)))
      rw [← hy] at hs
      have HS := Lib.hid hs; have HLEN := Lib.hid hlen
      clear hs hy hlen
      go_wp2_with fail
      go_region_held3 (fun w' => w'.cell? ⟨b1, o1 + k, none⟩ = some (.int .u8 (x.toNat : Nat))) (first | (exact f1) | (exact (hb8.cell (p := ⟨b1, o1 + k, none⟩) l1).trans f1) | go_keep)
        ((first
         | (refine step_append_u8 rfl _ _ rfl w.heap.size _ t rfl (by first | exact HO.out.alloc _ | exact (HO.out.alloc _).drewN _) w3.heap.size 1 (GfM.add x y) rfl (by simp) (by have := HLEN.out; omega) (by simp; omega) ?_; intro v' w7 hown1 hb7; have hb8 : Below w.heap.size w3 w7 := (by first | (exact ((Below.refl _ _).alloc hz _).trans hb7) | (exact (below_drewN ((Below.refl _ _).alloc hz _) _).trans hb7)))
         | (go_simp; go_at_call 60; refine (KE.out _ (by first | exact HB.out | exact HB.out.drewN 1)).mono ?_; rintro e w' ⟨rfl, rfl⟩)))
      all_goals
        go_wp2
        go_roundw
        case rel => exact ⟨k + 1, by omega, by go_num, by rw [HS.out]; exact hown1, hb3.trans hb8⟩
        case measure => simp [intOf] <;> omega
    · obtain rfl : k = a.length := by omega
      go_wp2
      go_ret
      exact RetNew.of_own HO.out hb3
end Go.Proofs.Ytompeiemioeohaa.R10
