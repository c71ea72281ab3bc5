/- the document's own answers of layer 10 -/
import Derived.Test.YtchcgiapjhmflaaLaw08
import Derived.Test.YtchcgiapjhmflaaR09
import Derived.Test.YtchcgiapjhmflaaR03
import Derived.Test.YtchcgiapjhmflaaMB
set_option maxRecDepth 100000
namespace Go.Proofs.Ytchcgiapjhmflaa.R10
open Go.RowKit PlanM StripeM DealM Law08

theorem step_append_row {ops : Array Oper} {o : Oper} {a : Act} {w : World} {K : Act → World → Prop} {Q : Exit → Act → World → Prop} {E : Prop} (hgd : o.guard = none) (s x : Operand)
    (ho : o.op = .call { callee := .builtin .append, args := #[s, x], argTypes := #[28, 28] })
    (base : Nat) (v : Value) (m : List (List UInt8)) (hs : a.eval s = v) (hown : OwnM w base v m) (g c : Nat) (r : List UInt8) (A : Option Addr) (cr : Nat) (hx : a.eval x = .slice (some ⟨g, 0, none⟩) 1 c)
    (hc : w.cell? ⟨g, 0, none⟩ = some (.slice A r.length cr)) (h1 : r.length ≤ cr) (h2 : cr ≤ maxLen) (hr : BytesAt w A r) (hne : 0 < r.length → ∀ a, A = some a → v.ownBlock ≠ some a.block)
    (hl : m.length < 1099511627776) (hbase : base ≤ w.heap.size)
    (h : ∀ v' w', OwnM w' base v' (m ++ [r]) → Below base w w' → K (a.put o.dst v') w') : if Region.wanted o (yielded ops a.tmps) = true then Oper.wp Try.prog o a w K Q else E := by
  have hw : Region.wanted o (yielded ops a.tmps) = true := by simp [Region.wanted, hgd]
  rw [if_pos hw]
  exact wp_append_row s x ho base v m hs hown g c r A cr hx hc h1 h2 hr hne hl hbase h

set_option maxHeartbeats 1000000 in
theorem share_any (A : Option Addr) (m : List (List UInt8)) (c : Nat) (i : Int) (w : World) (h : RowsAt w A m) (hm : m.length ≤ 1048576) (hr : ∀ k, (h : k < m.length) → m[k].length ≤ 1099511627) :
    Calls Try.prog 14 #[.slice A m.length c, .int .i64 i] w (RetNew w (share m i)) := by
  have HH := Lib.hid h; have HR := Lib.hid hr
  clear h hr
  go_enter Try.func14, Try.ntmps14
  go_wp2
  go_loopw [5, 6] (fun v j wr => ∃ k : Nat, k ≤ m.length ∧ j = .int .i64 k ∧ Own wr w.heap.size v (share (m.take k) i) ∧ Below w.heap.size w wr)
    (fun _ j _ => m.length - (intOf j).toNat)
  case atStart => exact ⟨0, Nat.zero_le _, rfl, Own.nil _ _, Below.refl _ _⟩
  case round =>
    obtain ⟨k, hk, rfl, hown, hb3⟩ := hrel
    rename World => w3
    have HO := Lib.hid hown
    have hz := hb3.size
    clear hown
    by_cases hlt : k < m.length
    · obtain ⟨b1, o1, B, cr, rfl, f1, g1, g2, hB⟩ := HH.out.row hlt
      have l1 : b1 < w.heap.size := cell_lt f1
      replace f1 := (hb3.cell (p := ⟨b1, o1 + k, none⟩) l1).trans f1
      have HB := Lib.hid (hB.below hb3)
      have hml := HR.out k hlt
      have hs := share_take m i k hlt
      have hlen : (share (m.take k) i).length ≤ 1048576 := by rw [share_len, List.length_take]; omega
      generalize share (m.take k) i = t at *
      generalize m[k] = r at *
      have hxi : PolyM.ev r (point i) = PolyM.ev r (point i) := rfl
      obtain ⟨x, hx⟩ : ∃ x, x = point i := ⟨_, rfl⟩
      rw [← hx] at hs
      have KP := Lib.hid (fun W => (show Calls Try.prog 31 #[.int .i64 i] W fun e w' => e = .returned (.int .u8 (x.toNat : Nat)) ∧ W = w' from by rw [hx]; exact R08.point_any i W))
      obtain ⟨y, hy⟩ : ∃ y, y = PolyM.ev r x := ⟨_, rfl⟩
      rw [← hy] at hs
      have KE := Lib.hid (fun W (h : BytesAt W B r) => (show Calls Try.prog 32 #[.slice B r.length cr, .int .u8 (x.toNat : Nat)] W fun e w' => e = .returned (.int .u8 (y.toNat : Nat)) ∧ W = w' from by rw [hy]; exact R02.eval_any B r cr x W h (by omega)))
      have HS := Lib.hid hs; have HLEN := Lib.hid hlen
      clear hs hx hy hB hlen hml g1 g2 hxi
      go_wp2_with fail
      go_region_held3 (fun w' => w'.cell? ⟨b1, o1 + k, none⟩ = some (.slice B r.length cr)) (first | (exact f1) | (exact (hb8.cell (p := ⟨b1, o1 + k, none⟩) l1).trans f1) | go_keep)
        ((first
         | (refine step_append_u8 rfl _ _ rfl w.heap.size _ t rfl (by first | exact HO.out.alloc _ | exact (HO.out.alloc _).drewN _) w3.heap.size 1 y rfl (by simp) (by have := HLEN.out; omega) (by simp; omega) ?_; intro v' w7 hown1 hb7; have hb8 : Below w.heap.size w3 w7 := (by first | (exact ((Below.refl _ _).alloc hz _).trans hb7) | (exact (below_drewN ((Below.refl _ _).alloc hz _) _).trans hb7)))
         | (go_simp; go_at_call 31; refine (KP.out _).mono ?_; rintro e w' ⟨rfl, rfl⟩)
         | (go_simp; go_at_call 32; refine (KE.out _ (by first | exact HB.out | exact HB.out.drewN 1)).mono ?_; rintro e w' ⟨rfl, rfl⟩)))
      all_goals
        go_wp2
        go_roundw
        case rel => exact ⟨k + 1, by omega, by go_num, by rw [HS.out]; exact hown1, hb3.trans hb8⟩
        case measure => simp [intOf] <;> omega
    · obtain rfl : k = m.length := by omega
      have ho := HO.out
      rw [List.take_length] at ho
      have HO := Lib.hid ho
      clear ho
      go_wp2
      go_ret
      exact RetNew.of_own HO.out hb3
end Go.Proofs.Ytchcgiapjhmflaa.R10
