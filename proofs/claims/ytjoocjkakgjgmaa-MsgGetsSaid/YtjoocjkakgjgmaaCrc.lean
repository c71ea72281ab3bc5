/- the contracts of package crc -/
import Derived.Test.YtjoocjkakgjgmaaCrcA
import Derived.Laws.BitsAllLaws
import Derived.IntWalk
import Derived.Deep.QuietTactic
set_option maxRecDepth 100000
namespace Go.Proofs.Ytjoocjkakgjgmaa.Crc
open Go.RowKit

/-- what each byte does lies in block b -/
def Tab (w : World) (b : Nat) : Prop := ∀ i, i < 256 → w.cell? ⟨b, i, none⟩ = some (.int .u32 (CrcM.steps 8 i : Nat))
theorem Tab.below {w w' : World} {b : Nat} (h : Tab w b) (hb : Below w.heap.size w w') : Tab w' b := fun i hi => (hb.cell (p := ⟨b, i, none⟩) (cell_lt (h i hi))).trans (h i hi)
theorem Tab.drewN {w : World} {b : Nat} (h : Tab w b) (n : Nat) : Tab (w.drewN n) b := h

theorem after_any (y : Nat) (w : World) (hy : y < 4294967296) :
    Calls Try.prog 23 #[.int .u32 (y : Nat)] w fun e w' => e = .returned (.int .u32 (CrcM.steps 8 y : Nat)) ∧ w = w' := by
  go_enter Try.func23, Try.ntmps23
  go_wp2
  go_loop [0, 4] (fun x i => ∃ k : Nat, k ≤ 8 ∧ i = .int .i64 k ∧ x = .int .u32 (CrcM.steps k y : Nat))
    (fun _ i => 8 - (intOf i).toNat)
  case atStart => exact ⟨0, by omega, rfl, rfl⟩
  case round =>
    obtain ⟨k, hk, rfl, rfl⟩ := hrel
    have hl := CrcM.steps_lt k y hy
    by_cases hlt : k < 8
    · have hs : CrcM.steps (k + 1) y = CrcM.steps k y / 2 ^^^ (if CrcM.steps k y % 2 = 1 then CrcM.pol else 0) := CrcM.steps_succ k y
      have HS := Lib.hid hs
      clear hs
      generalize CrcM.steps k y = x at *
      have b1 : bits .and .u32 (x : Int) 1 = ((x % 2 : Nat) : Int) := by
        have := u32_and_nat x 1 hl (by omega)
        rwa [Nat.and_one_is_mod] at this
      have hx : bits .xor .u32 ((x : Int) / 2) 3988292384 = ((x / 2 ^^^ CrcM.pol : Nat) : Int) := by
        have := u32_xor_nat (x / 2) CrcM.pol (by omega) (by unfold CrcM.pol; omega)
        rw [Int.natCast_ediv] at this
        exact this
      have HX := Lib.hid hx
      by_cases hb : x % 2 = 1
      · have q : (bits .and .u32 (x : Int) 1 == 1) = true := by rw [b1, hb]; rfl
        have hf := HS.out
        rw [if_pos hb] at hf
        have HF := Lib.hid hf
        clear b1 hb hf hx
        go_wp2
        go_round
        case rel => exact ⟨k + 1, by omega, by go_num, by rw [HF.out, HX.out]⟩
        case measure => simp [intOf] <;> omega
      · have q : (bits .and .u32 (x : Int) 1 == 1) = false := by rw [b1, beq_eq_false_iff_ne]; omega
        have hf := HS.out
        rw [if_neg hb, Nat.xor_zero] at hf
        have HF := Lib.hid hf
        clear b1 hb hf hx
        go_wp2
        go_round
        case rel => exact ⟨k + 1, by omega, by go_num, by rw [HF.out]; rfl⟩
        case measure => simp [intOf] <;> omega
    · obtain rfl : k = 8 := by omega
      go_wp2
      go_ret
      exact ⟨rfl, rfl⟩
def zeros : Array Value := Array.replicate 256 (.int .u32 0)
theorem zero_table (w : World) : (zeroValue 50).run Try.prog w = .ok (.agg zeros) w := by kernel_rfl
def tabTo (k i : Nat) : Nat := if i < k then CrcM.steps 8 i else 0
structure TabTo (w : World) (b k : Nat) : Prop where
  cell : ∀ i, i < 256 → w.cell? ⟨b, i, none⟩ = some (.int .u32 (tabTo k i : Nat))
  fr : ∀ i, w.frozen? ⟨b, i, none⟩ = false
theorem TabTo.start (w : World) : TabTo (w.alloc (.cells zeros 50)) w.heap.size 0 := by
  refine ⟨fun i hi => ?_, fun i => ?_⟩
  · rw [World.cell?_alloc_new]; unfold zeros; rw [Array.getElem?_replicate, if_pos hi]; simp [tabTo]
  · simp
theorem TabTo.drew {w : World} {b k : Nat} (h : TabTo w b k) : TabTo w.drew b k := ⟨h.cell, h.fr⟩
theorem TabTo.step {w : World} {b k : Nat} (h : TabTo w b k) : TabTo (w.setCell ⟨b, k, none⟩ (.int .u32 (CrcM.steps 8 k : Nat))) b (k + 1) := by
  refine ⟨fun i hi => ?_, fun i => by simp [h.fr]⟩
  rw [cell_store (h.cell i hi)]
  unfold tabTo
  by_cases e : i = k
  · subst e; rw [if_pos rfl, if_pos (by omega)]
  · rw [if_neg e]
    have : (i < k + 1) ↔ (i < k) := by omega
    simp only [this]
theorem TabTo.done {w : World} {b : Nat} (h : TabTo w b 256) : Tab w b := fun i hi => by
  rw [h.cell i hi, tabTo, if_pos (by omega)]
set_option maxRecDepth 100000 in
theorem new_any (w : World) : Calls Try.prog 9 #[] w fun e w' => ∃ b, e = .returned (.pointer (some ⟨b, 0, none⟩)) ∧ Tab w' b ∧ Below w.heap.size w w' := by
  have hz := zero_table
  go_enter Try.func9, Try.ntmps9
  go_wp2
  clear hz
  go_loopw [5] (fun i wr => ∃ k : Nat, k ≤ 256 ∧ i = .int .i64 k ∧ TabTo wr w.heap.size k ∧ Below w.heap.size w wr)
    (fun i _ => 256 - (intOf i).toNat)
  case atStart => exact ⟨0, by omega, rfl, TabTo.start w, balloc w _⟩
  case round =>
    obtain ⟨k, hk, rfl, ht, hb⟩ := hrel
    by_cases hlt : k < 256
    · have c1 := ht.cell k hlt
      have f1 := ht.fr k
      have hst := ht.step
      have HT := Lib.hid hst
      have hwk : IntKind.u32.wrap (k : Int) = (k : Int) := by rw [IntKind.wrap_u32]; omega
      clear ht hst
      go_wp2
      go_region_with (go_at_call 23; refine (after_any _ _ (by omega)).mono ?_; rintro e w' ⟨rfl, rfl⟩)
      all_goals
        go_wp2
        go_roundw
        case rel => exact ⟨k + 1, by omega, by go_num, HT.out.drew, (hb.setCell (Nat.le_refl _) _).drew⟩
        case measure => simp [intOf] <;> omega
    · obtain rfl : k = 256 := by omega
      go_wp2
      go_ret
      exact ⟨_, rfl, ht.done, hb⟩
/-- one byte more, by the table -/
theorem feed_byte (x : Nat) (l : List UInt8) (t : Nat) (h : t < l.length) :
    CrcM.feed x (l.take (t + 1)) = CrcM.feed x (l.take t) / 256 ^^^ CrcM.steps 8 (CrcM.feed x (l.take t) % 256 ^^^ l[t].toNat) := by
  rw [List.take_succ_eq_append_getElem h, CrcM.feed_snoc]
  generalize CrcM.feed x (l.take t) = y
  have ha := l[t].toNat_lt
  generalize l[t].toNat = a at *
  have e : y ^^^ a = (y % 256 ^^^ a) ^^^ (256 * (y / 256)) := by
    have := CrcM.add_xor (y % 256) (y / 256) (Nat.mod_lt _ (by omega))
    rw [show y % 256 + 256 * (y / 256) = y from by omega] at this
    rw [Nat.xor_assoc, Nat.xor_comm a, ← Nat.xor_assoc, ← this]
  rw [e, CrcM.steps8, Nat.xor_comm]
theorem sum_any (b : Nat) (A : Option Addr) (m : List (List UInt8)) (c : Nat) (w : World) (ht : Tab w b) (h : RowsAt w A m) (hl : m.length ≤ 1048576) (hr : ∀ i, (h : i < m.length) → m[i].length ≤ 1099511627) :
    Calls Try.prog 48 #[.pointer (some ⟨b, 0, none⟩), .slice A m.length c] w fun e w' => e = .returned (.int .u32 (CrcM.sum m.flatten : Nat)) ∧ Below w.heap.size w w' := by
  have H := Lib.hid h; have HT := Lib.hid ht; have HR := Lib.hid hr
  clear h ht hr
  go_enter Try.func48, Try.ntmps48
  go_wp2
  go_loopw [5, 14] (fun x i wr => ∃ k n : Nat, k ≤ m.length ∧ i = .int .i64 k ∧ x = .int .u32 (CrcM.feed CrcM.full (m.take k).flatten : Nat) ∧ wr = w.drewN n)
    (fun _ i _ => m.length - (intOf i).toNat)
  case atStart => exact ⟨0, 0, by omega, rfl, by rw [List.take_zero, List.flatten_nil, CrcM.feed_nil]; rfl, rfl⟩
  case round =>
    obtain ⟨k, n, hk, rfl, rfl, hwr⟩ := hrel
    rename World => w0
    have HW := Lib.hid hwr
    by_cases hlt : k < m.length
    · obtain ⟨b1, o, B, d, rfl, hc, h1, h2, hB⟩ := H.out.row hlt
      have hB : BytesAt w0 B m[k] := by rw [hwr]; exact hB.drewN n
      have hc : w0.cell? ⟨b1, o + k, none⟩ = some (.slice B m[k].length d) := by rw [hwr]; exact hc
      have htk := CrcA.rows_take m k hlt
      have hlen := HR.out k hlt
      have HB := Lib.hid hB; have HK := Lib.hid htk
      clear hB htk hwr
      generalize m[k] = l at *
      obtain ⟨x, hx⟩ : ∃ x, x = CrcM.feed CrcM.full (m.take k).flatten := ⟨_, rfl⟩
      have hxl : x < 4294967296 := by rw [hx]; exact CrcM.feed_lt _ (by unfold CrcM.full; omega) _
      rw [← hx]
      have HX := Lib.hid hx
      clear hx
      go_wp2
      go_loopw [5, 20] (fun y j wr => ∃ t n : Nat, t ≤ l.length ∧ j = .int .i64 t ∧ y = .int .u32 (CrcM.feed x (l.take t) : Nat) ∧ wr = w.drewN n)
        (fun _ j _ => l.length - (intOf j).toNat)
      case atStart => exact ⟨0, n, by omega, rfl, by rw [List.take_zero, CrcM.feed_nil], HW.out⟩
      case round =>
        obtain ⟨t, n2, ht, rfl, rfl, hwr⟩ := hrel
        rename World => w1
        have HW2 := Lib.hid hwr
        by_cases hlt2 : t < l.length
        · have hB : BytesAt w1 B l := by rw [hwr]; have := HB.out; rw [HW.out] at this; exact this
          obtain ⟨b2, o2, rfl, f2⟩ := hB t hlt2
          have hfs := feed_byte x l t hlt2
          have hyl : CrcM.feed x (l.take t) < 4294967296 := CrcM.feed_lt _ hxl _
          have ha := l[t].toNat_lt
          have hT : Tab w1 b := by rw [hwr]; exact HT.out.drewN n2
          have HFS := Lib.hid hfs
          clear hB hfs hwr
          generalize CrcM.feed x (l.take t) = y at *
          generalize l[t].toNat = a at *
          have hix : y % 256 ^^^ a < 256 := Nat.xor_lt_two_pow (n := 8) (by omega) ha
          have g1 := hT _ hix
          have hi : bits .xor .u8 ((y : Int) % 256) (a : Int) = ((y % 256 ^^^ a : Nat) : Int) := by
            have := u8_xor_nat (y % 256) a (by omega) ha
            rw [← this]; rfl
          obtain ⟨i, hi2⟩ : ∃ i, i = y % 256 ^^^ a := ⟨_, rfl⟩
          rw [← hi2] at hix g1 hi HFS
          have hsl := CrcM.steps_lt 8 i (by omega)
          have hx2 : bits .xor .u32 ((y : Int) / 256) (CrcM.steps 8 i : Nat) = ((y / 256 ^^^ CrcM.steps 8 i : Nat) : Int) := by
            have := u32_xor_nat (y / 256) (CrcM.steps 8 i) (by omega) hsl
            rw [← this]; rfl
          have HX2 := Lib.hid hx2
          generalize CrcM.steps 8 i = z at *
          clear hi2 hT hx2
          go_wp2
          go_roundw
          case rel => exact ⟨t + 1, n2, by omega, by go_num, by rw [HX2.out, HFS.out], HW2.out⟩
          case measure => simp [intOf] <;> omega
        · obtain rfl : t = l.length := by omega
          clear hwr
          go_wp2
          go_roundw
          case rel => exact ⟨k + 1, n2, by omega, by go_num, by rw [HK.out, CrcM.feed_append, ← HX.out, List.take_length], HW2.out⟩
          case measure => simp [intOf] <;> omega
    · obtain rfl : k = m.length := by omega
      rw [List.take_length] at *
      clear hwr
      have hf := CrcM.feed_lt CrcM.full (by unfold CrcM.full; omega) m.flatten
      have hx : bits .xor .u32 IntKind.u32.max (CrcM.feed CrcM.full m.flatten : Int) = ((CrcM.sum m.flatten : Nat) : Int) := by
        have := u32_xor_nat CrcM.full (CrcM.feed CrcM.full m.flatten) (by unfold CrcM.full; omega) hf
        rw [Nat.xor_comm] at this
        exact this
      have HX := Lib.hid hx
      generalize CrcM.feed CrcM.full m.flatten = y at *
      clear hx
      go_wp2
      go_ret
      exact ⟨ret_int (by rw [HX.out]), bquiet ⟨n, HW.out⟩⟩
theorem sum_nil (A : Option Addr) (m : List (List UInt8)) (c : Nat) (w : World) :
    Calls Try.prog 48 #[.pointer none, .slice A m.length c] w fun e w' => e = .returned (.int .u32 0) ∧ Below w.heap.size w w' := by
  go_enter Try.func48, Try.ntmps48
  go_wp2
  go_ret
  exact ⟨rfl, Below.refl _ _⟩
theorem cells_four (x : Nat) (hx : x < 4294967296) : cells (CrcM.four x) = #[.int .u8 ((x : Int) % 256), .int .u8 ((x : Int) / 256 % 256), .int .u8 ((x : Int) / 65536 % 256), .int .u8 ((x : Int) / 16777216)] := by
  unfold cells vals CrcM.four
  have e : ∀ n, (UInt8.ofNat (n % 256)).toNat = n % 256 := fun n => UInt8.toNat_ofNat_of_lt' (by simp only [UInt8.size]; omega)
  simp only [List.map_cons, List.map_nil, e]
  have : x / 16777216 % 256 = x / 16777216 := Nat.mod_eq_of_lt (by omega)
  rw [this]
  rfl
theorem low_any (x : Nat) (w : World) (hx : x < 4294967296) : Calls Try.prog 47 #[.int .u32 (x : Nat)] w (RetNew w (CrcM.four x)) := by
  go_enter Try.func47, Try.ntmps47
  go_wp2
  go_ret
  have hc := cells_four x hx
  rw [← hc]
  exact RetNew.of_row (Row.new w (CrcM.four x)) (balloc w _) (by rw [CrcM.four_len]; unfold maxLen; omega) (Nat.le_refl _)
theorem seal_any (b : Nat) (A : Option Addr) (l : List UInt8) (c : Nat) (w : World) (ht : Tab w b) (h : BytesAt w A l) (h1 : l.length ≤ c) (h2 : c ≤ maxLen) (hl : l.length ≤ 1099511627) :
    Calls Try.prog 24 #[.pointer (some ⟨b, 0, none⟩), .slice A l.length c] w (RetNew w (CrcM.seal_ l)) := by
  have H := Lib.hid h; have HT := Lib.hid ht
  clear h ht
  go_enter Try.func24, Try.ntmps24
  go_wp2_with fail
  have r1 := RowsAt.lit1 (w := w) (c := c) H.out h1 h2
  have C := sum_any b _ _ 1 (w.alloc (.cells #[.slice A l.length c] 24)) (HT.out.below (balloc _ _)) r1 (by simp) (fun i hi => by
    match i, hi with
    | 0, _ => show l.length ≤ 1099511627; omega)
  rw [List.flatten_cons, List.flatten_nil, List.append_nil] at C
  refine C.mono ?_
  clear C r1
  rintro e w1 ⟨rfl, hb1⟩
  have hb1 : Below w.heap.size w w1 := bstep (balloc _ _) hb1
  go_wp2_with fail
  refine (low_any _ w1 (CrcM.sum_lt l)).mono ?_
  rintro e w2 ⟨S, d, rfl, hd1, hd2, hS, hb2, _⟩
  have hb2 : Below w.heap.size w w2 := bstep hb1 hb2
  have r2 := RowsAt.lit2 (w := w2) (c := c) (d := d) (H.out.below hb2) h1 h2 hS hd1 hd2
  have R2 := Lib.hid r2
  clear r2 hS
  go_wp2_with fail
  have C := CrcA.concat_any _ _ 2 _ R2.out (by simp) (by rw [List.flatten_cons, List.flatten_cons, List.flatten_nil, List.append_nil, List.length_append, CrcM.four_len]; omega)
  rw [List.flatten_cons, List.flatten_cons, List.flatten_nil, List.append_nil] at C
  refine C.mono ?_
  clear C R2
  rintro e w3 ⟨X, n, rfl, hn1, hn2, hX, hb3, hN⟩
  have hb3 : Below w.heap.size w w3 := bstep hb2 (bstep (balloc _ _) hb3)
  have HX := Lib.hid hX
  have hN : New w X := (hN.mono (by simp)).mono hb2.size
  have HN := Lib.hid hN
  clear hX hN
  have hse : l ++ CrcM.four (CrcM.sum l) = CrcM.seal_ l := rfl
  rw [hse] at HX hn1 ⊢
  clear hse
  go_wp2
  go_ret
  exact ⟨X, n, rfl, hn1, hn2, HX.out, hb3, HN.out⟩
theorem seal_nil (A : Option Addr) (l : List UInt8) (c : Nat) (w : World) (h : BytesAt w A l) (_h1 : l.length ≤ c) (_h2 : c ≤ maxLen) (hl : l.length ≤ 1099511627) :
    Calls Try.prog 24 #[.pointer none, .slice A l.length c] w (RetNew w l) := by
  go_enter Try.func24, Try.ntmps24
  go_wp2_with fail
  refine (CrcA.clone_any A l c w h hl).mono ?_
  rintro e w1 ⟨S, d, rfl, hd1, hd2, hS, hb1, hn⟩
  have HS := Lib.hid hS; have HN := Lib.hid hn
  clear h hS hn
  go_wp2
  go_ret
  exact ⟨S, d, rfl, hd1, hd2, HS.out, hb1, HN.out⟩
theorem good_same (l : List UInt8) (h : 4 ≤ l.length) : same (l.drop (l.length - 4)) (CrcM.four (CrcM.sum (l.take (l.length - 4)))) = CrcM.good l := by
  unfold same CrcM.good
  rw [decide_eq_decide]
  constructor
  · intro e
    refine ⟨h, ?_⟩
    unfold CrcM.seal_
    rw [← e, List.take_append_drop]
  · rintro ⟨_, e⟩
    unfold CrcM.seal_ at e
    have e2 := congrArg (List.drop (l.length - 4)) e
    rw [e2, List.drop_append, List.drop_of_length_le (by rw [List.length_take]; omega), List.length_take]
    rw [show l.length - 4 - min (l.length - 4) l.length = 0 from by omega]
    rfl
theorem good_any (b : Nat) (A : Option Addr) (l : List UInt8) (c : Nat) (w : World) (ht : Tab w b) (h : BytesAt w A l) (h1 : l.length ≤ c) (h2 : c ≤ maxLen) (hl : l.length ≤ 1099511627) :
    Calls Try.prog 37 #[.pointer (some ⟨b, 0, none⟩), .slice A l.length c] w fun e w' => e = .returned (.bool (CrcM.good l)) ∧ Below w.heap.size w w' := by
  have H := Lib.hid h; have HT := Lib.hid ht
  clear ht
  by_cases h4 : l.length < 4
  · have hf := CrcM.good_short l h4
    have HF := Lib.hid hf
    clear hf h
    go_enter Try.func37, Try.ntmps37
    go_wp2
    go_ret
    exact ⟨ret_bool HF.out.symm, Below.refl _ _⟩
  · obtain ⟨x, o, rfl, _⟩ := h 0 (by omega)
    unfold maxLen at h2
    have hgs := good_same l (by omega)
    have HGS := Lib.hid hgs
    obtain ⟨k, hk⟩ : ∃ k, k = l.length - 4 := ⟨_, rfl⟩
    have e1 : (l.length : Int) - 4 = (k : Int) := by omega
    have e2 : l.length = k + 4 := by omega
    have e3 : (k : Int) ≤ (l.length : Int) := by omega
    have e4 : decide ((l.length : Int) < 4) = false := by simp; omega
    have E2 := Lib.hid e2; have HK := Lib.hid hk
    clear hgs h e2 hk
    go_enter Try.func37, Try.ntmps37
    go_wp2_with fail
    go_quiet (fail)
    go_wp2_with fail
    have tl : (l.take k).length = k := by rw [List.length_take]; have := E2.out; omega
    have dl : (l.drop k).length = l.length - k := List.length_drop
    have r1 := RowsAt.lit1 (w := w.drewN nq) (l := l.take k) (c := c) ((H.out.drewN nq).take k) (by rw [tl]; have := E2.out; omega) (by unfold maxLen; omega)
    rw [tl] at r1
    have C := sum_any b _ _ 1 ((w.drewN nq).alloc (.cells #[.slice (some ⟨x, o, none⟩) k c] 24)) ((HT.out.drewN nq).below (balloc _ _)) r1 (by simp) (fun i hi => by
      match i, hi with
      | 0, _ => show (l.take k).length ≤ 1099511627; rw [tl]; omega)
    rw [List.flatten_cons, List.flatten_nil, List.append_nil] at C
    refine C.mono ?_
    clear C r1 tl
    rintro e w1 ⟨rfl, hb1⟩
    have hb1 : Below w.heap.size w w1 := bstep (bstep (bdraw w nq) (balloc _ _)) hb1
    go_wp2_with fail
    refine (low_any _ w1 (CrcM.sum_lt _)).mono ?_
    rintro e w2 ⟨S, d, rfl, hd1, hd2, hS, hb2, _⟩
    have hb2 : Below w.heap.size w w2 := bstep hb1 hb2
    have HS := Lib.hid hS
    have DL := Lib.hid dl
    clear hS dl
    go_wp2_with fail
    have C := CrcA.equal_any (some ⟨x, o + k, none⟩) S (l.drop k) (CrcM.four (CrcM.sum (l.take k))) (c - k) d w2 ((H.out.below hb2).drop k) HS.out
    rw [DL.out] at C
    have hg := HGS.out
    rw [← HK.out] at hg
    rw [hg] at C
    refine C.mono ?_
    clear C hg
    rintro e w3 ⟨rfl, rfl⟩
    go_wp2
    go_ret
    exact ⟨rfl, hb2⟩
theorem good_nil (A : Option Addr) (l : List UInt8) (c : Nat) (w : World) :
    Calls Try.prog 37 #[.pointer none, .slice A l.length c] w fun e w' => e = .returned (.bool false) ∧ Below w.heap.size w w' := by
  go_enter Try.func37, Try.ntmps37
  go_wp2
  go_ret
  exact ⟨rfl, Below.refl _ _⟩
end Go.Proofs.Ytjoocjkakgjgmaa.Crc
