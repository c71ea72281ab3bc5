/- contracts of what package crc calls of Go's library -/
import Derived.Test.YtjoocjkakgjgmaaMats
import Derived.Test.YtjoocjkakgjgmaaMMA
import Derived.Lib.AppendZeros
import Derived.Lib.SliceRun
set_option maxRecDepth 100000
namespace Go.Proofs.Ytjoocjkakgjgmaa.CrcA
open Go.RowKit

theorem rows_take (m : List (List UInt8)) (k : Nat) (h : k < m.length) : (m.take (k + 1)).flatten = (m.take k).flatten ++ m[k] := by
  rw [List.take_succ_eq_append_getElem h, List.flatten_append, List.flatten_cons, List.flatten_nil, List.append_nil]
theorem rows_le (m : List (List UInt8)) (k : Nat) : (m.take k).flatten.length ≤ m.flatten.length := by
  have : m.flatten = (m.take k).flatten ++ (m.drop k).flatten := by rw [← List.flatten_append, List.take_append_drop]
  rw [this, List.length_append]; omega
/-- room for bytes, none of them taken -/
theorem own_room (w : World) (c : Nat) (hc : c ≤ maxLen) (C : Array Value) (hC : C.size = c) : Own (w.alloc (.cells C 5)) w.heap.size (.slice (some ⟨w.heap.size, 0, none⟩) 0 c) [] :=
  ⟨rfl, .inr ⟨w.heap.size, c, C, rfl, Nat.le_refl _, heap_alloc_new w _, Nat.zero_le _, hc, by omega, by simp [vals]⟩⟩
theorem grow_nil (n : Nat) (w : World) (hn : n ≤ 1099511627776) :
    Calls Try.prog 67 #[.slice none 0 0, .int .i64 n] w fun e w' => ∃ v, e = .returned v ∧ Own w' w.heap.size v [] ∧ Below w.heap.size w w' := by
  by_cases h0 : n = 0
  · subst h0
    go_enter Try.func67, Try.ntmps67
    go_wp2
    go_ret
    exact ⟨_, rfl, Own.nil _ _, Below.refl _ _⟩
  · obtain ⟨i0, hi, hz, hs, hb⟩ := u8_info'
    have hr := Lib.run_append_nil_zeros (P := Try.prog) w 24 3 24 5 i0 _ .i64 .i64 Try.underlying24 Try.underlying3 hi hz n (by omega) (by omega) (by omega) (by rw [hb]; omega)
    have hge := grownCap_ge w n 0 5
    have hle := grownCap_le_maxLen w n 0 5 (by unfold maxLen; omega)
    generalize grownCap w n 0 5 = c at hr hge hle
    have hsz : (Builtin.zeroCells (Value.int IntKind.u8 0).cells n ++ Builtin.zeroCells (Value.int IntKind.u8 0).cells (c - n)).size = c := by
      rw [Array.size_append, size_zeroCells, size_zeroCells]; show n * 1 + (c - n) * 1 = c; omega
    generalize Builtin.zeroCells (Value.int IntKind.u8 0).cells n ++ Builtin.zeroCells (Value.int IntKind.u8 0).cells (c - n) = C at hr hsz
    have HS := Lib.hid hsz; have HR := Lib.hid hr
    clear hsz hz hs hb hi hr
    go_enter Try.func67, Try.ntmps67
    go_wp2_with (at_builtin; refine Lib.wpList_append_run _ rfl _ _ _ _ rfl _ _ rfl rfl _ _ HR.out ?_)
    go_ret
    exact ⟨_, rfl, (own_room w.drew c hle C HS.out), bstep (bdraw w 1) (balloc w.drew _)⟩
theorem clone_any (A : Option Addr) (l : List UInt8) (c : Nat) (w : World) (h : BytesAt w A l) (hl : l.length ≤ 1099511627) :
    Calls Try.prog 45 #[.slice A l.length c] w (RetNew w l) := by
  rcases A with _ | a
  · have h0 : l = [] := by
      rcases l with _ | ⟨x, l⟩
      · rfl
      · obtain ⟨b, o, e, _⟩ := h 0 (by simp); cases e
    subst h0
    have he := fun w => Lib.run_eql_slice_nil (P := Try.prog) w 24 5 none 0 c 0 0 Try.underlying24
    go_enter Try.func45, Try.ntmps45
    go_wp2
    go_ret
    exact RetNew.of_nil (Below.refl _ _)
  · have H := Lib.hid h
    clear h
    have he := fun w => Lib.run_eql_slice_nil (P := Try.prog) w 24 5 (some a) l.length c 0 0 Try.underlying24
    go_enter Try.func45, Try.ntmps45
    go_wp2_with (at_builtin; refine wpList_append_bytes rfl _ _ rfl w.heap.size (.slice (some ⟨w.heap.size, 0, none⟩) 0 0) [] l rfl (Own.empty w _ (Nat.le_refl _)) (some a) l.length c rfl rfl (H.out.alloc _) (by simp; omega) (by simp) ?_; intro v1 w1 hown1 hb1; have hb1 : Below w.heap.size w w1 := (balloc w _).trans hb1; have HO := Lib.hid hown1; clear hown1)
    go_ret
    exact RetNew.of_own HO.out hb1
theorem concat_any (A : Option Addr) (m : List (List UInt8)) (c : Nat) (w : World) (h : RowsAt w A m) (hm : m.length ≤ 1048576) (hl : m.flatten.length < 1099511627776) :
    Calls Try.prog 46 #[.slice A m.length c] w (RetNew w m.flatten) := by
  have H := Lib.hid h; have HL := Lib.hid hl
  clear h
  go_enter Try.func46, Try.ntmps46
  go_wp2
  go_loop [3, 11] (fun s i => ∃ k : Nat, k ≤ m.length ∧ i = .int .i64 k ∧ s = .int .i64 ((m.take k).flatten.length : Nat))
    (fun _ i => m.length - (intOf i).toNat)
  case atStart => exact ⟨0, by omega, rfl, rfl⟩
  case round =>
    obtain ⟨k, hk, rfl, rfl⟩ := hrel
    have hle := rows_le m k
    by_cases hlt : k < m.length
    · obtain ⟨b, o, B, d, rfl, hc, h1, h2, _⟩ := H.out.row hlt
      have ht := rows_take m k hlt
      have hle2 := rows_le m (k + 1)
      rw [ht, List.length_append] at hle2
      have HT := Lib.hid ht
      clear ht
      obtain ⟨x, hx⟩ : ∃ x, x = (m.take k).flatten.length := ⟨_, rfl⟩
      obtain ⟨y, hy⟩ : ∃ y, y = m[k].length := ⟨_, rfl⟩
      rw [← hx, ← hy] at hle2
      rw [← hy] at hc h1
      rw [← hx]
      have HX := Lib.hid hx; have HY := Lib.hid hy
      clear hx hy hle
      go_wp2
      go_round
      case rel => exact ⟨k + 1, by omega, by go_num, by rw [HT.out, List.length_append, ← HX.out, ← HY.out]; go_num⟩
      case measure => simp [intOf] <;> omega
    · obtain rfl : k = m.length := by omega
      rw [List.take_length] at *
      obtain ⟨N, hN⟩ : ∃ N, N = m.flatten.length := ⟨_, rfl⟩
      rw [← hN] at hl hle ⊢
      have hN2 : N < 1099511627776 := hl
      clear hN
      go_wp2_with fail
      refine (grow_nil N w (by omega)).mono ?_
      rintro e w1 ⟨v, rfl, hown, hb1⟩
      have HOW := Lib.hid hown
      clear hown
      go_wp2
      go_loopw [6, 27] (fun v i wr => ∃ k : Nat, k ≤ m.length ∧ i = .int .i64 k ∧ Own wr w.heap.size v (m.take k).flatten ∧ Below w.heap.size w wr)
        (fun _ i _ => m.length - (intOf i).toNat)
      case atStart => exact ⟨0, by omega, rfl, HOW.out, hb1⟩
      case round =>
        obtain ⟨k, hk, rfl, hown, hbw⟩ := hrel
        rename World => w2
        have HO := Lib.hid hown
        have H2 := H.out.below hbw
        clear hown HOW
        by_cases hlt : k < m.length
        · obtain ⟨b, o, B, d, rfl, hc, h1, h2, hB⟩ := H2.row hlt
          have HB := Lib.hid hB
          have ht := rows_take m k hlt
          have hle2 := rows_le m (k + 1)
          have hle2' := hle2
          have HT := Lib.hid ht
          have HF : Hid ((m.take k).flatten.length + m[k].length < 1099511627776) := Lib.hid (by have := HL.out; rw [ht, List.length_append] at hle2'; omega)
          clear ht H2 hB hle2 hle2'
          obtain ⟨y, hy⟩ : ∃ y, y = m[k].length := ⟨_, rfl⟩
          rw [← hy] at hc h1
          have hbz := hbw.size
          have HY := Lib.hid hy
          clear hy
          have hfin : (m.take k).flatten.length + m[k].length < 1099511627776 := HF.out
          go_wp2_with (at_builtin; refine wpList_append_bytes rfl _ _ rfl w.heap.size _ (m.take k).flatten m[k] rfl HO.out B y d rfl HY.out HB.out hfin hbz ?_; intro v3 w3 hown3 hb3; have HO3 := Lib.hid hown3; clear hown3)
          go_roundw
          case rel => exact ⟨k + 1, by omega, by go_num, by rw [HT.out]; exact HO3.out, hbw.trans hb3⟩
          case measure => simp [intOf] <;> omega
        · obtain rfl : k = m.length := by omega
          have ho := HO.out
          rw [List.take_length] at ho
          have HO := Lib.hid ho
          clear ho
          go_wp2
          go_ret
          exact RetNew.of_own HO.out hbw
theorem convert_bytes {w : World} {A : Option Addr} {l : List UInt8} (h : BytesAt w A l) (c : Nat) : (convert 24 9 (.slice A l.length c)).run Try.prog w = .ok (.string ⟨l.toArray⟩) w := by
  rcases A with _ | a
  · have h0 : l = [] := by
      rcases l with _ | ⟨x, l⟩
      · rfl
      · obtain ⟨b, o, e, _⟩ := h 0 (by simp); cases e
    subst h0
    rw [List.length_nil, run_convert_bytes_string w 24 9 5 none 0 c Try.underlying24 Try.underlying5 Try.underlying9]
    simp [Conv.bytesToString]
    rfl
  · exact run_convert_bytes_back (P := Try.prog) w 24 9 5 a c l Try.underlying24 Try.underlying5 Try.underlying9 (fun j hj => by
      obtain ⟨x3, o3, e3, k3⟩ := h j hj
      injection e3 with e3; subst e3
      have hadd : (⟨x3, o3, none⟩ : Addr).add j = ⟨x3, o3 + j, none⟩ := by unfold Addr.add; split <;> simp_all
      rw [hadd]; exact k3)
theorem equal_any (A B : Option Addr) (l m : List UInt8) (c d : Nat) (w : World) (h : BytesAt w A l) (k : BytesAt w B m) :
    Calls Try.prog 34 #[.slice A l.length c, .slice B m.length d] w fun e w' => e = .returned (.bool (same l m)) ∧ w = w' := by
  have c1 := convert_bytes h c
  have c2 := convert_bytes k d
  clear h k
  obtain ⟨X, hX⟩ : ∃ X : ByteArray, X = ⟨l.toArray⟩ := ⟨_, rfl⟩
  obtain ⟨Y, hY⟩ : ∃ Y : ByteArray, Y = ⟨m.toArray⟩ := ⟨_, rfl⟩
  have hq : (X.toList == Y.toList) = same l m := by
    rw [hX, hY, ByteArray.toList_mk, ByteArray.toList_mk]
    rw [Bool.eq_iff_iff, beq_iff_eq]; simp [same]
  have HQ := Lib.hid hq
  rw [← hX] at c1
  rw [← hY] at c2
  clear hX hY hq
  go_enter Try.func34, Try.ntmps34
  go_wp2
  go_ret
  exact ⟨ret_bool HQ.out, rfl⟩
end Go.Proofs.Ytjoocjkakgjgmaa.CrcA
