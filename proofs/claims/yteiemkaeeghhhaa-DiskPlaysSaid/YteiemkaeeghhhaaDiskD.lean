/- package disk: Write, Rot, whole -/
import Derived.Test.YteiemkaeeghhhaaDiskC
import Derived.Laws.EntriesVeiled
set_option maxRecDepth 100000
namespace Go.Proofs.Yteiemkaeeghhhaa.Disk
open Go.RowKit DiskM CrcM

theorem rot1_any (p g c x y : Nat) (m : Dk) (i f mask : Nat) (w : World) (h : DAt w p g c m) (hi : 64 * i + 64 ≤ m.b.length) (hl : m.b.length ≤ 32768) (hf : f ≤ 9223372036854775807) (hm : mask < 4294967296)
    (hx : w.cell? ⟨x, 0, none⟩ = some (.int .i64 (f : Nat))) (hy : w.cell? ⟨y, 0, none⟩ = some (.int .u32 (mask : Nat))) :
    Calls Try.prog 31 #[.slice (some ⟨g, 64 * i, none⟩) 64 64, .pointer (some ⟨x, 0, none⟩), .pointer (some ⟨y, 0, none⟩)] w fun e w' =>
      e = .returned (.bool true) ∧ DAt w' p g c ⟨setS m.b i (turn (sect m.b i) f mask), m.left, m.dead⟩ ∧ Keeps (PG p g) w w' := by
  have C := turn_any p g c m i f mask w h hi hl hf hm
  clear h
  go_enter Try.func31, Try.ntmps31
  go_wp2_with fail
  refine C.mono ?_
  rintro e w1 ⟨rfl, hd, hq⟩
  have HD := Lib.hid hd; have HQ := Lib.hid hq
  clear hd hq
  go_wp2
  go_ret
  exact ⟨rfl, HD.out, HQ.out.mono fun k _ h => .inr h⟩

/-! change, of Write's and of Rot's -/
theorem change_w_none (V : Value) (i : Int) (x y : Nat) (w : World) (C : Calls Try.prog 26 #[V, .int .i64 i] w fun e w' => e = .returned (.slice none 0 0) ∧ w = w') :
    Calls Try.prog 25 #[.func (.func 26) #[V] #[], .int .i64 i, .func (.func 27) #[] #[.pointer (some ⟨x, 0, none⟩), .pointer (some ⟨y, 0, none⟩)]] w
      fun e w' => e = .returned (.bool false) ∧ w = w' := by
  have he := fun w => run_neq_slice_nil w 30 5 none 0 0 0 0 Try.underlying30
  go_enter Try.func25, Try.ntmps25
  go_wp2_with fail
  refine C.mono ?_
  rintro e w1 ⟨rfl, rfl⟩
  go_wp2
  go_ret
  exact ⟨rfl, rfl⟩
theorem change_w_some (V : Value) (i : Int) (x y g o : Nat) (w : World) (r : Bool) (R : World → World → Prop) (C : Calls Try.prog 26 #[V, .int .i64 i] w fun e w' => e = .returned (.slice (some ⟨g, o, none⟩) 64 64) ∧ w = w')
    (D : Calls Try.prog 27 #[.slice (some ⟨g, o, none⟩) 64 64, .pointer (some ⟨x, 0, none⟩), .pointer (some ⟨y, 0, none⟩)] w fun e w' => e = .returned (.bool r) ∧ R w w') :
    Calls Try.prog 25 #[.func (.func 26) #[V] #[], .int .i64 i, .func (.func 27) #[] #[.pointer (some ⟨x, 0, none⟩), .pointer (some ⟨y, 0, none⟩)]] w
      fun e w' => e = .returned (.bool r) ∧ R w w' := by
  have he := fun w => run_neq_slice_nil w 30 5 (some ⟨g, o, none⟩) 64 64 0 0 Try.underlying30
  go_enter Try.func25, Try.ntmps25
  go_wp2_with fail
  refine C.mono ?_
  rintro e w1 ⟨rfl, rfl⟩
  go_wp2_with fail
  refine D.mono ?_
  rintro e w2 ⟨rfl, hR⟩
  go_wp2
  go_ret
  exact ⟨rfl, hR⟩
theorem change_r_none (V : Value) (i : Int) (x y : Nat) (w : World) (C : Calls Try.prog 26 #[V, .int .i64 i] w fun e w' => e = .returned (.slice none 0 0) ∧ w = w') :
    Calls Try.prog 25 #[.func (.func 26) #[V] #[], .int .i64 i, .func (.func 31) #[] #[.pointer (some ⟨x, 0, none⟩), .pointer (some ⟨y, 0, none⟩)]] w
      fun e w' => e = .returned (.bool false) ∧ w = w' := by
  have he := fun w => run_neq_slice_nil w 30 5 none 0 0 0 0 Try.underlying30
  go_enter Try.func25, Try.ntmps25
  go_wp2_with fail
  refine C.mono ?_
  rintro e w1 ⟨rfl, rfl⟩
  go_wp2
  go_ret
  exact ⟨rfl, rfl⟩
theorem change_r_some (V : Value) (i : Int) (x y g o : Nat) (w : World) (r : Bool) (R : World → World → Prop) (C : Calls Try.prog 26 #[V, .int .i64 i] w fun e w' => e = .returned (.slice (some ⟨g, o, none⟩) 64 64) ∧ w = w')
    (D : Calls Try.prog 31 #[.slice (some ⟨g, o, none⟩) 64 64, .pointer (some ⟨x, 0, none⟩), .pointer (some ⟨y, 0, none⟩)] w fun e w' => e = .returned (.bool r) ∧ R w w') :
    Calls Try.prog 25 #[.func (.func 26) #[V] #[], .int .i64 i, .func (.func 31) #[] #[.pointer (some ⟨x, 0, none⟩), .pointer (some ⟨y, 0, none⟩)]] w
      fun e w' => e = .returned (.bool r) ∧ R w w' := by
  have he := fun w => run_neq_slice_nil w 30 5 (some ⟨g, o, none⟩) 64 64 0 0 Try.underlying30
  go_enter Try.func25, Try.ntmps25
  go_wp2_with fail
  refine C.mono ?_
  rintro e w1 ⟨rfl, rfl⟩
  go_wp2_with fail
  refine D.mono ?_
  rintro e w2 ⟨rfl, hR⟩
  go_wp2
  go_ret
  exact ⟨rfl, hR⟩

/-- change, as Write calls it, of bytes that lie in a box -/
theorem change_write (p g c x y : Nat) (m : Dk) (i : Int) (A : Option Addr) (l : List UInt8) (cl : Nat) (w : World) (h : DAt w p g c m) (hl : m.b.length ≤ 32768) (hwf : m.dead = true → m.left = 0) (hz : -9223372036854775808 ≤ m.left ∧ m.left ≤ 9223372036854775807) (hi : -9223372036854775808 ≤ i ∧ i ≤ 9223372036854775807)
    (hx : w.cell? ⟨x, 0, none⟩ = some (.slice A l.length cl)) (hy : w.cell? ⟨y, 0, none⟩ = some (.pointer (some ⟨p, 0, none⟩))) (hxp : x ≠ p) (hA : BytesAt w A l) (hAp : ∀ a, A = some a → a.block ≠ p) (hne : l ≠ []) (hll : l.length ≤ maxLen) :
    Calls Try.prog 25 #[.func (.func 26) #[.pointer (some ⟨p, 0, none⟩)] #[], .int .i64 i, .func (.func 27) #[] #[.pointer (some ⟨x, 0, none⟩), .pointer (some ⟨y, 0, none⟩)]] w
      fun e w' => e = .returned (.bool (m.write i l).2) ∧ DAt w' p g c (m.write i l).1 ∧ Keeps (PG p g) w w' := by
  have C := own_any p g c m i w h hl hi
  unfold ownV at C
  rcases hs : isS m.b i with _ | _
  · rw [hs, if_neg (by decide)] at C
    rw [write_no hs]
    refine (change_w_none _ i x y w C).mono ?_
    rintro e w' ⟨rfl, rfl⟩
    exact ⟨rfl, h, .refl _ _⟩
  · rw [hs, if_pos rfl] at C
    obtain ⟨h1, h2⟩ := isS_fit hs
    obtain ⟨j, rfl⟩ := Int.eq_ofNat_of_zero_le h2
    rw [Int.toNat_natCast] at C h1
    exact change_w_some _ _ x y g (64 * j) w (m.write (j : Int) l).2 (fun w w' => DAt w' p g c (m.write (j : Int) l).1 ∧ Keeps (PG p g) w w') C (write1_any p g c x y m j A l cl w h h1 hl hwf hz hx hy hxp hA hAp hne hll)

theorem zero_at (w : World) : Calls Try.prog 24 #[] w fun e w' => ∃ X d, e = .returned (.slice X 64 d) ∧ 64 ≤ d ∧ d ≤ maxLen ∧ BytesAt w' X (SecM.noughts 64) ∧ Below w.heap.size w w' ∧ New w X := by
  have := Sector.zero_any w
  unfold RetNew at this
  rw [SecM.noughts_len] at this
  exact this
theorem write_any (p g c : Nat) (m : Dk) (i : Int) (A : Option Addr) (l : List UInt8) (cl : Nat) (w : World) (h : DAt w p g c m) (hl : m.b.length ≤ 32768) (hwf : m.dead = true → m.left = 0) (hz : -9223372036854775808 ≤ m.left ∧ m.left ≤ 9223372036854775807) (hi : -9223372036854775808 ≤ i ∧ i ≤ 9223372036854775807)
    (hA : BytesAt w A l) (hAp : 0 < l.length → ∀ a, A = some a → a.block ≠ p) (hll : l.length ≤ maxLen) :
    Calls Try.prog 10 #[.pointer (some ⟨p, 0, none⟩), .int .i64 i, .slice A l.length cl] w fun e w' =>
      e = .returned (.bool (m.write i l).2) ∧ DAt w' p g c (m.write i l).1 ∧ Keeps (PG p g) w w' := by
  have hb : Below w.heap.size w ((w.alloc (.cells #[.pointer (some ⟨p, 0, none⟩)] 25)).alloc (.cells #[.slice A l.length cl] 30)) := bstep (balloc w _) (balloc _ _)
  have HD := Lib.hid (h.below hb); have HB := Lib.hid hb
  have HP := Lib.hid h.lt
  have HAP := Lib.hid hAp
  have HHA := Lib.hid (hA.below hb)
  have hy : ((w.alloc (.cells #[.pointer (some ⟨p, 0, none⟩)] 25)).alloc (.cells #[.slice A l.length cl] 30)).cell? ⟨w.heap.size, 0, none⟩ = some (.pointer (some ⟨p, 0, none⟩)) := by
    rw [World.cell?_of_block (w := w.alloc (.cells #[.pointer (some ⟨p, 0, none⟩)] 25)) ((Below.heap_alloc _ _ _ (by simp)))]; simp
  have hx : ((w.alloc (.cells #[.pointer (some ⟨p, 0, none⟩)] 25)).alloc (.cells #[.slice A l.length cl] 30)).cell? ⟨w.heap.size + 1, 0, none⟩ = some (.slice A l.length cl) := by
    have hz : (w.alloc (.cells #[.pointer (some ⟨p, 0, none⟩)] 25)).heap.size = w.heap.size + 1 := by simp
    rw [← hz]; simp
  have hfx : ((w.alloc (.cells #[.pointer (some ⟨p, 0, none⟩)] 25)).alloc (.cells #[.slice A l.length cl] 30)).frozen? ⟨w.heap.size + 1, 0, none⟩ = false := by
    have hz : (w.alloc (.cells #[.pointer (some ⟨p, 0, none⟩)] 25)).heap.size = w.heap.size + 1 := by simp
    rw [← hz]; simp
  have HX := Lib.hid hx; have HY := Lib.hid hy; have HFX := Lib.hid hfx
  by_cases h0 : l = []
  · rw [h0, write_nil]
    subst h0
    clear h hA hAp hb hx hy hfx
    go_enter Try.func10, Try.ntmps10
    go_wp2_with fail
    refine (zero_at _).mono ?_
    rintro e w1 ⟨X, d, rfl, g1, g2, g3, hb1, hn1⟩
    have hx1 := (hb1.cell (p := ⟨w.heap.size + 1, 0, none⟩) (cell_lt HX.out)).trans HX.out
    have hy1 := (hb1.cell (p := ⟨w.heap.size, 0, none⟩) (cell_lt HY.out)).trans HY.out
    have hf1 : w1.frozen? ⟨w.heap.size + 1, 0, none⟩ = false := (World.frozen?_of_block (hb1.block _ (cell_lt HX.out))).trans HFX.out
    have hbw := HB.out.trans (hb1.mono HB.out.size)
    have hxs := cell_lt hx1
    have HB2 : Hid (Below w.heap.size w (w1.setCell ⟨w.heap.size + 1, 0, none⟩ (.slice X 64 d))) := Lib.hid (hbw.setCell (p := ⟨w.heap.size + 1, 0, none⟩) (Nat.le_succ _) _)
    have hk : Keeps (fun k => k = w.heap.size + 1) w1 (w1.setCell ⟨w.heap.size + 1, 0, none⟩ (.slice X 64 d)) := .set _ _ _ _ rfl
    have HD2 := Lib.hid ((HD.out.below hb1).keep hk (by have := HP.out.1; omega) (by have := HP.out.2; omega))
    have HX2 : Hid ((w1.setCell ⟨w.heap.size + 1, 0, none⟩ (.slice X 64 d)).cell? ⟨w.heap.size + 1, 0, none⟩ = some (.slice X (SecM.noughts 64).length d)) := Lib.hid (by rw [World.cell?_setCell_same _ _ _ hx1]; rfl)
    have HY2 := Lib.hid (hk.cell hy1 (by show ¬ w.heap.size = w.heap.size + 1; omega))
    have HA2 := Lib.hid (hk.bytes g3 (fun a e => by
      have h1 : w.heap.size + 2 ≤ a.block := by have := hn1 a e; simpa using this
      omega))
    have HAP2 : Hid (∀ a, X = some a → a.block ≠ p) := Lib.hid (fun a e => by
      have h1 : w.heap.size + 2 ≤ a.block := by have := hn1 a e; simpa using this
      have h3 := HP.out.1
      omega)
    have hy2 := HY2.out
    clear g3 hb1 hn1 hy1 hbw hk HX HY HFX HD HB
    go_wp2_with fail
    refine (change_write p g c _ _ m i X (SecM.noughts 64) d _ HD2.out hl hwf hz hi HX2.out HY2.out (by have := HP.out.1; omega) HA2.out HAP2.out (fun e => by have := congrArg List.length e; rw [SecM.noughts_len] at this; cases this) (by rw [SecM.noughts_len]; unfold maxLen; omega)).mono ?_
    rintro e w2 ⟨rfl, hd, hq⟩
    have HD3 := Lib.hid hd; have HQ := Lib.hid hq
    clear hd hq
    go_wp2
    go_ret
    exact ⟨rfl, HD3.out, (Keeps.of_below _ HB2.out).trans HQ.out⟩
  · have hl0 : 0 < l.length := by
      rcases l with _ | ⟨a, l⟩
      · exact absurd rfl h0
      · simp
    have q : ((l.length : Int) == 0) = false := by rw [beq_eq_false_iff_ne]; omega
    have hll2 : l.length ≤ 9223372036854775807 := hll
    clear h hA hAp hb hx hy hfx
    go_enter Try.func10, Try.ntmps10
    go_wp2_with fail
    refine (change_write p g c _ _ m i A l cl _ HD.out hl hwf hz hi HX.out HY.out (by have := HP.out.1; omega) HHA.out (HAP.out hl0) h0 hll).mono ?_
    rintro e w2 ⟨rfl, hd, hq⟩
    have HD3 := Lib.hid hd; have HQ := Lib.hid hq
    clear hd hq
    go_wp2
    go_ret
    exact ⟨rfl, HD3.out, (Keeps.of_below _ HB.out).trans HQ.out⟩
end Go.Proofs.Yteiemkaeeghhhaa.Disk
