/- the document's own answers of layer 16: Write, Rot -/
import Derived.Test.YteiemkaeeghhhaaR16
import Derived.Test.YteiemkaeeghhhaaDiskC
set_option maxRecDepth 100000
namespace Go.Proofs.Yteiemkaeeghhhaa.R16
open Go.RowKit DiskM CrcM Disk

theorem write_dead {m : Dk} {i : Int} {d : List UInt8} (h : isS m.b i = true) (hd : okD d = true) (hz : m.off = true) : m.write i d = (⟨m.b, m.left, true⟩, false) := by
  unfold Dk.write Dk.may; rw [h, hd, hz]; rfl
theorem write_goes {m : Dk} {i : Int} {d : List UInt8} (h : isS m.b i = true) (hd : okD d = true) (hz : m.left ≠ 0) (hdd : m.dead = false) : m.write i d = (⟨setS m.b i.toNat (DiskM.full d), if 0 < m.left then m.left - 1 else m.left, false⟩, true) := by
  have hf : m.off = false := by unfold Dk.off; rw [decide_eq_false hz, hdd]; rfl
  unfold Dk.write Dk.may; rw [h, hd, hf]; rfl
theorem write_zero (p g c : Nat) (m : Dk) (i : Int) (A : Option Addr) (cl : Nat) (w : World) (h : DAt w p g c m) (hl : m.b.length ≤ 32768) (hz : -9223372036854775808 ≤ m.left ∧ m.left ≤ 9223372036854775807) :
    Calls Try.prog 11 #[.pointer (some ⟨p, 0, none⟩), .int .i64 i, .slice A 0 cl] w fun e w' => e = .returned (.bool (m.write i []).2) ∧ DAt w' p g c (m.write i []).1 ∧ Keeps (PG p g) w w' := by
  have C := is_any p g c m i w h hl
  have HD := Lib.hid h
  have hok : okD [] = true := decide_eq_true (.inl rfl)
  rcases hs : isS m.b i with _ | _
  · rw [hs] at C
    rw [write_no hs]
    clear h hok
    go_enter Try.func11, Try.ntmps11
    go_wp2_with fail
    refine C.mono ?_
    rintro e w1 ⟨rfl, rfl⟩
    go_wp2
    go_ret
    exact ⟨rfl, HD.out, .refl _ _⟩
  rw [hs] at C
  have c1 := h.c1; have c2 := h.c2; have f1 := h.f1; have f2 := h.f2
  by_cases hz0 : m.left = 0
  · rw [write_dead hs hok (by unfold Dk.off; rw [decide_eq_true hz0]; rfl)]
    have HD2 := Lib.hid (h.setDead true)
    have HK := Lib.hid ((keeps_left w p 2 (.bool true)).mono (G := PG p g) fun k _ h => .inl h)
    rw [hz0] at c1
    clear h hok hs
    go_enter Try.func11, Try.ntmps11
    go_wp2_with fail
    refine C.mono ?_
    rintro e w1 ⟨rfl, rfl⟩
    go_wp2
    go_ret
    exact ⟨rfl, HD2.out, HK.out⟩
  rcases hdd : m.dead with _ | _
  · rw [write_goes hs hok hz0 hdd]
    rw [hdd] at c2
    obtain ⟨h1, h2⟩ := isS_fit hs
    obtain ⟨j, rfl⟩ := Int.eq_ofNat_of_zero_le h2
    rw [Int.toNat_natCast] at h1 ⊢
    have hD0 : DAt w p g c ⟨m.b, m.left, false⟩ := by rw [← hdd]; exact h
    have q0 : (m.left == 0) = false := by rw [beq_eq_false_iff_ne]; exact hz0
    by_cases hp : 0 < m.left
    · rw [if_pos hp]
      have hD1 : DAt (w.setCell ⟨p, 1, none⟩ (.int .i64 (m.left - 1))) p g c ⟨m.b, m.left - 1, false⟩ := hD0.setLeft (m.left - 1)
      have HK := Lib.hid (keeps_left w p 1 (.int .i64 (m.left - 1)))
      have i1 : IntKind.i64.wrap (m.left - 1) = m.left - 1 := IntWalk.i64_in _ (by omega)
      have hbm := balloc (w.setCell ⟨p, 1, none⟩ (.int .i64 (m.left - 1))) (.cells (cells (List.replicate 64 0)) 5)
      have hsz : (w.setCell ⟨p, 1, none⟩ (.int .i64 (m.left - 1))).heap.size = w.heap.size := by simp [World.setCell]
      have hrow : Row ((w.setCell ⟨p, 1, none⟩ (.int .i64 (m.left - 1))).alloc (.cells (cells (List.replicate 64 0)) 5)) w.heap.size (SecM.noughts 64) := by
        have := Row.new (w.setCell ⟨p, 1, none⟩ (.int .i64 (m.left - 1))) (SecM.noughts 64)
        rw [hsz] at this
        exact this
      have S := set_any p g c ⟨m.b, m.left - 1, false⟩ j (some ⟨w.heap.size, 0, none⟩) (SecM.noughts 64) 64 _ (hD1.below hbm) h1 hl hrow.bytes (SecM.noughts_len _) (fun a e => by injection e with e; subst e; have := h.lt.2; show w.heap.size ≠ g; omega)
      have HB := Lib.hid hbm
      have hfull : DiskM.full [] = SecM.noughts 64 := rfl
      rw [hfull]
      have hmk : ∀ W : World, (Instr.makeSlice 30 (.int .i64 64) (.int .i64 64)).run Try.prog W = .ok (.slice (some ⟨W.heap.size, 0, none⟩) 64 64) (W.alloc (.cells (cells (List.replicate 64 0)) 5)) := fun W => make_u8 64 (by omega) W
      obtain ⟨CC, hCC⟩ : ∃ CC, CC = cells (List.replicate 64 0) := ⟨_, rfl⟩
      rw [← hCC] at hmk HB S
      generalize SecM.noughts 64 = N at *
      clear hbm hrow hCC hfull hsz
      have HKK : Hid (Keeps (PG p g) w (w.setCell ⟨p, 1, none⟩ (.int .i64 (m.left - 1)))) := Lib.hid (HK.out.mono fun k _ h => .inl h)
      generalize m.left = z at *
      clear h hok hs hD0 hD1 HD
      go_enter Try.func11, Try.ntmps11
      go_wp2_with fail
      refine C.mono ?_
      rintro e w1 ⟨rfl, rfl⟩
      go_wp2_with fail
      refine S.mono ?_
      rintro e w2 ⟨rfl, hd2, hq2⟩
      have HD2 := Lib.hid hd2; have HQ := Lib.hid hq2
      clear hd2 hq2
      go_wp2
      go_ret
      exact ⟨rfl, HD2.out, HKK.out.trans ((Keeps.of_below _ HB.out).trans (HQ.out.mono fun k _ h => .inr h))⟩
    · rw [if_neg hp]
      have hD1 := hD0
      have hbm := balloc w (.cells (cells (List.replicate 64 0)) 5)
      have hsz : w.heap.size = w.heap.size := by rfl
      have hrow : Row (w.alloc (.cells (cells (List.replicate 64 0)) 5)) w.heap.size (SecM.noughts 64) := by
        have := Row.new w (SecM.noughts 64)
        rw [hsz] at this
        exact this
      have S := set_any p g c ⟨m.b, m.left, false⟩ j (some ⟨w.heap.size, 0, none⟩) (SecM.noughts 64) 64 _ (hD1.below hbm) h1 hl hrow.bytes (SecM.noughts_len _) (fun a e => by injection e with e; subst e; have := h.lt.2; show w.heap.size ≠ g; omega)
      have HB := Lib.hid hbm
      have hfull : DiskM.full [] = SecM.noughts 64 := rfl
      rw [hfull]
      have hmk : ∀ W : World, (Instr.makeSlice 30 (.int .i64 64) (.int .i64 64)).run Try.prog W = .ok (.slice (some ⟨W.heap.size, 0, none⟩) 64 64) (W.alloc (.cells (cells (List.replicate 64 0)) 5)) := fun W => make_u8 64 (by omega) W
      obtain ⟨CC, hCC⟩ : ∃ CC, CC = cells (List.replicate 64 0) := ⟨_, rfl⟩
      rw [← hCC] at hmk HB S
      generalize SecM.noughts 64 = N at *
      clear hbm hrow hCC hfull hsz
      have HKK : Hid (Keeps (PG p g) w w) := Lib.hid (.refl _ _)
      generalize m.left = z at *
      clear h hok hs hD0 hD1 HD
      go_enter Try.func11, Try.ntmps11
      go_wp2_with fail
      refine C.mono ?_
      rintro e w1 ⟨rfl, rfl⟩
      go_wp2_with fail
      refine S.mono ?_
      rintro e w2 ⟨rfl, hd2, hq2⟩
      have HD2 := Lib.hid hd2; have HQ := Lib.hid hq2
      clear hd2 hq2
      go_wp2
      go_ret
      exact ⟨rfl, HD2.out, HKK.out.trans ((Keeps.of_below _ HB.out).trans (HQ.out.mono fun k _ h => .inr h))⟩
  · rw [write_dead hs hok (by unfold Dk.off; rw [hdd, Bool.or_true])]
    have HD2 : Hid (DAt w p g c ⟨m.b, m.left, true⟩) := Lib.hid (by rw [← hdd]; exact h)
    rw [hdd] at c2
    have q0 : (m.left == 0) = false := by rw [beq_eq_false_iff_ne]; exact hz0
    generalize m.left = z at *
    clear h hok hs HD
    go_enter Try.func11, Try.ntmps11
    go_wp2_with fail
    refine C.mono ?_
    rintro e w1 ⟨rfl, rfl⟩
    go_wp2
    go_ret
    exact ⟨rfl, HD2.out, .refl _ _⟩
theorem write_full (p g c : Nat) (m : Dk) (i : Int) (A : Option Addr) (l : List UInt8) (cl : Nat) (w : World) (h : DAt w p g c m) (hl : m.b.length ≤ 32768) (hz : -9223372036854775808 ≤ m.left ∧ m.left ≤ 9223372036854775807) (hA : BytesAt w A l) (hAp : ∀ a, A = some a → a.block ≠ p ∧ a.block ≠ g) (h64 : l.length = 64) :
    Calls Try.prog 11 #[.pointer (some ⟨p, 0, none⟩), .int .i64 i, .slice A 64 cl] w fun e w' => e = .returned (.bool (m.write i l).2) ∧ DAt w' p g c (m.write i l).1 ∧ Keeps (PG p g) w w' := by
  have C := is_any p g c m i w h hl
  have HD := Lib.hid h
  have hok : okD l = true := decide_eq_true (.inr h64)
  rcases hs : isS m.b i with _ | _
  · rw [hs] at C
    rw [write_no hs]
    clear h hok
    go_enter Try.func11, Try.ntmps11
    go_wp2_with fail
    refine C.mono ?_
    rintro e w1 ⟨rfl, rfl⟩
    go_wp2
    go_ret
    exact ⟨rfl, HD.out, .refl _ _⟩
  rw [hs] at C
  have c1 := h.c1; have c2 := h.c2; have f1 := h.f1; have f2 := h.f2
  by_cases hz0 : m.left = 0
  · rw [write_dead hs hok (by unfold Dk.off; rw [decide_eq_true hz0]; rfl)]
    have HD2 := Lib.hid (h.setDead true)
    have HK := Lib.hid ((keeps_left w p 2 (.bool true)).mono (G := PG p g) fun k _ h => .inl h)
    rw [hz0] at c1
    clear h hok hs
    go_enter Try.func11, Try.ntmps11
    go_wp2_with fail
    refine C.mono ?_
    rintro e w1 ⟨rfl, rfl⟩
    go_wp2
    go_ret
    exact ⟨rfl, HD2.out, HK.out⟩
  rcases hdd : m.dead with _ | _
  · rw [write_goes hs hok hz0 hdd]
    rw [hdd] at c2
    obtain ⟨h1, h2⟩ := isS_fit hs
    obtain ⟨j, rfl⟩ := Int.eq_ofNat_of_zero_le h2
    rw [Int.toNat_natCast] at h1 ⊢
    have hD0 : DAt w p g c ⟨m.b, m.left, false⟩ := by rw [← hdd]; exact h
    have q0 : (m.left == 0) = false := by rw [beq_eq_false_iff_ne]; exact hz0
    by_cases hp : 0 < m.left
    · rw [if_pos hp]
      have hD1 : DAt (w.setCell ⟨p, 1, none⟩ (.int .i64 (m.left - 1))) p g c ⟨m.b, m.left - 1, false⟩ := hD0.setLeft (m.left - 1)
      have HK := Lib.hid (keeps_left w p 1 (.int .i64 (m.left - 1)))
      have i1 : IntKind.i64.wrap (m.left - 1) = m.left - 1 := IntWalk.i64_in _ (by omega)
      have S := set_any p g c ⟨m.b, m.left - 1, false⟩ j A l cl (w.setCell ⟨p, 1, none⟩ (.int .i64 (m.left - 1))) hD1 h1 hl (HK.out.bytes hA (fun a e => (hAp a e).1)) h64 (fun a e => (hAp a e).2)
      have hfull : DiskM.full l = l := by
        unfold DiskM.full
        rw [if_neg (fun e => by rw [e] at h64; cases h64)]
      rw [hfull]
      clear hfull
      have HKK : Hid (Keeps (PG p g) w (w.setCell ⟨p, 1, none⟩ (.int .i64 (m.left - 1)))) := Lib.hid (HK.out.mono fun k _ h => .inl h)
      generalize m.left = z at *
      clear h hok hs hD0 hD1 HD h64
      go_enter Try.func11, Try.ntmps11
      go_wp2_with fail
      refine C.mono ?_
      rintro e w1 ⟨rfl, rfl⟩
      go_wp2_with fail
      refine S.mono ?_
      rintro e w2 ⟨rfl, hd2, hq2⟩
      have HD2 := Lib.hid hd2; have HQ := Lib.hid hq2
      clear hd2 hq2
      go_wp2
      go_ret
      exact ⟨rfl, HD2.out, HKK.out.trans (HQ.out.mono fun k _ h => .inr h)⟩
    · rw [if_neg hp]
      have hD1 := hD0
      have S := set_any p g c ⟨m.b, m.left, false⟩ j A l cl w hD1 h1 hl (hA) h64 (fun a e => (hAp a e).2)
      have hfull : DiskM.full l = l := by
        unfold DiskM.full
        rw [if_neg (fun e => by rw [e] at h64; cases h64)]
      rw [hfull]
      clear hfull
      have HKK : Hid (Keeps (PG p g) w w) := Lib.hid (.refl _ _)
      generalize m.left = z at *
      clear h hok hs hD0 hD1 HD h64
      go_enter Try.func11, Try.ntmps11
      go_wp2_with fail
      refine C.mono ?_
      rintro e w1 ⟨rfl, rfl⟩
      go_wp2_with fail
      refine S.mono ?_
      rintro e w2 ⟨rfl, hd2, hq2⟩
      have HD2 := Lib.hid hd2; have HQ := Lib.hid hq2
      clear hd2 hq2
      go_wp2
      go_ret
      exact ⟨rfl, HD2.out, HKK.out.trans (HQ.out.mono fun k _ h => .inr h)⟩
  · rw [write_dead hs hok (by unfold Dk.off; rw [hdd, Bool.or_true])]
    have HD2 : Hid (DAt w p g c ⟨m.b, m.left, true⟩) := Lib.hid (by rw [← hdd]; exact h)
    rw [hdd] at c2
    have q0 : (m.left == 0) = false := by rw [beq_eq_false_iff_ne]; exact hz0
    generalize m.left = z at *
    clear h hok hs HD
    go_enter Try.func11, Try.ntmps11
    go_wp2_with fail
    refine C.mono ?_
    rintro e w1 ⟨rfl, rfl⟩
    go_wp2
    go_ret
    exact ⟨rfl, HD2.out, .refl _ _⟩
theorem write_bad (p g c : Nat) (m : Dk) (i : Int) (A : Option Addr) (l : List UInt8) (cl : Nat) (w : World) (h : DAt w p g c m) (hl : m.b.length ≤ 32768) (hok : okD l = false) (_hll : l.length ≤ maxLen) :
    Calls Try.prog 11 #[.pointer (some ⟨p, 0, none⟩), .int .i64 i, .slice A l.length cl] w fun e w' => e = .returned (.bool (m.write i l).2) ∧ DAt w' p g c (m.write i l).1 ∧ Keeps (PG p g) w w' := by
  have C := is_any p g c m i w h hl
  have HD := Lib.hid h
  rw [write_short hok]
  have ho := of_decide_eq_false hok
  unfold maxLen at _hll
  have q1 : ((l.length : Int) != 0) = true := by rw [bne_iff_ne]; omega
  have q2 : ((l.length : Int) != 64) = true := by rw [bne_iff_ne]; omega
  clear h hok ho
  rcases hs : isS m.b i with _ | _
  · rw [hs] at C
    go_enter Try.func11, Try.ntmps11
    go_wp2_with fail
    refine C.mono ?_
    rintro e w1 ⟨rfl, rfl⟩
    go_wp2
    go_ret
    exact ⟨rfl, HD.out, .refl _ _⟩
  · rw [hs] at C
    go_enter Try.func11, Try.ntmps11
    go_wp2_with fail
    refine C.mono ?_
    rintro e w1 ⟨rfl, rfl⟩
    go_wp2
    go_ret
    exact ⟨rfl, HD.out, .refl _ _⟩
theorem write_any (p g c : Nat) (m : Dk) (i : Int) (A : Option Addr) (l : List UInt8) (cl : Nat) (w : World) (h : DAt w p g c m) (hl : m.b.length ≤ 32768) (hz : -9223372036854775808 ≤ m.left ∧ m.left ≤ 9223372036854775807) (hA : BytesAt w A l) (hAp : 0 < l.length → ∀ a, A = some a → a.block ≠ p ∧ a.block ≠ g) (hll : l.length ≤ maxLen) :
    Calls Try.prog 11 #[.pointer (some ⟨p, 0, none⟩), .int .i64 i, .slice A l.length cl] w fun e w' => e = .returned (.bool (m.write i l).2) ∧ DAt w' p g c (m.write i l).1 ∧ Keeps (PG p g) w w' := by
  rcases hok : okD l with _ | _
  · exact write_bad p g c m i A l cl w h hl hok hll
  · rcases of_decide_eq_true hok with h0 | h0
    · have : l = [] := List.eq_nil_of_length_eq_zero h0
      subst this
      exact write_zero p g c m i A cl w h hl hz
    · rw [h0]
      exact write_full p g c m i A l cl w h hl hz hA (hAp (by omega)) h0

theorem rot_any (p g c : Nat) (m : Dk) (i bit : Int) (mask : Nat) (w : World) (h : DAt w p g c m) (hl : m.b.length ≤ 32768) (hbit : -9223372036854775808 ≤ bit ∧ bit ≤ 9223372036854775807) (hm : mask < 4294967296) :
    Calls Try.prog 15 #[.pointer (some ⟨p, 0, none⟩), .int .i64 i, .int .i64 bit, .int .u32 (mask : Nat)] w fun e w' => e = .returned (.bool (m.rot i bit mask).2) ∧ DAt w' p g c (m.rot i bit mask).1 ∧ Keeps (PG p g) w w' := by
  have C := is_any p g c m i w h hl
  have HD := Lib.hid h
  have hrot : m.rot i bit mask = if isS m.b i && decide (0 ≤ bit) then (⟨setS m.b i.toNat (turnZ (sect m.b i.toNat) bit mask), m.left, m.dead⟩, true) else (m, false) := rfl
  rcases hs : isS m.b i with _ | _
  · rw [hs] at C hrot
    rw [hrot]
    clear h hrot
    go_enter Try.func15, Try.ntmps15
    go_wp2_with fail
    refine C.mono ?_
    rintro e w1 ⟨rfl, rfl⟩
    go_wp2
    go_ret
    exact ⟨rfl, HD.out, .refl _ _⟩
  by_cases h0 : bit < 0
  · rw [hs, decide_eq_false (by omega)] at hrot
    rw [hs] at C
    rw [hrot]
    clear h hrot
    go_enter Try.func15, Try.ntmps15
    go_wp2_with fail
    refine C.mono ?_
    rintro e w1 ⟨rfl, rfl⟩
    go_wp2
    go_ret
    exact ⟨rfl, HD.out, .refl _ _⟩
  obtain ⟨f, rfl⟩ := Int.eq_ofNat_of_zero_le (show 0 ≤ bit by omega)
  obtain ⟨h1, h2⟩ := isS_fit hs
  obtain ⟨j, rfl⟩ := Int.eq_ofNat_of_zero_le h2
  rw [hs, decide_eq_true (by omega)] at hrot
  rw [Int.toNat_natCast] at h1 hrot
  have hR := read_any p g c m (j : Int) w h hl
  have hrd : m.read (j : Int) = sect m.b j := by unfold Dk.read; rw [hs, if_pos rfl, Int.toNat_natCast]
  rw [hs] at C
  have hsl := sect_len m.b j h1
  unfold RetNew at hR
  rw [hrd, hsl] at hR
  have hT : turnZ (sect m.b j) (f : Int) mask = R05.turnI (sect m.b j) (f : Int) mask := by
    unfold turnZ R05.turnI; rfl
  rw [hT] at hrot
  have htl : (R05.turnI (sect m.b j) (f : Int) mask).length = 64 := by rw [R05.turnI_len, hsl]
  have HT : Hid (∀ X d W, BytesAt W X (sect m.b j) → Calls Try.prog 33 #[.slice X 64 d, .int .i64 (f : Nat), .int .u32 (mask : Nat)] W fun e w' => ∃ A c, e = .returned (.slice A 64 c) ∧ 64 ≤ c ∧ c ≤ maxLen ∧ BytesAt w' A (R05.turnI (sect m.b j) (f : Int) mask) ∧ Below W.heap.size W w' ∧ New W A) := Lib.hid (fun X d W h => by
    have := R05.turn_any X (sect m.b j) d (f : Int) mask W h (by omega) hbit hm
    unfold RetNew at this
    rw [hsl, htl] at this
    exact this)
  rw [hrot]
  have HS : Hid (∀ X d W, DAt W p g c m → BytesAt W X (R05.turnI (sect m.b j) (f : Int) mask) → (∀ a, X = some a → a.block ≠ g) → Calls Try.prog 30 #[.pointer (some ⟨p, 0, none⟩), .int .i64 (j : Nat), .slice X 64 d] W fun e w' => e = .returned (.tuple #[]) ∧ DAt w' p g c ⟨setS m.b j (R05.turnI (sect m.b j) (f : Int) mask), m.left, m.dead⟩ ∧ Keeps (fun k => k = g) W w') := Lib.hid (fun X d W hd hb hx => set_any p g c m j X _ d W hd h1 hl hb htl hx)
  generalize R05.turnI (sect m.b j) (f : Int) mask = T at *
  generalize sect m.b j = L at *
  have HG := Lib.hid h.lt
  clear h hrot hrd hsl hT htl hs
  go_enter Try.func15, Try.ntmps15
  go_wp2_with fail
  refine C.mono ?_
  rintro e w1 ⟨rfl, rfl⟩
  go_wp2_with fail
  refine hR.mono ?_
  rintro e w2 ⟨X, d, rfl, _, _, g3, hb2, _⟩
  have HX := Lib.hid g3
  have HD2 := Lib.hid (HD.out.below hb2)
  clear g3
  go_wp2_with fail
  refine (HT.out X d w2 HX.out).mono ?_
  rintro e w3 ⟨Y, d3, rfl, _, _, g4, hb3, hn3⟩
  have HY := Lib.hid g4
  have HD3 := Lib.hid (HD2.out.below hb3)
  have hyg : ∀ a, Y = some a → a.block ≠ g := fun a e => by
    have := hn3 a e; have := HD2.out.lt.2; omega
  have HYG := Lib.hid hyg
  clear g4 hn3 hyg
  go_wp2_with fail
  refine (HS.out Y d3 w3 HD3.out HY.out HYG.out).mono ?_
  rintro e w4 ⟨rfl, hd4, hq4⟩
  have HD4 := Lib.hid hd4; have HQ := Lib.hid hq4
  clear hd4 hq4
  go_wp2
  go_ret
  exact ⟨rfl, HD4.out, (Keeps.of_below _ (bstep hb2 hb3)).trans (HQ.out.mono fun k _ h => .inr h)⟩
end Go.Proofs.Yteiemkaeeghhhaa.R16
