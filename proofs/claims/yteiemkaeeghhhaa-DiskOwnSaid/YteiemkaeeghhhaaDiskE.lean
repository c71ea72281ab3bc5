/- package disk: Rot, Read, Image, Wipe; calls of a disk that is none -/
import Derived.Test.YteiemkaeeghhhaaDiskD
set_option maxRecDepth 100000
namespace Go.Proofs.Yteiemkaeeghhhaa.Disk
open Go.RowKit DiskM CrcM

theorem rot_no {m : Dk} {i bit : Int} {mask : Nat} (h : isS m.b i = false) : m.rot i bit mask = (m, false) := by
  unfold Dk.rot; rw [h]; rfl
theorem rot_neg {m : Dk} {i bit : Int} {mask : Nat} (h : bit < 0) : m.rot i bit mask = (m, false) := by
  unfold Dk.rot; rw [decide_eq_false (by omega : ¬ 0 ≤ bit), Bool.and_false]; rfl
theorem rot_on {m : Dk} {i : Int} {f mask : Nat} (h : isS m.b i = true) : m.rot i (f : Int) mask = (⟨setS m.b i.toNat (turn (sect m.b i.toNat) f mask), m.left, m.dead⟩, true) := by
  unfold Dk.rot turnZ; rw [h, decide_eq_true (by omega : 0 ≤ (f : Int)), if_neg (by omega : ¬ (f : Int) < 0), Int.toNat_natCast]; rfl
theorem change_rot (p g c x y : Nat) (m : Dk) (i : Int) (f mask : Nat) (w : World) (h : DAt w p g c m) (hl : m.b.length ≤ 32768) (hi : -9223372036854775808 ≤ i ∧ i ≤ 9223372036854775807) (hf : f ≤ 9223372036854775807) (hm : mask < 4294967296)
    (hx : w.cell? ⟨x, 0, none⟩ = some (.int .i64 (f : Nat))) (hy : w.cell? ⟨y, 0, none⟩ = some (.int .u32 (mask : Nat))) :
    Calls Try.prog 25 #[.func (.func 26) #[.pointer (some ⟨p, 0, none⟩)] #[], .int .i64 i, .func (.func 31) #[] #[.pointer (some ⟨x, 0, none⟩), .pointer (some ⟨y, 0, none⟩)]] w
      fun e w' => e = .returned (.bool (m.rot i (f : Int) mask).2) ∧ DAt w' p g c (m.rot i (f : Int) mask).1 ∧ Keeps (PG p g) w w' := by
  have C := own_any p g c m i w h hl hi
  unfold ownV at C
  rcases hs : isS m.b i with _ | _
  · rw [hs, if_neg (by decide)] at C
    rw [rot_no hs]
    refine (change_r_none _ i x y w C).mono ?_
    rintro e w' ⟨rfl, rfl⟩
    exact ⟨rfl, h, .refl _ _⟩
  · rw [hs, if_pos rfl] at C
    rw [rot_on hs]
    obtain ⟨h1, h2⟩ := isS_fit hs
    obtain ⟨j, rfl⟩ := Int.eq_ofNat_of_zero_le h2
    rw [Int.toNat_natCast] at C h1 ⊢
    exact change_r_some _ _ x y g (64 * j) w true (fun w w' => DAt w' p g c ⟨setS m.b j (turn (sect m.b j) f mask), m.left, m.dead⟩ ∧ Keeps (PG p g) w w') C (rot1_any p g c x y m j f mask w h h1 hl hf hm hx hy)

theorem rot_any (p g c : Nat) (m : Dk) (i bit : Int) (mask : Nat) (w : World) (h : DAt w p g c m) (hl : m.b.length ≤ 32768) (hi : -9223372036854775808 ≤ i ∧ i ≤ 9223372036854775807) (hbit : -9223372036854775808 ≤ bit ∧ bit ≤ 9223372036854775807) (hm : mask < 4294967296) :
    Calls Try.prog 14 #[.pointer (some ⟨p, 0, none⟩), .int .i64 i, .int .i64 bit, .int .u32 (mask : Nat)] w fun e w' =>
      e = .returned (.bool (m.rot i bit mask).2) ∧ DAt w' p g c (m.rot i bit mask).1 ∧ Keeps (PG p g) w w' := by
  have hb : Below w.heap.size w ((w.alloc (.cells #[.int .i64 bit] 3)).alloc (.cells #[.int .u32 (mask : Nat)] 29)) := bstep (balloc w _) (balloc _ _)
  have HD := Lib.hid (h.below hb); have HB := Lib.hid hb
  by_cases h0 : bit < 0
  · rw [rot_neg h0]
    clear h hb
    go_enter Try.func14, Try.ntmps14
    go_wp2
    go_ret
    exact ⟨rfl, HD.out, .of_below _ HB.out⟩
  · obtain ⟨f, rfl⟩ := Int.eq_ofNat_of_zero_le (show 0 ≤ bit by omega)
    have hy : ((w.alloc (.cells #[.int .i64 (f : Nat)] 3)).alloc (.cells #[.int .u32 (mask : Nat)] 29)).cell? ⟨w.heap.size, 0, none⟩ = some (.int .i64 (f : Nat)) := by
      rw [World.cell?_of_block (w := w.alloc (.cells #[.int .i64 (f : Nat)] 3)) ((Below.heap_alloc _ _ _ (by simp)))]; simp
    have hx : ((w.alloc (.cells #[.int .i64 (f : Nat)] 3)).alloc (.cells #[.int .u32 (mask : Nat)] 29)).cell? ⟨w.heap.size + 1, 0, none⟩ = some (.int .u32 (mask : Nat)) := by
      have hz : (w.alloc (.cells #[.int .i64 (f : Nat)] 3)).heap.size = w.heap.size + 1 := by simp
      rw [← hz]; simp
    have HX := Lib.hid hx; have HY := Lib.hid hy
    clear h hb hx hy
    go_enter Try.func14, Try.ntmps14
    go_wp2_with fail
    refine (change_rot p g c _ _ m i f mask _ HD.out hl hi (by omega) hm HY.out HX.out).mono ?_
    rintro e w2 ⟨rfl, hd, hq⟩
    have HD3 := Lib.hid hd; have HQ := Lib.hid hq
    clear hd hq
    go_wp2
    go_ret
    exact ⟨rfl, HD3.out, (Keeps.of_below _ HB.out).trans HQ.out⟩

/-! calls of none -/
theorem write_none (i : Int) (A : Option Addr) (n cl : Nat) (w : World) (hn : n ≤ 9223372036854775807) :
    Calls Try.prog 10 #[.pointer none, .int .i64 i, .slice A n cl] w fun e w' => e = .returned (.bool false) ∧ Below w.heap.size w w' := by
  have hb : Below w.heap.size w ((w.alloc (.cells #[.pointer none] 25)).alloc (.cells #[.slice A n cl] 30)) := bstep (balloc w _) (balloc _ _)
  have hy : ((w.alloc (.cells #[.pointer none] 25)).alloc (.cells #[.slice A n cl] 30)).cell? ⟨w.heap.size, 0, none⟩ = some (.pointer none) := by
    rw [World.cell?_of_block (w := w.alloc (.cells #[.pointer none] 25)) ((Below.heap_alloc _ _ _ (by simp)))]; simp
  have hx : ((w.alloc (.cells #[.pointer none] 25)).alloc (.cells #[.slice A n cl] 30)).cell? ⟨w.heap.size + 1, 0, none⟩ = some (.slice A n cl) := by
    have hz : (w.alloc (.cells #[.pointer none] 25)).heap.size = w.heap.size + 1 := by simp
    rw [← hz]; simp
  have hfx : ((w.alloc (.cells #[.pointer none] 25)).alloc (.cells #[.slice A n cl] 30)).frozen? ⟨w.heap.size + 1, 0, none⟩ = false := by
    have hz : (w.alloc (.cells #[.pointer none] 25)).heap.size = w.heap.size + 1 := by simp
    rw [← hz]; simp
  have HB := Lib.hid hb; have HX := Lib.hid hx; have HY := Lib.hid hy; have HFX := Lib.hid hfx
  clear hb hx hy hfx
  by_cases h0 : n = 0
  · subst h0
    go_enter Try.func10, Try.ntmps10
    go_wp2_with fail
    refine (zero_at _).mono ?_
    rintro e w1 ⟨X, d, rfl, g1, g2, g3, hb1, hn1⟩
    have hx1 := (hb1.cell (p := ⟨w.heap.size + 1, 0, none⟩) (cell_lt HX.out)).trans HX.out
    have hy1 := (hb1.cell (p := ⟨w.heap.size, 0, none⟩) (cell_lt HY.out)).trans HY.out
    have hf1 : w1.frozen? ⟨w.heap.size + 1, 0, none⟩ = false := (World.frozen?_of_block (hb1.block _ (cell_lt HX.out))).trans HFX.out
    have hbw := HB.out.trans (hb1.mono HB.out.size)
    have HB2 : Hid (Below w.heap.size w (w1.setCell ⟨w.heap.size + 1, 0, none⟩ (.slice X 64 d))) := Lib.hid (hbw.setCell (p := ⟨w.heap.size + 1, 0, none⟩) (Nat.le_succ _) _)
    have hk : Keeps (fun k => k = w.heap.size + 1) w1 (w1.setCell ⟨w.heap.size + 1, 0, none⟩ (.slice X 64 d)) := .set _ _ _ _ rfl
    have hy2 := hk.cell hy1 (by show ¬ w.heap.size = w.heap.size + 1; omega)
    clear g3 hb1 hn1 hy1 hbw hk HX HY HFX HB
    go_wp2_with fail
    refine (change_w_none _ i _ _ _ (own_nil i _)).mono ?_
    rintro e w2 ⟨rfl, rfl⟩
    go_wp2
    go_ret
    exact ⟨rfl, HB2.out⟩
  · have q : ((n : Int) == 0) = false := by rw [beq_eq_false_iff_ne]; omega
    go_enter Try.func10, Try.ntmps10
    go_wp2_with fail
    refine (change_w_none _ i _ _ _ (own_nil i _)).mono ?_
    rintro e w2 ⟨rfl, rfl⟩
    go_wp2
    go_ret
    exact ⟨rfl, HB.out⟩
theorem rot_none (i bit mask : Int) (w : World) :
    Calls Try.prog 14 #[.pointer none, .int .i64 i, .int .i64 bit, .int .u32 mask] w fun e w' => e = .returned (.bool false) ∧ Below w.heap.size w w' := by
  have hb : Below w.heap.size w ((w.alloc (.cells #[.int .i64 bit] 3)).alloc (.cells #[.int .u32 mask] 29)) := bstep (balloc w _) (balloc _ _)
  have HB := Lib.hid hb
  clear hb
  by_cases h0 : bit < 0
  · go_enter Try.func14, Try.ntmps14
    go_wp2
    go_ret
    exact ⟨rfl, HB.out⟩
  · go_enter Try.func14, Try.ntmps14
    go_wp2_with fail
    refine (change_r_none _ i _ _ _ (own_nil i _)).mono ?_
    rintro e w2 ⟨rfl, rfl⟩
    go_wp2
    go_ret
    exact ⟨rfl, HB.out⟩
theorem wipe_none (w : World) : Calls Try.prog 16 #[.pointer none] w fun e w' => e = .returned (.tuple #[]) ∧ w = w' := by
  go_enter Try.func16, Try.ntmps16
  go_wp2
  refine bodyPost_ret (results_none rfl _ _ _) rfl ?_
  exact ⟨rfl, rfl⟩
theorem image_none (w : World) : Calls Try.prog 22 #[.pointer none] w fun e w' => e = .returned (.slice none 0 0) ∧ w = w' := by
  go_enter Try.func22, Try.ntmps22
  go_wp2
  go_ret
  exact ⟨rfl, rfl⟩
theorem copy_none (w : World) : Calls Try.prog 23 #[.pointer none] w fun e w' => e = .returned (.pointer none) ∧ w = w' := by
  go_enter Try.func23, Try.ntmps23
  go_wp2
  go_ret
  exact ⟨rfl, rfl⟩

/-! what is told of the bytes: copies -/
/-- bytes of the call's own -/
def RetOwn (w : World) (l : List UInt8) (e : Ending) (w' : World) : Prop := ∃ v, e = .returned v ∧ Own w' w.heap.size v l ∧ Below w.heap.size w w'
theorem clone_own (A : Option Addr) (l : List UInt8) (c : Nat) (w : World) (h : BytesAt w A l) (hl : l.length ≤ 1099511627) :
    Calls Try.prog 34 #[.slice A l.length c] w (RetOwn w l) := by
  rcases A with _ | a
  · have h0 : l = [] := by
      rcases l with _ | ⟨x, l⟩
      · rfl
      · obtain ⟨b, o, e, _⟩ := h 0 (by simp); cases e
    subst h0
    have he := fun w => Lib.run_eql_slice_nil (P := Try.prog) w 30 5 none 0 c 0 0 Try.underlying30
    go_enter Try.func34, Try.ntmps34
    go_wp2
    go_ret
    exact ⟨_, rfl, Own.nil _ _, Below.refl _ _⟩
  · have H := Lib.hid h
    clear h
    have he := fun w => Lib.run_eql_slice_nil (P := Try.prog) w 30 5 (some a) l.length c 0 0 Try.underlying30
    go_enter Try.func34, Try.ntmps34
    go_wp2_with (at_builtin; refine wpList_append_bytes rfl _ _ rfl w.heap.size (.slice (some ⟨w.heap.size, 0, none⟩) 0 0) [] l rfl (Own.empty w _ (Nat.le_refl _)) (some a) l.length c rfl rfl (H.out.alloc _) (by simp; omega) (by simp) ?_; intro v1 w1 hown1 hb1; have hb1 : Below w.heap.size w w1 := (balloc w _).trans hb1; have HO := Lib.hid hown1; clear hown1)
    go_ret
    exact ⟨_, rfl, HO.out, hb1⟩
theorem image_any (p g c : Nat) (m : Dk) (w : World) (h : DAt w p g c m) (hl : m.b.length ≤ 32768) :
    Calls Try.prog 22 #[.pointer (some ⟨p, 0, none⟩)] w (RetOwn w m.b) := by
  have C := clone_own (some ⟨g, 0, none⟩) m.b c w h.bytes (by omega)
  have c0 := h.c0
  clear h
  go_enter Try.func22, Try.ntmps22
  go_wp2_with fail
  refine C.mono ?_
  rintro e w1 ⟨v, rfl, ho, hb⟩
  have HO := Lib.hid ho
  clear ho
  go_wp2
  go_ret
  exact ⟨v, rfl, HO.out, hb⟩
theorem read_any (p g c : Nat) (m : Dk) (i : Int) (w : World) (h : DAt w p g c m) (hl : m.b.length ≤ 32768) (hi : -9223372036854775808 ≤ i ∧ i ≤ 9223372036854775807) :
    Calls Try.prog 18 #[.pointer (some ⟨p, 0, none⟩), .int .i64 i] w (RetOwn w (m.read i)) := by
  have C := own_any p g c m i w h hl hi
  unfold ownV at C
  unfold Dk.read
  have hC : ∃ A n d, (if isS m.b i then Value.slice (some ⟨g, 64 * i.toNat, none⟩) 64 64 else .slice none 0 0) = .slice A n d ∧ Calls Try.prog 34 #[.slice A n d] w (RetOwn w (if isS m.b i then sect m.b i.toNat else [])) := by
    rcases hs : isS m.b i with _ | _
    · exact ⟨none, 0, 0, rfl, clone_own none [] 0 w (BytesAt.nil _ _) (by simp)⟩
    · obtain ⟨h1, h2⟩ := isS_fit hs
      have hsl := sect_len m.b i.toNat h1
      refine ⟨some ⟨g, 64 * i.toNat, none⟩, 64, 64, rfl, ?_⟩
      have hB : BytesAt w (some ⟨g, 64 * i.toNat, none⟩) (sect m.b i.toNat) := by
        have := (h.bytes.drop (64 * i.toNat)).take 64
        rw [Nat.zero_add] at this
        exact this
      have := clone_own (some ⟨g, 64 * i.toNat, none⟩) (sect m.b i.toNat) 64 w hB (by omega)
      rw [hsl] at this
      exact this
  obtain ⟨A, n, d, e, hC⟩ := hC
  rw [e] at C
  generalize (if isS m.b i then sect m.b i.toNat else []) = L at *
  clear h e
  go_enter Try.func18, Try.ntmps18
  go_wp2_with fail
  refine C.mono ?_
  rintro e w1 ⟨rfl, rfl⟩
  go_wp2_with fail
  refine hC.mono ?_
  rintro e w1 ⟨v, rfl, ho, hb⟩
  have HO := Lib.hid ho
  clear ho
  go_wp2
  go_ret
  exact ⟨v, rfl, HO.out, hb⟩
theorem read_none (i : Int) (w : World) : Calls Try.prog 18 #[.pointer none, .int .i64 i] w (RetOwn w []) := by
  have hC := clone_own none [] 0 w (BytesAt.nil _ _) (by simp)
  go_enter Try.func18, Try.ntmps18
  go_wp2_with fail
  refine (own_nil i w).mono ?_
  rintro e w1 ⟨rfl, rfl⟩
  go_wp2_with fail
  refine hC.mono ?_
  rintro e w1 ⟨v, rfl, ho, hb⟩
  have HO := Lib.hid ho
  clear ho
  go_wp2
  go_ret
  exact ⟨v, rfl, HO.out, hb⟩
end Go.Proofs.Yteiemkaeeghhhaa.Disk
