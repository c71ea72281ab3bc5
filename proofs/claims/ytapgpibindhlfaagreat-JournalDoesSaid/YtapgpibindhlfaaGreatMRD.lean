/- merged: R16, R16B -/
import Derived.Test.YtapgpibindhlfaaGreatMDK

/- the document's own answers of layer 16 -/
set_option maxRecDepth 100000
namespace Go.Proofs.YtapgpibindhlfaaGreat.R16
open Go.RowKit DiskM CrcM Disk

theorem is_any (p g c : Nat) (m : Dk) (i : Int) (w : World) (h : DAt w p g c m) (hl : m.b.length ≤ 32768) :
    Calls Tryz.prog 37 #[.pointer (some ⟨p, 0, none⟩), .int .i64 i] w fun e w' => e = .returned (.bool (isS m.b i)) ∧ w = w' := by
  have hiff : isS m.b i = decide (0 ≤ i ∧ i < ((m.b.length / 64 : Nat) : Int)) := rfl
  have c0 := h.c0
  have hq : ((m.b.length : Nat) : Int).tdiv 64 = ((m.b.length / 64 : Nat) : Int) := rfl
  have hs : m.b.length / 64 ≤ 512 := by omega
  generalize isS m.b i = r at *
  generalize m.b.length / 64 = s at *
  generalize m.b.length = n at *
  clear h
  by_cases h0 : 0 ≤ i
  · have q : decide (i < (s : Int)) = r := by
      rw [hiff, decide_eq_decide]; omega
    clear hiff
    go_enter Tryz.func37, Tryz.ntmps37
    go_wp2
    go_ret
    exact ⟨rfl, rfl⟩
  · rw [decide_eq_false (by omega)] at hiff
    subst hiff
    go_enter Tryz.func37, Tryz.ntmps37
    go_wp2
    go_ret
    exact ⟨rfl, rfl⟩
theorem power_any (p g c : Nat) (m : Dk) (n : Int) (w : World) (h : DAt w p g c m) :
    Calls Tryz.prog 9 #[.pointer (some ⟨p, 0, none⟩), .int .i64 n] w fun e w' => e = .returned (.tuple #[]) ∧ DAt w' p g c (m.power n) ∧ Keeps (fun k => k = p) w w' := by
  obtain ⟨z, hz⟩ : ∃ z, z = if n < 0 then (-1 : Int) else n := ⟨_, rfl⟩
  have hm : m.power n = ⟨m.b, z, false⟩ := by rw [hz]; rfl
  rw [hm]
  have hr := (h.setLeft z).setDead false
  have hk := (keeps_left w p 1 (.int .i64 z)).trans (keeps_left _ p 2 (.bool false))
  have HR := Lib.hid hr; have HK := Lib.hid hk
  have c1 := h.c1; have c2 := h.c2; have f1 := h.f1; have f2 := h.f2
  generalize m.dead = d at *
  generalize m.left = z0 at *
  clear h hr hk hm
  by_cases h0 : n < 0
  · rw [if_pos h0] at hz
    subst hz
    go_enter Tryz.func9, Tryz.ntmps9
    go_wp2
    go_end0
    exact ⟨rfl, HR.out, HK.out⟩
  · rw [if_neg h0] at hz
    subst hz
    go_enter Tryz.func9, Tryz.ntmps9
    go_wp2
    go_end0
    exact ⟨rfl, HR.out, HK.out⟩
/-- a disk that the call has made -/
def RetDisk (w : World) (m : Dk) (e : Ending) (w' : World) : Prop := ∃ p g c, e = .returned (.pointer (some ⟨p, 0, none⟩)) ∧ DAt w' p g c m ∧ w.heap.size ≤ p ∧ w.heap.size ≤ g ∧ Below w.heap.size w w'
theorem new_any (n : Int) (w : World) (hn : -9223372036854775808 ≤ n ∧ n ≤ 9223372036854775807) :
    Calls Tryz.prog 22 #[.int .i64 n] w (RetDisk w (new_ n)) := by
  obtain ⟨s, hs⟩ : ∃ s, s = size n := ⟨_, rfl⟩
  have hr := size_range n
  have hnew : new_ n = ⟨SecM.noughts (64 * s), -1, false⟩ := by rw [hs]; rfl
  rw [hnew]
  rw [← hs] at hr
  have hu : s = if n < 1 then 1 else if 512 < n then 512 else n.toNat := hs
  obtain ⟨x, hx⟩ : ∃ x, x = 64 * s := ⟨_, rfl⟩
  rw [← hx]
  have hmk := fun W => make_u8 x (by omega) W
  have HN := Lib.hid (new_at w x (by omega) (-1) 43)
  by_cases h1 : n < 1
  · rw [if_pos h1] at hu
    have hx' : x = 64 := by omega
    have hmk2 : ∀ W : World, (Instr.makeSlice 32 (.int .i64 64) (.int .i64 64)).run Tryz.prog W = .ok (.slice (some ⟨W.heap.size, 0, none⟩) x x) (W.alloc (.cells (cells (List.replicate x 0)) 5)) := fun W => by subst hx'; exact make_u8 64 (by omega) W
    clear hs hnew hu hr hx' hx hmk
    go_enter Tryz.func22, Tryz.ntmps22
    go_wp2
    go_ret
    exact ⟨w.heap.size + 1, w.heap.size, _, rfl, HN.out, Nat.le_succ _, Nat.le_refl _, bstep (balloc w _) (balloc _ _)⟩
  by_cases h2 : 512 < n
  · rw [if_neg h1, if_pos h2] at hu
    have hx' : x = 32768 := by omega
    have hmk2 : ∀ W : World, (Instr.makeSlice 32 (.int .i64 32768) (.int .i64 32768)).run Tryz.prog W = .ok (.slice (some ⟨W.heap.size, 0, none⟩) x x) (W.alloc (.cells (cells (List.replicate x 0)) 5)) := fun W => by subst hx'; exact make_u8 32768 (by omega) W
    clear hs hnew hu hr hx' hx hmk
    go_enter Tryz.func22, Tryz.ntmps22
    go_wp2
    go_ret
    exact ⟨w.heap.size + 1, w.heap.size, _, rfl, HN.out, Nat.le_succ _, Nat.le_refl _, bstep (balloc w _) (balloc _ _)⟩
  rw [if_neg h1, if_neg h2] at hu
  have hns : n = (s : Int) := by omega
  have i1 : IntKind.i64.wrap (64 * (s : Int)) = (x : Int) := by rw [IntWalk.i64_in _ (by omega)]; omega
  subst hns
  clear hs hnew hu hx
  go_enter Tryz.func22, Tryz.ntmps22
  go_wp2
  go_ret
  exact ⟨w.heap.size + 1, w.heap.size, _, rfl, HN.out, Nat.le_succ _, Nat.le_refl _, bstep (balloc w _) (balloc _ _)⟩
theorem read_any (p g c : Nat) (m : Dk) (i : Int) (w : World) (h : DAt w p g c m) (hl : m.b.length ≤ 32768) :
    Calls Tryz.prog 38 #[.pointer (some ⟨p, 0, none⟩), .int .i64 i] w (RetNew w (m.read i)) := by
  have C := is_any p g c m i w h hl
  unfold Dk.read
  rcases hs : isS m.b i with _ | _
  · rw [hs] at C
    rw [if_neg (by decide)]
    clear h
    go_enter Tryz.func38, Tryz.ntmps38
    go_wp2_with fail
    refine C.mono ?_
    rintro e w1 ⟨rfl, rfl⟩
    go_wp2
    go_ret
    exact RetNew.of_nil (Below.refl _ _)
  · rw [hs] at C
    rw [if_pos rfl]
    obtain ⟨h1, h2⟩ := isS_fit hs
    obtain ⟨j, rfl⟩ := Int.eq_ofNat_of_zero_le h2
    rw [Int.toNat_natCast] at h1 ⊢
    have hsl := sect_len m.b j h1
    have hB : BytesAt w (some ⟨g, 64 * j, none⟩) (sect m.b j) := by
      have := (h.bytes.drop (64 * j)).take 64
      rw [Nat.zero_add] at this
      exact this
    have c0 := h.c0
    have hpl := h.lt.1
    have hcap := h.cap
    generalize sect m.b j = L at *
    generalize m.b.length = n at *
    unfold maxLen at hcap
    obtain ⟨x, hx⟩ : ∃ x, x = 64 * j := ⟨_, rfl⟩
    rw [← hx] at hB h1
    have i1 : IntKind.i64.wrap (64 * (j : Int)) = (x : Int) := by rw [IntWalk.i64_in _ (by omega)]; omega
    obtain ⟨y, hy⟩ : ∃ y, y = x + 64 := ⟨_, rfl⟩
    have i2 : IntKind.i64.wrap ((x : Int) + 64) = (y : Int) := by rw [IntWalk.i64_in _ (by omega)]; omega
    have j1 : x ≤ y := by omega
    have j2 : y ≤ c := by omega
    have j3 : y - x = 64 := by omega
    have j4 : ¬ c = x := by omega
    have j5 : y ≤ n := by omega
    have HB := Lib.hid hB; have HL := Lib.hid hsl
    clear h hB hsl hx hy hs
    go_enter Tryz.func38, Tryz.ntmps38
    go_wp2_with fail
    refine C.mono ?_
    rintro e w1 ⟨rfl, rfl⟩
    go_wp2_with (at_builtin; refine wpList_append_bytes rfl (.tmp 9) (.tmp 19) rfl w.heap.size (.slice (some ⟨w.heap.size, 0, none⟩) 0 0) [] L rfl (Own.empty w _ (Nat.le_refl _)) (some ⟨g, x, none⟩) 64 (c - x) rfl HL.out.symm (HB.out.alloc _) (by rw [HL.out]; decide) (by simp) ?_; intro v1 w2 hown1 hb2; have hb2 : Below w.heap.size w w2 := (balloc w _).trans hb2; have HO := Lib.hid hown1; clear hown1)
    go_ret
    exact RetNew.of_own HO.out hb2

/-- a sector, its first bytes new -/
def mid (l s : List UInt8) (k : Nat) : List UInt8 := l.take k ++ s.drop k
theorem mid_len (l s : List UInt8) (hl : l.length = 64) (hs : s.length = 64) (k : Nat) (hk : k ≤ 64) : (mid l s k).length = 64 := by
  unfold mid; rw [List.length_append, List.length_take, List.length_drop]; omega
theorem mid_set (l s : List UInt8) (hl : l.length = 64) (hs : s.length = 64) (k : Nat) (hk : k < 64) : (mid l s k).set k (l[k]'(by omega)) = mid l s (k + 1) := by
  unfold mid
  have h1 : (l.take k).length = k := by rw [List.length_take]; omega
  rw [List.set_append_right _ _ (by omega), h1, Nat.sub_self, List.take_succ_eq_append_getElem (by omega : k < l.length), List.append_assoc]
  have h2 : s.drop k = s[k]'(by omega) :: s.drop (k + 1) := (List.drop_eq_getElem_cons (by omega))
  rw [h2]; rfl
set_option maxHeartbeats 1000000 in
theorem set_any (p g c : Nat) (m : Dk) (i : Nat) (A : Option Addr) (l : List UInt8) (cl : Nat) (w : World) (h : DAt w p g c m) (hi : 64 * i + 64 ≤ m.b.length) (hl : m.b.length ≤ 32768) (hA : BytesAt w A l) (h64 : l.length = 64) (hAg : ∀ a, A = some a → a.block ≠ g) :
    Calls Tryz.prog 49 #[.pointer (some ⟨p, 0, none⟩), .int .i64 (i : Nat), .slice A 64 cl] w fun e w' => e = .returned (.tuple #[]) ∧ DAt w' p g c ⟨setS m.b i l, m.left, m.dead⟩ ∧ Keeps (fun k => k = g) w w' := by
  obtain ⟨s, hs⟩ : ∃ s, s = sect m.b i := ⟨_, rfl⟩
  have hsl : s.length = 64 := by rw [hs, sect_len _ _ hi]
  have h0 : DAt w p g c ⟨setS m.b i (mid l s 0), m.left, m.dead⟩ := by
    have e : setS m.b i (mid l s 0) = m.b := by rw [hs]; exact setS_self _ _ hi
    rw [e]; exact h
  have he : mid l s 64 = l := by unfold mid; rw [List.take_of_length_le (by omega), List.drop_eq_nil_of_le (by omega), List.append_nil]
  have HSL : Hid (∀ k, k ≤ 64 → (setS m.b i (mid l s k)).length = m.b.length) := Lib.hid (fun k hk => setS_len _ _ _ hi (mid_len l s h64 hsl k hk))
  have HS : Hid (∀ k, k < 64 → (setS m.b i (mid l s k)).set (64 * i + k) (l.getD k 0) = setS m.b i (mid l s (k + 1))) := Lib.hid (fun k hk => by rw [← List.getElem_eq_getD (h := by rw [h64]; exact hk), setS_set _ _ _ _ _ hi (mid_len l s h64 hsl k (by omega)) hk, mid_set l s h64 hsl k hk])
  have H0 := Lib.hid h0; have HE := Lib.hid he; have HA := Lib.hid hA; have HG := Lib.hid hAg; have HI := Lib.hid hi
  have H6 := Lib.hid h64
  have hi5 : i ≤ 512 := by omega
  clear h h0 he hs hsl hA hAg
  go_enter Tryz.func49, Tryz.ntmps49
  go_wp2
  go_loopw [6] (fun b wr => ∃ k : Nat, k ≤ 64 ∧ b = .int .i64 (k : Nat) ∧ DAt wr p g c ⟨setS m.b i (mid l s k), m.left, m.dead⟩ ∧ Keeps (fun k => k = g) w wr)
    (fun b _ => 64 - (intOf b).toNat)
  case atStart => exact ⟨0, by omega, rfl, H0.out, .refl _ _⟩
  case round =>
    obtain ⟨k, hk, rfl, hd, hq⟩ := hrel
    rename World => wr
    have HD := Lib.hid hd; have HQ := Lib.hid hq
    by_cases hlt : k < 64
    · have c0 := hd.c0
      simp only at c0
      rw [HSL.out k hk] at c0
      have hBA := hq.bytes' HA.out (fun _ a e => HG.out a e)
      obtain ⟨b, o, rfl, hcb⟩ := hBA k (by rw [H6.out]; exact hlt)
      obtain ⟨g', c', hv, _, hgl, hcell, hfr, hset⟩ := hd.own.place (i := 64 * i + k) (by show 64 * i + k < (setS m.b i (mid l s k)).length; rw [HSL.out k hk]; have := HI.out; omega)
      injection hv with hv _ hv3
      injection hv with hv; injection hv with hv
      subst hv
      obtain ⟨u, hu⟩ : ∃ u, wr.cell? ⟨g, 64 * i + k, none⟩ = some u := ⟨_, hcell⟩
      clear hv3 c' hcell
      have hsx := HS.out k hlt
      rw [List.getElem_eq_getD 0] at hcb
      obtain ⟨y, hy⟩ : ∃ y, y = l.getD k 0 := ⟨_, rfl⟩
      rw [← hy] at hsx hcb
      obtain ⟨x, hx⟩ : ∃ x, x = 64 * i := ⟨_, rfl⟩
      rw [← hx] at hu hfr hset hsx
      obtain ⟨xk, hxk⟩ : ∃ xk, xk = x + k := ⟨_, rfl⟩
      rw [← hxk] at hu hfr hset hsx
      have HSET : Hid (DAt (wr.setCell ⟨g, xk, none⟩ (.int .u8 (y.toNat : Nat))) p g c ⟨setS m.b i (mid l s (k + 1)), m.left, m.dead⟩) := Lib.hid (by
        have ho := hset 0 y
        simp only at ho
        rw [hsx] at ho
        exact HD.out.turned (w' := wr.setCell ⟨g, xk, none⟩ (.int .u8 (y.toNat : Nat))) (.set _ _ _ _ rfl) (by rw [HSL.out _ (by omega), HSL.out _ hk]) ho)
      have HK : Hid (Keeps (fun k => k = g) w (wr.setCell ⟨g, xk, none⟩ (.int .u8 (y.toNat : Nat)))) := Lib.hid (HQ.out.trans (.set _ _ _ _ rfl))
      have i1 : IntKind.i64.wrap (64 * (i : Int)) = (x : Int) := by rw [IntWalk.i64_in _ (by omega)]; omega
      have i2 : IntKind.i64.wrap ((x : Int) + (k : Int)) = (xk : Int) := by rw [IntWalk.i64_in _ (by omega)]; omega
      have j1 : xk < m.b.length := by have := HI.out; omega
      generalize m.b.length = n at *
      clear hd hq hset hsx hx hxk hy hBA h64
      go_wp2_with fail
      go_region
      all_goals
        go_wp2
        go_roundw
        case rel => exact ⟨k + 1, by omega, by go_num, HSET.out.below (bdraw _ 1), HK.out.trans (.draw _ _ 1)⟩
        case measure => simp [intOf] <;> omega
    · obtain rfl : k = 64 := by omega
      have HD2 := Lib.hid hd
      rw [HE.out] at HD2
      clear hd hq
      go_wp2
      go_end0
      exact ⟨rfl, HD2.out, HQ.out⟩
end Go.Proofs.YtapgpibindhlfaaGreat.R16

/- the document's own answers of layer 16: Write, Rot -/
set_option maxRecDepth 100000
namespace Go.Proofs.YtapgpibindhlfaaGreat.R16
open Go.RowKit DiskM CrcM Disk

theorem write_dead {m : Dk} {i : Int} {d : List UInt8} (h : isS m.b i = true) (hd : okD d = true) (hz : m.off = true) : m.write i d = (⟨m.b, m.left, true⟩, false) := by
  unfold Dk.write Dk.may; rw [h, hd, hz]; rfl
theorem write_goes {m : Dk} {i : Int} {d : List UInt8} (h : isS m.b i = true) (hd : okD d = true) (hz : m.left ≠ 0) (hdd : m.dead = false) : m.write i d = (⟨setS m.b i.toNat (DiskM.full d), if 0 < m.left then m.left - 1 else m.left, false⟩, true) := by
  have hf : m.off = false := by unfold Dk.off; rw [decide_eq_false hz, hdd]; rfl
  unfold Dk.write Dk.may; rw [h, hd, hf]; rfl
theorem write_zero (p g c : Nat) (m : Dk) (i : Int) (A : Option Addr) (cl : Nat) (w : World) (h : DAt w p g c m) (hl : m.b.length ≤ 32768) (hz : -9223372036854775808 ≤ m.left ∧ m.left ≤ 9223372036854775807) :
    Calls Tryz.prog 24 #[.pointer (some ⟨p, 0, none⟩), .int .i64 i, .slice A 0 cl] w fun e w' => e = .returned (.bool (m.write i []).2) ∧ DAt w' p g c (m.write i []).1 ∧ Keeps (PG p g) w w' := by
  have C := is_any p g c m i w h hl
  have HD := Lib.hid h
  have hok : okD [] = true := decide_eq_true (.inl rfl)
  rcases hs : isS m.b i with _ | _
  · rw [hs] at C
    rw [write_no hs]
    clear h hok
    go_enter Tryz.func24, Tryz.ntmps24
    go_wp2_with fail
    refine C.mono ?_
    rintro e w1 ⟨rfl, rfl⟩
    go_wp2
    go_ret
    exact ⟨rfl, HD.out, .refl _ _⟩
  rw [hs] at C
  have c1 := h.c1; have c2 := h.c2; have f1 := h.f1; have f2 := h.f2
  by_cases hz0 : m.left = 0
  · rw [write_dead hs hok (by unfold Dk.off; rw [decide_eq_true hz0]; rfl)]
    have HD2 := Lib.hid (h.setDead true)
    have HK := Lib.hid ((keeps_left w p 2 (.bool true)).mono (G := PG p g) fun k _ h => .inl h)
    rw [hz0] at c1
    clear h hok hs
    go_enter Tryz.func24, Tryz.ntmps24
    go_wp2_with fail
    refine C.mono ?_
    rintro e w1 ⟨rfl, rfl⟩
    go_wp2
    go_ret
    exact ⟨rfl, HD2.out, HK.out⟩
  rcases hdd : m.dead with _ | _
  · rw [write_goes hs hok hz0 hdd]
    rw [hdd] at c2
    obtain ⟨h1, h2⟩ := isS_fit hs
    obtain ⟨j, rfl⟩ := Int.eq_ofNat_of_zero_le h2
    rw [Int.toNat_natCast] at h1 ⊢
    have hD0 : DAt w p g c ⟨m.b, m.left, false⟩ := by rw [← hdd]; exact h
    have q0 : (m.left == 0) = false := by rw [beq_eq_false_iff_ne]; exact hz0
    by_cases hp : 0 < m.left
    · rw [if_pos hp]
      have hD1 : DAt (w.setCell ⟨p, 1, none⟩ (.int .i64 (m.left - 1))) p g c ⟨m.b, m.left - 1, false⟩ := hD0.setLeft (m.left - 1)
      have HK := Lib.hid (keeps_left w p 1 (.int .i64 (m.left - 1)))
      have i1 : IntKind.i64.wrap (m.left - 1) = m.left - 1 := IntWalk.i64_in _ (by omega)
      have hbm := balloc (w.setCell ⟨p, 1, none⟩ (.int .i64 (m.left - 1))) (.cells (cells (List.replicate 64 0)) 5)
      have hsz : (w.setCell ⟨p, 1, none⟩ (.int .i64 (m.left - 1))).heap.size = w.heap.size := by simp [World.setCell]
      have hrow : Row ((w.setCell ⟨p, 1, none⟩ (.int .i64 (m.left - 1))).alloc (.cells (cells (List.replicate 64 0)) 5)) w.heap.size (SecM.noughts 64) := by
        have := Row.new (w.setCell ⟨p, 1, none⟩ (.int .i64 (m.left - 1))) (SecM.noughts 64)
        rw [hsz] at this
        exact this
      have S := set_any p g c ⟨m.b, m.left - 1, false⟩ j (some ⟨w.heap.size, 0, none⟩) (SecM.noughts 64) 64 _ (hD1.below hbm) h1 hl hrow.bytes (SecM.noughts_len _) (fun a e => by injection e with e; subst e; have := h.lt.2; show w.heap.size ≠ g; omega)
      have HB := Lib.hid hbm
      have hfull : DiskM.full [] = SecM.noughts 64 := rfl
      rw [hfull]
      have hmk : ∀ W : World, (Instr.makeSlice 32 (.int .i64 64) (.int .i64 64)).run Tryz.prog W = .ok (.slice (some ⟨W.heap.size, 0, none⟩) 64 64) (W.alloc (.cells (cells (List.replicate 64 0)) 5)) := fun W => make_u8 64 (by omega) W
      obtain ⟨CC, hCC⟩ : ∃ CC, CC = cells (List.replicate 64 0) := ⟨_, rfl⟩
      rw [← hCC] at hmk HB S
      generalize SecM.noughts 64 = N at *
      clear hbm hrow hCC hfull hsz
      have HKK : Hid (Keeps (PG p g) w (w.setCell ⟨p, 1, none⟩ (.int .i64 (m.left - 1)))) := Lib.hid (HK.out.mono fun k _ h => .inl h)
      generalize m.left = z at *
      clear h hok hs hD0 hD1 HD
      go_enter Tryz.func24, Tryz.ntmps24
      go_wp2_with fail
      refine C.mono ?_
      rintro e w1 ⟨rfl, rfl⟩
      go_wp2_with fail
      refine S.mono ?_
      rintro e w2 ⟨rfl, hd2, hq2⟩
      have HD2 := Lib.hid hd2; have HQ := Lib.hid hq2
      clear hd2 hq2
      go_wp2
      go_ret
      exact ⟨rfl, HD2.out, HKK.out.trans ((Keeps.of_below _ HB.out).trans (HQ.out.mono fun k _ h => .inr h))⟩
    · rw [if_neg hp]
      have hD1 := hD0
      have hbm := balloc w (.cells (cells (List.replicate 64 0)) 5)
      have hsz : w.heap.size = w.heap.size := by rfl
      have hrow : Row (w.alloc (.cells (cells (List.replicate 64 0)) 5)) w.heap.size (SecM.noughts 64) := by
        have := Row.new w (SecM.noughts 64)
        rw [hsz] at this
        exact this
      have S := set_any p g c ⟨m.b, m.left, false⟩ j (some ⟨w.heap.size, 0, none⟩) (SecM.noughts 64) 64 _ (hD1.below hbm) h1 hl hrow.bytes (SecM.noughts_len _) (fun a e => by injection e with e; subst e; have := h.lt.2; show w.heap.size ≠ g; omega)
      have HB := Lib.hid hbm
      have hfull : DiskM.full [] = SecM.noughts 64 := rfl
      rw [hfull]
      have hmk : ∀ W : World, (Instr.makeSlice 32 (.int .i64 64) (.int .i64 64)).run Tryz.prog W = .ok (.slice (some ⟨W.heap.size, 0, none⟩) 64 64) (W.alloc (.cells (cells (List.replicate 64 0)) 5)) := fun W => make_u8 64 (by omega) W
      obtain ⟨CC, hCC⟩ : ∃ CC, CC = cells (List.replicate 64 0) := ⟨_, rfl⟩
      rw [← hCC] at hmk HB S
      generalize SecM.noughts 64 = N at *
      clear hbm hrow hCC hfull hsz
      have HKK : Hid (Keeps (PG p g) w w) := Lib.hid (.refl _ _)
      generalize m.left = z at *
      clear h hok hs hD0 hD1 HD
      go_enter Tryz.func24, Tryz.ntmps24
      go_wp2_with fail
      refine C.mono ?_
      rintro e w1 ⟨rfl, rfl⟩
      go_wp2_with fail
      refine S.mono ?_
      rintro e w2 ⟨rfl, hd2, hq2⟩
      have HD2 := Lib.hid hd2; have HQ := Lib.hid hq2
      clear hd2 hq2
      go_wp2
      go_ret
      exact ⟨rfl, HD2.out, HKK.out.trans ((Keeps.of_below _ HB.out).trans (HQ.out.mono fun k _ h => .inr h))⟩
  · rw [write_dead hs hok (by unfold Dk.off; rw [hdd, Bool.or_true])]
    have HD2 : Hid (DAt w p g c ⟨m.b, m.left, true⟩) := Lib.hid (by rw [← hdd]; exact h)
    rw [hdd] at c2
    have q0 : (m.left == 0) = false := by rw [beq_eq_false_iff_ne]; exact hz0
    generalize m.left = z at *
    clear h hok hs HD
    go_enter Tryz.func24, Tryz.ntmps24
    go_wp2_with fail
    refine C.mono ?_
    rintro e w1 ⟨rfl, rfl⟩
    go_wp2
    go_ret
    exact ⟨rfl, HD2.out, .refl _ _⟩
theorem write_full (p g c : Nat) (m : Dk) (i : Int) (A : Option Addr) (l : List UInt8) (cl : Nat) (w : World) (h : DAt w p g c m) (hl : m.b.length ≤ 32768) (hz : -9223372036854775808 ≤ m.left ∧ m.left ≤ 9223372036854775807) (hA : BytesAt w A l) (hAp : ∀ a, A = some a → a.block ≠ p ∧ a.block ≠ g) (h64 : l.length = 64) :
    Calls Tryz.prog 24 #[.pointer (some ⟨p, 0, none⟩), .int .i64 i, .slice A 64 cl] w fun e w' => e = .returned (.bool (m.write i l).2) ∧ DAt w' p g c (m.write i l).1 ∧ Keeps (PG p g) w w' := by
  have C := is_any p g c m i w h hl
  have HD := Lib.hid h
  have hok : okD l = true := decide_eq_true (.inr h64)
  rcases hs : isS m.b i with _ | _
  · rw [hs] at C
    rw [write_no hs]
    clear h hok
    go_enter Tryz.func24, Tryz.ntmps24
    go_wp2_with fail
    refine C.mono ?_
    rintro e w1 ⟨rfl, rfl⟩
    go_wp2
    go_ret
    exact ⟨rfl, HD.out, .refl _ _⟩
  rw [hs] at C
  have c1 := h.c1; have c2 := h.c2; have f1 := h.f1; have f2 := h.f2
  by_cases hz0 : m.left = 0
  · rw [write_dead hs hok (by unfold Dk.off; rw [decide_eq_true hz0]; rfl)]
    have HD2 := Lib.hid (h.setDead true)
    have HK := Lib.hid ((keeps_left w p 2 (.bool true)).mono (G := PG p g) fun k _ h => .inl h)
    rw [hz0] at c1
    clear h hok hs
    go_enter Tryz.func24, Tryz.ntmps24
    go_wp2_with fail
    refine C.mono ?_
    rintro e w1 ⟨rfl, rfl⟩
    go_wp2
    go_ret
    exact ⟨rfl, HD2.out, HK.out⟩
  rcases hdd : m.dead with _ | _
  · rw [write_goes hs hok hz0 hdd]
    rw [hdd] at c2
    obtain ⟨h1, h2⟩ := isS_fit hs
    obtain ⟨j, rfl⟩ := Int.eq_ofNat_of_zero_le h2
    rw [Int.toNat_natCast] at h1 ⊢
    have hD0 : DAt w p g c ⟨m.b, m.left, false⟩ := by rw [← hdd]; exact h
    have q0 : (m.left == 0) = false := by rw [beq_eq_false_iff_ne]; exact hz0
    by_cases hp : 0 < m.left
    · rw [if_pos hp]
      have hD1 : DAt (w.setCell ⟨p, 1, none⟩ (.int .i64 (m.left - 1))) p g c ⟨m.b, m.left - 1, false⟩ := hD0.setLeft (m.left - 1)
      have HK := Lib.hid (keeps_left w p 1 (.int .i64 (m.left - 1)))
      have i1 : IntKind.i64.wrap (m.left - 1) = m.left - 1 := IntWalk.i64_in _ (by omega)
      have S := set_any p g c ⟨m.b, m.left - 1, false⟩ j A l cl (w.setCell ⟨p, 1, none⟩ (.int .i64 (m.left - 1))) hD1 h1 hl (HK.out.bytes hA (fun a e => (hAp a e).1)) h64 (fun a e => (hAp a e).2)
      have hfull : DiskM.full l = l := by
        unfold DiskM.full
        rw [if_neg (fun e => by rw [e] at h64; cases h64)]
      rw [hfull]
      clear hfull
      have HKK : Hid (Keeps (PG p g) w (w.setCell ⟨p, 1, none⟩ (.int .i64 (m.left - 1)))) := Lib.hid (HK.out.mono fun k _ h => .inl h)
      generalize m.left = z at *
      clear h hok hs hD0 hD1 HD h64
      go_enter Tryz.func24, Tryz.ntmps24
      go_wp2_with fail
      refine C.mono ?_
      rintro e w1 ⟨rfl, rfl⟩
      go_wp2_with fail
      refine S.mono ?_
      rintro e w2 ⟨rfl, hd2, hq2⟩
      have HD2 := Lib.hid hd2; have HQ := Lib.hid hq2
      clear hd2 hq2
      go_wp2
      go_ret
      exact ⟨rfl, HD2.out, HKK.out.trans (HQ.out.mono fun k _ h => .inr h)⟩
    · rw [if_neg hp]
      have hD1 := hD0
      have S := set_any p g c ⟨m.b, m.left, false⟩ j A l cl w hD1 h1 hl (hA) h64 (fun a e => (hAp a e).2)
      have hfull : DiskM.full l = l := by
        unfold DiskM.full
        rw [if_neg (fun e => by rw [e] at h64; cases h64)]
      rw [hfull]
      clear hfull
      have HKK : Hid (Keeps (PG p g) w w) := Lib.hid (.refl _ _)
      generalize m.left = z at *
      clear h hok hs hD0 hD1 HD h64
      go_enter Tryz.func24, Tryz.ntmps24
      go_wp2_with fail
      refine C.mono ?_
      rintro e w1 ⟨rfl, rfl⟩
      go_wp2_with fail
      refine S.mono ?_
      rintro e w2 ⟨rfl, hd2, hq2⟩
      have HD2 := Lib.hid hd2; have HQ := Lib.hid hq2
      clear hd2 hq2
      go_wp2
      go_ret
      exact ⟨rfl, HD2.out, HKK.out.trans (HQ.out.mono fun k _ h => .inr h)⟩
  · rw [write_dead hs hok (by unfold Dk.off; rw [hdd, Bool.or_true])]
    have HD2 : Hid (DAt w p g c ⟨m.b, m.left, true⟩) := Lib.hid (by rw [← hdd]; exact h)
    rw [hdd] at c2
    have q0 : (m.left == 0) = false := by rw [beq_eq_false_iff_ne]; exact hz0
    generalize m.left = z at *
    clear h hok hs HD
    go_enter Tryz.func24, Tryz.ntmps24
    go_wp2_with fail
    refine C.mono ?_
    rintro e w1 ⟨rfl, rfl⟩
    go_wp2
    go_ret
    exact ⟨rfl, HD2.out, .refl _ _⟩
theorem write_bad (p g c : Nat) (m : Dk) (i : Int) (A : Option Addr) (l : List UInt8) (cl : Nat) (w : World) (h : DAt w p g c m) (hl : m.b.length ≤ 32768) (hok : okD l = false) (_hll : l.length ≤ maxLen) :
    Calls Tryz.prog 24 #[.pointer (some ⟨p, 0, none⟩), .int .i64 i, .slice A l.length cl] w fun e w' => e = .returned (.bool (m.write i l).2) ∧ DAt w' p g c (m.write i l).1 ∧ Keeps (PG p g) w w' := by
  have C := is_any p g c m i w h hl
  have HD := Lib.hid h
  rw [write_short hok]
  have ho := of_decide_eq_false hok
  unfold maxLen at _hll
  have q1 : ((l.length : Int) != 0) = true := by rw [bne_iff_ne]; omega
  have q2 : ((l.length : Int) != 64) = true := by rw [bne_iff_ne]; omega
  clear h hok ho
  rcases hs : isS m.b i with _ | _
  · rw [hs] at C
    go_enter Tryz.func24, Tryz.ntmps24
    go_wp2_with fail
    refine C.mono ?_
    rintro e w1 ⟨rfl, rfl⟩
    go_wp2
    go_ret
    exact ⟨rfl, HD.out, .refl _ _⟩
  · rw [hs] at C
    go_enter Tryz.func24, Tryz.ntmps24
    go_wp2_with fail
    refine C.mono ?_
    rintro e w1 ⟨rfl, rfl⟩
    go_wp2
    go_ret
    exact ⟨rfl, HD.out, .refl _ _⟩
theorem write_any (p g c : Nat) (m : Dk) (i : Int) (A : Option Addr) (l : List UInt8) (cl : Nat) (w : World) (h : DAt w p g c m) (hl : m.b.length ≤ 32768) (hz : -9223372036854775808 ≤ m.left ∧ m.left ≤ 9223372036854775807) (hA : BytesAt w A l) (hAp : 0 < l.length → ∀ a, A = some a → a.block ≠ p ∧ a.block ≠ g) (hll : l.length ≤ maxLen) :
    Calls Tryz.prog 24 #[.pointer (some ⟨p, 0, none⟩), .int .i64 i, .slice A l.length cl] w fun e w' => e = .returned (.bool (m.write i l).2) ∧ DAt w' p g c (m.write i l).1 ∧ Keeps (PG p g) w w' := by
  rcases hok : okD l with _ | _
  · exact write_bad p g c m i A l cl w h hl hok hll
  · rcases of_decide_eq_true hok with h0 | h0
    · have : l = [] := List.eq_nil_of_length_eq_zero h0
      subst this
      exact write_zero p g c m i A cl w h hl hz
    · rw [h0]
      exact write_full p g c m i A l cl w h hl hz hA (hAp (by omega)) h0

end Go.Proofs.YtapgpibindhlfaaGreat.R16
