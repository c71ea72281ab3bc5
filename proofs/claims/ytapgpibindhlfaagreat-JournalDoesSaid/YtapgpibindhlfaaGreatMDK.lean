/- merged: DiskA, DiskB, DiskC, DiskD, DiskE, DiskF -/
import Derived.Test.YtapgpibindhlfaaGreatMMA
import Derived.Test.YtapgpibindhlfaaGreatApp
import Derived.Lib.MinMax
import Derived.Lib.SliceRun
import Derived.IntWalk
import Derived.Deep.QuietTactic
import Derived.BigQuiet
import Derived.Test.YtapgpibindhlfaaGreatR05
import Derived.Test.YtapgpibindhlfaaGreatMSE
import Derived.Laws.EntriesVeiled
import Derived.Test.YtapgpibindhlfaaGreatDrawn

/- a disk in memory; package disk: New, Size, own, Dead, Power, lasts -/
set_option maxRecDepth 100000
namespace Go.Proofs.YtapgpibindhlfaaGreat.Disk
open Go.RowKit DiskM

/-- block p is a disk (or the document's), whose bytes are block g's first ones, of c -/
structure DAt (w : World) (p g c : Nat) (m : Dk) : Prop where
  c0 : w.cell? ⟨p, 0, none⟩ = some (.slice (some ⟨g, 0, none⟩) m.b.length c)
  c1 : w.cell? ⟨p, 1, none⟩ = some (.int .i64 m.left)
  c2 : w.cell? ⟨p, 2, none⟩ = some (.bool m.dead)
  f0 : w.frozen? ⟨p, 0, none⟩ = false
  f1 : w.frozen? ⟨p, 1, none⟩ = false
  f2 : w.frozen? ⟨p, 2, none⟩ = false
  own : Own w 0 (.slice (some ⟨g, 0, none⟩) m.b.length c) m.b
  ne : p ≠ g
/-- what a disk's calls write -/
def PG (p g : Nat) (k : Nat) : Prop := k = p ∨ k = g
section
variable {F : Nat → Prop} {w w' : World} {p g c : Nat} {m : Dk}
theorem DAt.keep (h : DAt w p g c m) (q : Keeps F w w') (hp : ¬ F p) (hg : ¬ F g) : DAt w' p g c m :=
  ⟨q.cell h.c0 hp, q.cell h.c1 hp, q.cell h.c2 hp, q.frozen h.c0 hp h.f0, q.frozen h.c1 hp h.f1, q.frozen h.c2 hp h.f2,
    h.own.keep q (fun k e => by simp [Value.ownBlock] at e; subst e; exact hg), h.ne⟩
theorem DAt.below (h : DAt w p g c m) (hb : Below w.heap.size w w') : DAt w' p g c m := h.keep (F := fun _ => False) (.of_below _ hb) id id
theorem DAt.lt (h : DAt w p g c m) : p < w.heap.size ∧ g < w.heap.size := ⟨cell_lt h.c0, (h.own.lt g rfl).2⟩
theorem DAt.bytes (h : DAt w p g c m) : BytesAt w (some ⟨g, 0, none⟩) m.b := by
  obtain ⟨A, d, e, _, _, h3⟩ := h.own.bytes
  injection e with e1 _ _; subst e1
  exact h3
theorem DAt.cap (h : DAt w p g c m) : m.b.length ≤ c ∧ c ≤ maxLen := by
  obtain ⟨A, d, e, h1, h2, _⟩ := h.own.bytes
  injection e with _ _ e3; subst e3
  exact ⟨h1, h2⟩
/-- another number of sectors that may be written, or it fails -/
theorem DAt.setLeft (h : DAt w p g c m) (z : Int) : DAt (w.setCell ⟨p, 1, none⟩ (.int .i64 z)) p g c ⟨m.b, z, m.dead⟩ := by
  refine ⟨?_, ?_, ?_, ?_, ?_, ?_, ?_, h.ne⟩
  · rw [cell_store h.c0]; rfl
  · rw [cell_store h.c1]; rfl
  · rw [cell_store h.c2]; rfl
  · rw [World.frozen?_setCell]; exact h.f0
  · rw [World.frozen?_setCell]; exact h.f1
  · rw [World.frozen?_setCell]; exact h.f2
  · exact h.own.keep (.set (fun k => k = p) _ _ _ rfl) (fun k e => by simp [Value.ownBlock] at e; subst e; exact fun e => h.ne e.symm)
theorem DAt.setDead (h : DAt w p g c m) (d : Bool) : DAt (w.setCell ⟨p, 2, none⟩ (.bool d)) p g c ⟨m.b, m.left, d⟩ := by
  refine ⟨?_, ?_, ?_, ?_, ?_, ?_, ?_, h.ne⟩
  · rw [cell_store h.c0]; rfl
  · rw [cell_store h.c1]; rfl
  · rw [cell_store h.c2]; rfl
  · rw [World.frozen?_setCell]; exact h.f0
  · rw [World.frozen?_setCell]; exact h.f1
  · rw [World.frozen?_setCell]; exact h.f2
  · exact h.own.keep (.set (fun k => k = p) _ _ _ rfl) (fun k e => by simp [Value.ownBlock] at e; subst e; exact fun e => h.ne e.symm)
/-- other bytes, as many -/
theorem DAt.turned (h : DAt w p g c m) (q : Keeps (fun k => k = g) w w') {b : List UInt8} (hl : b.length = m.b.length) (ho : Own w' 0 (.slice (some ⟨g, 0, none⟩) m.b.length c) b) : DAt w' p g c ⟨b, m.left, m.dead⟩ := by
  have hp : ¬ p = g := h.ne
  refine ⟨?_, q.cell h.c1 hp, q.cell h.c2 hp, q.frozen h.c0 hp h.f0, q.frozen h.c1 hp h.f1, q.frozen h.c2 hp h.f2, ?_, h.ne⟩
  · show w'.cell? ⟨p, 0, none⟩ = some (.slice (some ⟨g, 0, none⟩) b.length c)
    rw [hl]; exact q.cell h.c0 hp
  · show Own w' 0 (.slice (some ⟨g, 0, none⟩) b.length c) b
    rw [hl]; exact ho
end
theorem keeps_left (w : World) (p i : Nat) (v : Value) : Keeps (fun k => k = p) w (w.setCell ⟨p, i, none⟩ v) := .set _ _ _ _ rfl

/-! the calls -/
theorem size_any (p g c : Nat) (m : Dk) (w : World) (h : DAt w p g c m) (hl : m.b.length ≤ 32768) :
    Calls Tryz.prog 12 #[.pointer (some ⟨p, 0, none⟩)] w fun e w' => e = .returned (.int .i64 ((m.b.length / 64 : Nat) : Int)) ∧ w = w' := by
  have c0 := h.c0
  have hq : ((m.b.length : Nat) : Int).tdiv 64 = ((m.b.length / 64 : Nat) : Int) := rfl
  have hs : m.b.length / 64 ≤ 512 := by omega
  generalize m.b.length / 64 = s at *
  generalize m.b.length = n at *
  clear h
  go_enter Tryz.func12, Tryz.ntmps12
  go_wp2
  go_ret
  exact ⟨rfl, rfl⟩
theorem size_nil (w : World) : Calls Tryz.prog 12 #[.pointer none] w fun e w' => e = .returned (.int .i64 0) ∧ w = w' := by
  go_enter Tryz.func12, Tryz.ntmps12
  go_wp2
  go_ret
  exact ⟨rfl, rfl⟩
theorem power_any (p g c : Nat) (m : Dk) (n : Int) (w : World) (h : DAt w p g c m) :
    Calls Tryz.prog 8 #[.pointer (some ⟨p, 0, none⟩), .int .i64 n] w fun e w' => e = .returned (.tuple #[]) ∧ DAt w' p g c ⟨m.b, n, false⟩ ∧ Keeps (fun k => k = p) w w' := by
  have hr := (h.setLeft n).setDead false
  have hk := (keeps_left w p 1 (.int .i64 n)).trans (keeps_left _ p 2 (.bool false))
  have HR := Lib.hid hr; have HK := Lib.hid hk
  have c1 := h.c1; have c2 := h.c2; have f1 := h.f1; have f2 := h.f2
  generalize m.dead = d at *
  generalize m.left = z at *
  clear h hr hk
  go_enter Tryz.func8, Tryz.ntmps8
  go_wp2
  go_end0
  exact ⟨rfl, HR.out, HK.out⟩
theorem power_nil (n : Int) (w : World) : Calls Tryz.prog 8 #[.pointer none, .int .i64 n] w fun e w' => e = .returned (.tuple #[]) ∧ w = w' := by
  go_enter Tryz.func8, Tryz.ntmps8
  go_wp2
  refine bodyPost_ret (results_none rfl _ _ _) rfl ?_
  exact ⟨rfl, rfl⟩
/-- the bytes of a sector, where they lie -/
def ownV (g : Nat) (b : List UInt8) (i : Int) : Value := if isS b i then .slice (some ⟨g, 64 * i.toNat, none⟩) 64 64 else .slice none 0 0
theorem own_any (p g c : Nat) (m : Dk) (i : Int) (w : World) (h : DAt w p g c m) (hl : m.b.length ≤ 32768) (hi : -9223372036854775808 ≤ i ∧ i ≤ 9223372036854775807) :
    Calls Tryz.prog 46 #[.pointer (some ⟨p, 0, none⟩), .int .i64 i] w fun e w' => e = .returned (ownV g m.b i) ∧ w = w' := by
  have hS := size_any p g c m w h hl
  have hiff : isS m.b i = decide (0 ≤ i ∧ i < ((m.b.length / 64 : Nat) : Int)) := rfl
  have hq : m.b.length / 64 ≤ 512 := by omega
  have hq2 : 64 * (m.b.length / 64) ≤ m.b.length := by omega
  have hcap := h.cap
  have c0 := h.c0
  have hv : ownV g m.b i = if isS m.b i then .slice (some ⟨g, 64 * i.toNat, none⟩) 64 64 else .slice none 0 0 := rfl
  generalize ownV g m.b i = V at *
  generalize m.b.length / 64 = s at *
  generalize m.b.length = n at *
  unfold maxLen at hcap
  by_cases h0 : i < 0
  · rw [hiff, decide_eq_false (by omega), if_neg (by decide)] at hv
    subst hv
    clear h hiff
    go_enter Tryz.func46, Tryz.ntmps46
    go_wp2
    go_ret
    exact ⟨rfl, rfl⟩
  · obtain ⟨j, rfl⟩ := Int.eq_ofNat_of_zero_le (show 0 ≤ i by omega)
    by_cases h1 : s ≤ j
    · rw [hiff, decide_eq_false (by omega), if_neg (by decide)] at hv
      subst hv
      clear h hiff
      go_enter Tryz.func46, Tryz.ntmps46
      go_wp2_with fail
      refine hS.mono ?_
      rintro e w1 ⟨rfl, rfl⟩
      go_wp2
      go_ret
      exact ⟨rfl, rfl⟩
    · rw [hiff, decide_eq_true (by omega), if_pos rfl, Int.toNat_natCast] at hv
      subst hv
      have i1 : IntKind.i64.wrap ((j : Int) * 64) = ((64 * j : Nat) : Int) := by rw [IntWalk.i64_in _ (by omega)]; omega
      obtain ⟨x, hx⟩ : ∃ x, x = 64 * j := ⟨_, rfl⟩
      rw [← hx] at i1 ⊢
      have i2 : IntKind.i64.wrap ((x : Int) + 64) = ((x + 64 : Nat) : Int) := by rw [IntWalk.i64_in _ (by omega)]; rfl
      obtain ⟨y, hy⟩ : ∃ y, y = x + 64 := ⟨_, rfl⟩
      rw [← hy] at i2
      have j1 : x ≤ y := by omega
      have j2 : y ≤ c := by omega
      have j3 : y - x = 64 := by omega
      have j4 : ¬ c = x := by omega
      have j5 : ¬ y = x := by omega
      clear h hiff hx hy
      go_enter Tryz.func46, Tryz.ntmps46
      go_wp2_with fail
      refine hS.mono ?_
      rintro e w1 ⟨rfl, rfl⟩
      go_wp2
      go_ret
      exact ⟨by simp, rfl⟩
theorem own_nil (i : Int) (w : World) : Calls Tryz.prog 46 #[.pointer none, .int .i64 i] w fun e w' => e = .returned (.slice none 0 0) ∧ w = w' := by
  by_cases h0 : i < 0
  · go_enter Tryz.func46, Tryz.ntmps46
    go_wp2
    go_ret
    exact ⟨rfl, rfl⟩
  · go_enter Tryz.func46, Tryz.ntmps46
    go_wp2_with fail
    refine (size_nil w).mono ?_
    rintro e w1 ⟨rfl, rfl⟩
    go_wp2
    go_ret
    exact ⟨rfl, rfl⟩
/-- the power for one more sector is used -/
theorem lasts_any (p g c : Nat) (m : Dk) (w : World) (h : DAt w p g c m) (hz : -9223372036854775808 ≤ m.left ∧ m.left ≤ 9223372036854775807) :
    Calls Tryz.prog 48 #[.pointer (some ⟨p, 0, none⟩)] w fun e w' => e = .returned (.bool (!decide (m.left = 0))) ∧ DAt w' p g c ⟨m.b, if 0 < m.left then m.left - 1 else m.left, decide (m.left = 0)⟩ ∧ Keeps (fun k => k = p) w w' := by
  obtain ⟨d, hd⟩ : ∃ d, d = decide (m.left = 0) := ⟨_, rfl⟩
  have q : (m.left == 0) = d := by rw [hd]; rfl
  have hr := h.setDead d
  have hk := keeps_left w p 2 (.bool d)
  have HR := Lib.hid hr; have HK := Lib.hid hk
  have c1 := h.c1; have c2 := h.c2; have f1 := h.f1; have f2 := h.f2
  have d1 := hr.c1; have d2 := hr.c2; have g1 := hr.f1; have g2 := hr.f2
  simp only at d1 d2
  by_cases h0 : 0 < m.left
  · have hr2 := hr.setLeft (m.left - 1)
    have hk2 := hk.trans (keeps_left _ p 1 (.int .i64 (m.left - 1)))
    have e2 := hr2.c2
    simp only at e2
    have i1 : IntKind.i64.wrap (m.left - 1) = m.left - 1 := IntWalk.i64_in _ (by omega)
    rw [if_pos h0, ← hd]
    have HR2 := Lib.hid hr2; have HK2 := Lib.hid hk2
    generalize m.left = z at *
    clear h hr hk hr2 hk2 hd HR HK
    go_enter Tryz.func48, Tryz.ntmps48
    go_wp2
    go_ret
    exact ⟨rfl, HR2.out, HK2.out⟩
  · rw [if_neg h0, ← hd]
    generalize m.left = z at *
    clear h hr hk hd
    go_enter Tryz.func48, Tryz.ntmps48
    go_wp2
    go_ret
    exact ⟨rfl, HR.out, HK.out⟩
theorem Own.make (w : World) (n : Nat) (hn : n ≤ maxLen) : Own (w.alloc (.cells (cells (List.replicate n 0)) 5)) 0 (.slice (some ⟨w.heap.size, 0, none⟩) n n) (List.replicate n 0) := by
  refine ⟨by simp [vals], .inr ⟨w.heap.size, n, _, by rw [List.length_replicate], Nat.zero_le _, heap_alloc_new w _, by rw [List.length_replicate]; exact Nat.le_refl _, hn, by rw [cells_size, List.length_replicate]; omega, ?_⟩⟩
  unfold cells
  rw [List.length_replicate, Nat.mul_one, List.take_of_length_le (by rw [vals_len, List.length_replicate]; exact Nat.le_refl _)]
theorem new_at (w : World) (n : Nat) (hn : n ≤ 32768) (z : Int) (t : TypeId) :
    DAt ((w.alloc (.cells (cells (List.replicate n 0)) 5)).alloc (.cells #[.slice (some ⟨w.heap.size, 0, none⟩) n n, .int .i64 z, .bool false] t)) (w.heap.size + 1) w.heap.size n ⟨SecM.noughts n, z, false⟩ := by
  have ho := (Own.make w n (by unfold maxLen; omega)).alloc (.cells #[.slice (some ⟨w.heap.size, 0, none⟩) n n, .int .i64 z, .bool false] t)
  have hz : (w.alloc (.cells (cells (List.replicate n 0)) 5)).heap.size = w.heap.size + 1 := by simp
  have hl : (SecM.noughts n).length = n := SecM.noughts_len n
  refine ⟨?_, ?_, ?_, ?_, ?_, ?_, ?_, by omega⟩
  · rw [← hz]; simp [hl]
  · rw [← hz]; simp
  · rw [← hz]; simp
  · rw [← hz]; simp
  · rw [← hz]; simp
  · rw [← hz]; simp
  · show Own _ 0 (.slice (some ⟨w.heap.size, 0, none⟩) (SecM.noughts n).length n) (SecM.noughts n)
    rw [hl]; exact ho
theorem new_any (n : Int) (w : World) (hn : -9223372036854775808 ≤ n ∧ n ≤ 9223372036854775807) :
    Calls Tryz.prog 20 #[.int .i64 n] w fun e w' => ∃ p g c, e = .returned (.pointer (some ⟨p, 0, none⟩)) ∧ DAt w' p g c (new_ n) ∧ w.heap.size ≤ p ∧ w.heap.size ≤ g ∧ Below w.heap.size w w' := by
  obtain ⟨s, hs⟩ : ∃ s, s = size n := ⟨_, rfl⟩
  have hr := size_range n
  have hm1 : min (max n 1) 512 = (s : Int) := by
    rw [hs]; unfold size
    split
    · omega
    · split <;> omega
  obtain ⟨M, hM⟩ : ∃ M, M = max n 1 := ⟨_, rfl⟩
  rw [← hM] at hm1
  have hnew : new_ n = ⟨SecM.noughts (64 * s), -1, false⟩ := by rw [hs]; rfl
  rw [hnew]
  rw [← hs] at hr
  have i1 : IntKind.i64.wrap ((s : Int) * 64) = ((64 * s : Nat) : Int) := by rw [IntWalk.i64_in _ (by omega)]; omega
  obtain ⟨x, hx⟩ : ∃ x, x = 64 * s := ⟨_, rfl⟩
  rw [← hx] at i1 ⊢
  have hmk := fun W => make_u8 x (by omega) W
  have HN := Lib.hid (new_at w x (by omega) (-1) 59)
  have hM2 := hM.symm
  clear hs hnew hx hM
  go_enter Tryz.func20, Tryz.ntmps20
  go_wp2
  go_ret
  exact ⟨w.heap.size + 1, w.heap.size, x, rfl, HN.out, Nat.le_succ _, Nat.le_refl _, bstep (balloc w _) (balloc _ _)⟩
end Go.Proofs.YtapgpibindhlfaaGreat.Disk

/- package disk: turn, and what Write and Rot do to a sector -/
set_option maxRecDepth 100000
namespace Go.Proofs.YtapgpibindhlfaaGreat.Disk
open Go.RowKit DiskM CrcM

theorem setS_self (b : List UInt8) (i : Nat) (_h : 64 * i + 64 ≤ b.length) : setS b i (sect b i) = b := by
  unfold setS sect
  have e : b.drop (64 * i) = (b.drop (64 * i)).take 64 ++ b.drop (64 * i + 64) := by
    rw [show b.drop (64 * i + 64) = (b.drop (64 * i)).drop 64 from by rw [List.drop_drop]]
    exact (List.take_append_drop 64 _).symm
  rw [← e, List.take_append_drop]
theorem setS_get (b s : List UInt8) (i d : Nat) (h : 64 * i + 64 ≤ b.length) (hs : s.length = 64) (hd : d < 64) : (setS b i s)[64 * i + d]? = s[d]? := by
  unfold setS
  have hl : (b.take (64 * i)).length = 64 * i := by rw [List.length_take]; omega
  rw [List.getElem?_append_right (by rw [hl]; omega), hl, show 64 * i + d - 64 * i = d from by omega, List.getElem?_append_left (by omega)]
theorem setS_set (b s : List UInt8) (i d : Nat) (y : UInt8) (h : 64 * i + 64 ≤ b.length) (hs : s.length = 64) (hd : d < 64) : (setS b i s).set (64 * i + d) y = setS b i (s.set d y) := by
  unfold setS
  have hl : (b.take (64 * i)).length = 64 * i := by rw [List.length_take]; omega
  rw [List.set_append_right _ _ (by rw [hl]; omega), hl, show 64 * i + d - 64 * i = d from by omega, List.set_append_left _ _ (by omega)]
theorem turn_end (l : List UInt8) (f mask k : Nat) (_hm : mask < 2 ^ 32) (hk : k ≤ 32) (h : mask / 2 ^ k = 0 ∨ 8 * l.length ≤ f + k) : turnTo l f mask k = turn l f mask := by
  have step : ∀ n, turnTo l f mask (k + n) = turnTo l f mask k := by
    intro n
    induction n with
    | zero => rfl
    | succ n ih =>
      have e : turnTo l f mask (k + (n + 1)) = if mask.testBit (k + n) ∧ f + (k + n) < 8 * l.length then turn1 (turnTo l f mask (k + n)) (f + (k + n)) else turnTo l f mask (k + n) := rfl
      rw [e, if_neg ?_, ih]
      rintro ⟨h1, h2⟩
      rcases h with h | h
      · rw [Nat.testBit_eq_decide_div_mod_eq, Nat.pow_add, ← Nat.div_div_eq_div_mul, h] at h1
        simp at h1
      · omega
  have := step (32 - k)
  rw [show k + (32 - k) = 32 from by omega] at this
  exact this.symm
/-- one round -/
theorem turn_step (l : List UInt8) (f mask k : Nat) (h : f + k < 8 * l.length) :
    turnTo l f mask (k + 1) = (turnTo l f mask k).set ((f + k) / 8) ((turnTo l f mask k).getD ((f + k) / 8) 0 ^^^ UInt8.ofNat (bit mask k * 2 ^ ((f + k) % 8))) := by
  have e : turnTo l f mask (k + 1) = if mask.testBit k ∧ f + k < 8 * l.length then turn1 (turnTo l f mask k) (f + k) else turnTo l f mask k := rfl
  have hlen := turnTo_len l f mask k
  have htb : mask.testBit k = decide (bit mask k = 1) := by rw [Nat.testBit_eq_decide_div_mod_eq]; rfl
  have hb2 := bit_lt mask k
  rw [e, htb]
  by_cases h1 : bit mask k = 1
  · rw [if_pos ⟨decide_eq_true h1, h⟩, h1, Nat.one_mul]
    rfl
  · have h0 : bit mask k = 0 := by omega
    rw [if_neg (fun q => h1 (of_decide_eq_true q.1)), h0, Nat.zero_mul]
    have hx : ((turnTo l f mask k).getD ((f + k) / 8) 0 ^^^ UInt8.ofNat 0) = (turnTo l f mask k).getD ((f + k) / 8) 0 := by
      rw [← UInt8.toNat_inj, UInt8.toNat_xor]; simp
    rw [hx]
    have hi : (f + k) / 8 < (turnTo l f mask k).length := by rw [hlen]; omega
    rw [← List.getElem_eq_getD (h := hi), List.set_getElem_self]
theorem xor_some (y : UInt8) (b r : Nat) (hb : b < 2) (h : r < 8) : bits .xor .u8 (y.toNat : Int) ((b : Int) * 2 ^ r % 256) = ((y ^^^ UInt8.ofNat (b * 2 ^ r)).toNat : Nat) := by
  have hp : 2 ^ r < 256 := by
    have : 2 ^ r < 2 ^ 8 := Nat.pow_lt_pow_right (by omega) h
    exact this
  have hbp : b * 2 ^ r < 256 := by
    rcases (show b = 0 ∨ b = 1 by omega) with rfl | rfl <;> omega
  have e : ((b : Int) * (2 : Int) ^ r % 256) = ((b * 2 ^ r : Nat) : Int) := by
    have g : ∀ p : Nat, p < 256 → (p : Int) % 256 = (p : Int) := fun p h => by omega
    have := g _ hbp
    rw [Int.natCast_mul, Int.natCast_pow] at this ⊢
    exact this
  rw [e, u8_xor_nat _ _ y.toNat_lt hbp, UInt8.toNat_xor, UInt8.toNat_ofNat_of_lt' (by simp only [UInt8.size]; exact hbp)]

end Go.Proofs.YtapgpibindhlfaaGreat.Disk

/- package disk: Write, Rot -/
set_option maxRecDepth 100000
namespace Go.Proofs.YtapgpibindhlfaaGreat.Disk
open Go.RowKit DiskM CrcM

theorem run_neq_slice_nil (w : World) (t e : TypeId) (a : Option Addr) (n c n' c' : Nat) (h : Tryz.prog.underlying t = some (.slice e)) :
    (binOp .neq t (.slice a n c) (.slice none n' c')).run Tryz.prog w = .ok (.bool (!a.isNone)) w := by
  simp only [binOp]
  simp [Op.equal, Op.maxDepth, Lib.run_equalIn_slice_nil w 9999 t e a n c n' c' h]
/-- a sector copied in -/
theorem copied {w : World} {p g c : Nat} {m : Dk} (h : DAt w p g c m) {i : Nat} (hi : 64 * i + 64 ≤ m.b.length) {l : List UInt8} (hl : l.length = 64) {cur : Array Value} (hg : w.heap[g]? = some (.cells cur 5 (0, 0))) (hs : cur.size = c) (ht : cur.toList.take m.b.length = vals m.b) :
    DAt (w.setRow g (cur.toList.take (64 * i) ++ (vals l ++ cur.toList.drop (64 * i + (vals l).length))).toArray) p g c ⟨setS m.b i l, m.left, m.dead⟩ ∧ Keeps (fun k => k = g) w (w.setRow g (cur.toList.take (64 * i) ++ (vals l ++ cur.toList.drop (64 * i + (vals l).length))).toArray) := by
  have hcap := h.cap
  have hk : Keeps (fun k => k = g) w (w.setRow g (cur.toList.take (64 * i) ++ (vals l ++ cur.toList.drop (64 * i + (vals l).length))).toArray) :=
    ⟨rfl, rfl, rfl, by simp, fun k _ hn => setRow_other w g k _ hn⟩
  have hsl := setS_len m.b i l hi hl
  have hvl : (vals l).length = 64 := by rw [vals_len, hl]
  refine ⟨h.turned hk hsl ⟨by rw [vals_len, hsl, Nat.mul_one], .inr ⟨g, c, _, by rw [hsl], Nat.zero_le _, setRow_heap w g _ _ _ _ hg, by rw [hsl]; exact hcap.1, hcap.2, ?_, ?_⟩⟩, hk⟩
  · rw [List.size_toArray, List.length_append, List.length_append, List.length_take, List.length_drop, hvl, Array.length_toList, hs]; omega
  · rw [hsl, Nat.mul_one]
    show (cur.toList.take (64 * i) ++ (vals l ++ cur.toList.drop (64 * i + (vals l).length))).take m.b.length = vals (setS m.b i l)
    have e1 : vals (setS m.b i l) = (vals m.b).take (64 * i) ++ (vals l ++ (vals m.b).drop (64 * i + 64)) := by
      unfold setS vals
      rw [List.map_append, List.map_append, List.map_take, List.map_drop]
    have hcl : cur.toList.length = c := by rw [Array.length_toList, hs]
    rw [e1, ← ht, hvl, List.take_take, List.drop_take, Nat.min_eq_left (by omega)]
    rw [List.take_append, List.take_append, List.length_take, hcl, hvl, List.take_take, Nat.min_eq_left (by omega : 64 * i ≤ c), Nat.min_eq_right (by omega : 64 * i ≤ m.b.length)]
    rw [List.take_of_length_le (by rw [hvl]; omega : (vals l).length ≤ m.b.length - 64 * i), show m.b.length - 64 * i - 64 = m.b.length - (64 * i + 64) from by omega]
theorem wpList_copy_sect {ops : Array Oper} {rest : List Oper} {o : Oper} {a : Act} {w : World} {Q : Exit → Act → World → Prop} (hgd : o.guard = none) (d s : Operand)
    (ho : o.op = .call { callee := .builtin .copy, args := #[d, s], argTypes := #[32, 32] })
    (p g c : Nat) (m : Dk) (i : Nat) (h : DAt w p g c m) (hi : 64 * i + 64 ≤ m.b.length) (A : Option Addr) (l : List UInt8) (n c2 : Nat) (hd : a.eval d = .slice (some ⟨g, 64 * i, none⟩) 64 64) (hs : a.eval s = .slice A n c2) (hn : n = 64) (hl : l.length = 64) (hA : BytesAt w A l)
    (K : ∀ w', DAt w' p g c ⟨setS m.b i l, m.left, m.dead⟩ → Keeps (fun k => k = g) w w' → wpList Tryz.prog ops Q rest (a.put o.dst (goInt 64)) w') : wpList Tryz.prog ops Q (o :: rest) a w := by
  subst hn
  rcases h.own.2 with ⟨e, _⟩ | ⟨g', cap, cur, e, hbg, hg, hnc, hcm, hcs, htake⟩
  · cases e
  · injection e with e1 _ e3
    injection e1 with e1; injection e1 with e1
    subst e1
    subst e3
    obtain ⟨b, o', rfl, _⟩ := hA 0 (by omega)
    have hvl : (vals l).length = 64 := by rw [vals_len, hl]
    have hsrc : ∀ j v, (vals l)[j]? = some v → w.cell? ((⟨b, o', none⟩ : Addr).add j) = some v := by
      intro j v hv
      have hj : j < l.length := by
        rcases Nat.lt_or_ge j l.length with hlt | hge
        · exact hlt
        · rw [List.getElem?_eq_none (by rw [vals_len]; exact hge)] at hv; cases hv
      obtain ⟨b2, o2, hA2, hc⟩ := hA j hj
      obtain ⟨rfl, rfl⟩ : b = b2 ∧ o' = o2 := by injection hA2 with hA2; injection hA2 with h1 h2; exact ⟨h1, h2⟩
      rw [vals_get l j hj] at hv
      injection hv with hv
      subst hv
      have hadd : (⟨b, o', none⟩ : Addr).add j = ⟨b, o' + j, none⟩ := by unfold Addr.add; split <;> simp_all
      rw [hadd]; exact hc
    have hone : ∀ v ∈ vals l, v.oneCell' = true := by
      intro u hu
      simp only [vals, List.mem_map] at hu
      obtain ⟨b, _, rfl⟩ := hu
      rfl
    have hcs' : cur.size = c := by rw [hcs, Nat.mul_one]
    have hcap := h.cap
    refine wpList_copy_own hgd d s 32 32 ho 5 Tryz.underlying32 u8_size g (64 * i) 64 64 ⟨b, o', none⟩ 64 c2 hd hs cur 5 hg (vals l) (by rw [hvl]; rfl) hsrc (by rw [hvl, hcs']; omega) hone ?_
    rw [hvl] 
    obtain ⟨q1, q2⟩ := copied h hi hl hg hcs' (by rw [Nat.mul_one] at htake; exact htake)
    rw [hvl] at q1 q2
    exact K _ q1 q2
theorem write_no {m : Dk} {i : Int} {d : List UInt8} (h : isS m.b i = false) : m.write i d = (m, false) := by
  unfold Dk.write Dk.may; rw [h]; rfl
theorem write_short {m : Dk} {i : Int} {d : List UInt8} (h : okD d = false) : m.write i d = (m, false) := by
  unfold Dk.write Dk.may; rw [h, Bool.and_false]; rfl
theorem okD_no {d : List UInt8} (h : d ≠ []) (h2 : d.length ≠ 64) : okD d = false := by
  refine decide_eq_false fun e => ?_
  rcases e with e | e
  · exact h (List.eq_nil_of_length_eq_zero e)
  · exact h2 e
theorem write_off {m : Dk} {i : Int} {d : List UInt8} (h : isS m.b i = true) (hd : d.length = 64) (hz : m.left = 0) : m.write i d = (⟨m.b, m.left, true⟩, false) := by
  have ho : okD d = true := decide_eq_true (.inr hd)
  have hf : m.off = true := by unfold Dk.off; rw [decide_eq_true hz]; rfl
  unfold Dk.write Dk.may; rw [h, ho, hf]; rfl
theorem write_on {m : Dk} {i : Int} {d : List UInt8} (h : isS m.b i = true) (hd : d.length = 64) (hz : m.left ≠ 0) (hwf : m.dead = true → m.left = 0) : m.write i d = (⟨setS m.b i.toNat d, if 0 < m.left then m.left - 1 else m.left, false⟩, true) := by
  have ho : okD d = true := decide_eq_true (.inr hd)
  have hdd : m.dead = false := by
    rcases hq : m.dead with _ | _
    · rfl
    · exact absurd (hwf hq) hz
  have hf : m.off = false := by unfold Dk.off; rw [decide_eq_false hz, hdd]; rfl
  have hfull : DiskM.full d = d := by
    unfold DiskM.full
    rw [if_neg (fun e => by rw [e] at hd; cases hd)]
  unfold Dk.write Dk.may; rw [h, ho, hf, hfull]; rfl
theorem write_nil (m : Dk) (i : Int) : m.write i [] = m.write i (SecM.noughts 64) := by
  have h1 : okD [] = true := by decide
  have h2 : okD (SecM.noughts 64) = true := decide_eq_true (.inr (SecM.noughts_len _))
  have h3 : DiskM.full [] = SecM.noughts 64 := rfl
  have h4 : DiskM.full (SecM.noughts 64) = SecM.noughts 64 := by
    unfold DiskM.full
    rw [if_neg (fun e => by have := congrArg List.length e; rw [SecM.noughts_len] at this; cases this)]
  unfold Dk.write Dk.may
  rw [h1, h2, h3, h4]

/-- what is done to a sector's own bytes by Write -/
theorem write1_any (p g c x y : Nat) (m : Dk) (i : Nat) (A : Option Addr) (l : List UInt8) (cl : Nat) (w : World) (h : DAt w p g c m) (hi : 64 * i + 64 ≤ m.b.length) (_hl : m.b.length ≤ 32768) (hwf : m.dead = true → m.left = 0) (hz : -9223372036854775808 ≤ m.left ∧ m.left ≤ 9223372036854775807)
    (hx : w.cell? ⟨x, 0, none⟩ = some (.slice A l.length cl)) (hy : w.cell? ⟨y, 0, none⟩ = some (.pointer (some ⟨p, 0, none⟩))) (hxp : x ≠ p) (hA : BytesAt w A l) (hAp : ∀ a, A = some a → a.block ≠ p) (hne : l ≠ []) (_hll : l.length ≤ maxLen) :
    Calls Tryz.prog 47 #[.slice (some ⟨g, 64 * i, none⟩) 64 64, .pointer (some ⟨x, 0, none⟩), .pointer (some ⟨y, 0, none⟩)] w fun e w' =>
      e = .returned (.bool (m.write (i : Int) l).2) ∧ DAt w' p g c (m.write (i : Int) l).1 ∧ Keeps (PG p g) w w' := by
  have hS : isS m.b (i : Int) = true := isS_nat hi
  have HD := Lib.hid h
  by_cases h64 : l.length = 64
  · have H6 := Lib.hid h64
    rw [h64] at hx
    have C := lasts_any p g c m w h hz
    have HH := Lib.hid hA
    clear hA
    by_cases hz0 : m.left = 0
    · have he := write_off hS h64 hz0
      have hd : (!decide (m.left = 0)) = false := by rw [decide_eq_true hz0]; rfl
      have hd2 : decide (m.left = 0) = true := decide_eq_true hz0
      rw [hd, hd2, if_neg (by omega)] at C
      rw [he]
      clear h64 he hd hd2 hz0 h HD
      go_enter Tryz.func47, Tryz.ntmps47
      go_wp2_with fail
      refine C.mono ?_
      rintro e w1 ⟨rfl, hd, hq⟩
      have HD := Lib.hid hd; have HQ := Lib.hid hq
      clear hd hq
      go_wp2
      go_ret
      exact ⟨rfl, HD.out, HQ.out.mono fun k _ h => .inl h⟩
    · have he := write_on hS h64 hz0 hwf
      have hd : (!decide (m.left = 0)) = true := by rw [decide_eq_false hz0]; rfl
      have hd2 : decide (m.left = 0) = false := decide_eq_false hz0
      rw [hd, hd2] at C
      rw [he, Int.toNat_natCast]
      generalize (if 0 < m.left then m.left - 1 else m.left) = Z at *
      clear h64 he hd hd2 hz0 h HD
      go_enter Tryz.func47, Tryz.ntmps47
      go_wp2_with fail
      refine C.mono ?_
      rintro e w1 ⟨rfl, hd, hq⟩
      have HD := Lib.hid hd; have HQ := Lib.hid hq
      have hx1 := hq.cell hx hxp
      have HA := Lib.hid (hq.bytes' HH.out (fun _ a e => hAp a e))
      clear hd hq hx
      go_wp2_with (first
        | (with_reducible refine wpList_copy_sect rfl (.tmp 15) (.tmp 16) rfl p g c _ i HD.out hi A l 64 cl rfl rfl rfl H6.out HA.out ?_; intro w2 hd2 hq2; have HD2 := Lib.hid hd2; have HQ2 := Lib.hid hq2; clear hd2 hq2)
        | fail)
      go_ret
      exact ⟨rfl, HD2.out, (HQ.out.mono fun k _ h => .inl h).trans (HQ2.out.mono fun k _ h => .inr h)⟩
  · have he : m.write (i : Int) l = (m, false) := write_short (okD_no hne h64)
    rw [he]
    have q : ((l.length : Int) != 64) = true := by rw [bne_iff_ne]; omega
    unfold maxLen at _hll
    clear h he h64
    go_enter Tryz.func47, Tryz.ntmps47
    go_wp2
    go_ret
    exact ⟨rfl, HD.out, .refl _ _⟩
end Go.Proofs.YtapgpibindhlfaaGreat.Disk

/- package disk: Write, Rot, whole -/
set_option maxRecDepth 100000
namespace Go.Proofs.YtapgpibindhlfaaGreat.Disk
open Go.RowKit DiskM CrcM

/-! change, of Write's and of Rot's -/
theorem change_w_none (V : Value) (i : Int) (x y : Nat) (w : World) (C : Calls Tryz.prog 46 #[V, .int .i64 i] w fun e w' => e = .returned (.slice none 0 0) ∧ w = w') :
    Calls Tryz.prog 45 #[.func (.func 46) #[V] #[], .int .i64 i, .func (.func 47) #[] #[.pointer (some ⟨x, 0, none⟩), .pointer (some ⟨y, 0, none⟩)]] w
      fun e w' => e = .returned (.bool false) ∧ w = w' := by
  have he := fun w => run_neq_slice_nil w 32 5 none 0 0 0 0 Tryz.underlying32
  go_enter Tryz.func45, Tryz.ntmps45
  go_wp2_with fail
  refine C.mono ?_
  rintro e w1 ⟨rfl, rfl⟩
  go_wp2
  go_ret
  exact ⟨rfl, rfl⟩
theorem change_w_some (V : Value) (i : Int) (x y g o : Nat) (w : World) (r : Bool) (R : World → World → Prop) (C : Calls Tryz.prog 46 #[V, .int .i64 i] w fun e w' => e = .returned (.slice (some ⟨g, o, none⟩) 64 64) ∧ w = w')
    (D : Calls Tryz.prog 47 #[.slice (some ⟨g, o, none⟩) 64 64, .pointer (some ⟨x, 0, none⟩), .pointer (some ⟨y, 0, none⟩)] w fun e w' => e = .returned (.bool r) ∧ R w w') :
    Calls Tryz.prog 45 #[.func (.func 46) #[V] #[], .int .i64 i, .func (.func 47) #[] #[.pointer (some ⟨x, 0, none⟩), .pointer (some ⟨y, 0, none⟩)]] w
      fun e w' => e = .returned (.bool r) ∧ R w w' := by
  have he := fun w => run_neq_slice_nil w 32 5 (some ⟨g, o, none⟩) 64 64 0 0 Tryz.underlying32
  go_enter Tryz.func45, Tryz.ntmps45
  go_wp2_with fail
  refine C.mono ?_
  rintro e w1 ⟨rfl, rfl⟩
  go_wp2_with fail
  refine D.mono ?_
  rintro e w2 ⟨rfl, hR⟩
  go_wp2
  go_ret
  exact ⟨rfl, hR⟩
/-- change, as Write calls it, of bytes that lie in a box -/
theorem change_write (p g c x y : Nat) (m : Dk) (i : Int) (A : Option Addr) (l : List UInt8) (cl : Nat) (w : World) (h : DAt w p g c m) (hl : m.b.length ≤ 32768) (hwf : m.dead = true → m.left = 0) (hz : -9223372036854775808 ≤ m.left ∧ m.left ≤ 9223372036854775807) (hi : -9223372036854775808 ≤ i ∧ i ≤ 9223372036854775807)
    (hx : w.cell? ⟨x, 0, none⟩ = some (.slice A l.length cl)) (hy : w.cell? ⟨y, 0, none⟩ = some (.pointer (some ⟨p, 0, none⟩))) (hxp : x ≠ p) (hA : BytesAt w A l) (hAp : ∀ a, A = some a → a.block ≠ p) (hne : l ≠ []) (hll : l.length ≤ maxLen) :
    Calls Tryz.prog 45 #[.func (.func 46) #[.pointer (some ⟨p, 0, none⟩)] #[], .int .i64 i, .func (.func 47) #[] #[.pointer (some ⟨x, 0, none⟩), .pointer (some ⟨y, 0, none⟩)]] w
      fun e w' => e = .returned (.bool (m.write i l).2) ∧ DAt w' p g c (m.write i l).1 ∧ Keeps (PG p g) w w' := by
  have C := own_any p g c m i w h hl hi
  unfold ownV at C
  rcases hs : isS m.b i with _ | _
  · rw [hs, if_neg (by decide)] at C
    rw [write_no hs]
    refine (change_w_none _ i x y w C).mono ?_
    rintro e w' ⟨rfl, rfl⟩
    exact ⟨rfl, h, .refl _ _⟩
  · rw [hs, if_pos rfl] at C
    obtain ⟨h1, h2⟩ := isS_fit hs
    obtain ⟨j, rfl⟩ := Int.eq_ofNat_of_zero_le h2
    rw [Int.toNat_natCast] at C h1
    exact change_w_some _ _ x y g (64 * j) w (m.write (j : Int) l).2 (fun w w' => DAt w' p g c (m.write (j : Int) l).1 ∧ Keeps (PG p g) w w') C (write1_any p g c x y m j A l cl w h h1 hl hwf hz hx hy hxp hA hAp hne hll)

theorem zero_at (w : World) : Calls Tryz.prog 44 #[] w fun e w' => ∃ X d, e = .returned (.slice X 64 d) ∧ 64 ≤ d ∧ d ≤ maxLen ∧ BytesAt w' X (SecM.noughts 64) ∧ Below w.heap.size w w' ∧ New w X := by
  have := Sector.zero_any w
  unfold RetNew at this
  rw [SecM.noughts_len] at this
  exact this
theorem write_any (p g c : Nat) (m : Dk) (i : Int) (A : Option Addr) (l : List UInt8) (cl : Nat) (w : World) (h : DAt w p g c m) (hl : m.b.length ≤ 32768) (hwf : m.dead = true → m.left = 0) (hz : -9223372036854775808 ≤ m.left ∧ m.left ≤ 9223372036854775807) (hi : -9223372036854775808 ≤ i ∧ i ≤ 9223372036854775807)
    (hA : BytesAt w A l) (hAp : 0 < l.length → ∀ a, A = some a → a.block ≠ p) (hll : l.length ≤ maxLen) :
    Calls Tryz.prog 23 #[.pointer (some ⟨p, 0, none⟩), .int .i64 i, .slice A l.length cl] w fun e w' =>
      e = .returned (.bool (m.write i l).2) ∧ DAt w' p g c (m.write i l).1 ∧ Keeps (PG p g) w w' := by
  have hb : Below w.heap.size w ((w.alloc (.cells #[.pointer (some ⟨p, 0, none⟩)] 28)).alloc (.cells #[.slice A l.length cl] 32)) := bstep (balloc w _) (balloc _ _)
  have HD := Lib.hid (h.below hb); have HB := Lib.hid hb
  have HP := Lib.hid h.lt
  have HAP := Lib.hid hAp
  have HHA := Lib.hid (hA.below hb)
  have hy : ((w.alloc (.cells #[.pointer (some ⟨p, 0, none⟩)] 28)).alloc (.cells #[.slice A l.length cl] 32)).cell? ⟨w.heap.size, 0, none⟩ = some (.pointer (some ⟨p, 0, none⟩)) := by
    rw [World.cell?_of_block (w := w.alloc (.cells #[.pointer (some ⟨p, 0, none⟩)] 28)) ((Below.heap_alloc _ _ _ (by simp)))]; simp
  have hx : ((w.alloc (.cells #[.pointer (some ⟨p, 0, none⟩)] 28)).alloc (.cells #[.slice A l.length cl] 32)).cell? ⟨w.heap.size + 1, 0, none⟩ = some (.slice A l.length cl) := by
    have hz : (w.alloc (.cells #[.pointer (some ⟨p, 0, none⟩)] 28)).heap.size = w.heap.size + 1 := by simp
    rw [← hz]; simp
  have hfx : ((w.alloc (.cells #[.pointer (some ⟨p, 0, none⟩)] 28)).alloc (.cells #[.slice A l.length cl] 32)).frozen? ⟨w.heap.size + 1, 0, none⟩ = false := by
    have hz : (w.alloc (.cells #[.pointer (some ⟨p, 0, none⟩)] 28)).heap.size = w.heap.size + 1 := by simp
    rw [← hz]; simp
  have HX := Lib.hid hx; have HY := Lib.hid hy; have HFX := Lib.hid hfx
  by_cases h0 : l = []
  · rw [h0, write_nil]
    subst h0
    clear h hA hAp hb hx hy hfx
    go_enter Tryz.func23, Tryz.ntmps23
    go_wp2_with fail
    refine (zero_at _).mono ?_
    rintro e w1 ⟨X, d, rfl, g1, g2, g3, hb1, hn1⟩
    have hx1 := (hb1.cell (p := ⟨w.heap.size + 1, 0, none⟩) (cell_lt HX.out)).trans HX.out
    have hy1 := (hb1.cell (p := ⟨w.heap.size, 0, none⟩) (cell_lt HY.out)).trans HY.out
    have hf1 : w1.frozen? ⟨w.heap.size + 1, 0, none⟩ = false := (World.frozen?_of_block (hb1.block _ (cell_lt HX.out))).trans HFX.out
    have hbw := HB.out.trans (hb1.mono HB.out.size)
    have hxs := cell_lt hx1
    have HB2 : Hid (Below w.heap.size w (w1.setCell ⟨w.heap.size + 1, 0, none⟩ (.slice X 64 d))) := Lib.hid (hbw.setCell (p := ⟨w.heap.size + 1, 0, none⟩) (Nat.le_succ _) _)
    have hk : Keeps (fun k => k = w.heap.size + 1) w1 (w1.setCell ⟨w.heap.size + 1, 0, none⟩ (.slice X 64 d)) := .set _ _ _ _ rfl
    have HD2 := Lib.hid ((HD.out.below hb1).keep hk (by have := HP.out.1; omega) (by have := HP.out.2; omega))
    have HX2 : Hid ((w1.setCell ⟨w.heap.size + 1, 0, none⟩ (.slice X 64 d)).cell? ⟨w.heap.size + 1, 0, none⟩ = some (.slice X (SecM.noughts 64).length d)) := Lib.hid (by rw [World.cell?_setCell_same _ _ _ hx1]; rfl)
    have HY2 := Lib.hid (hk.cell hy1 (by show ¬ w.heap.size = w.heap.size + 1; omega))
    have HA2 := Lib.hid (hk.bytes g3 (fun a e => by
      have h1 : w.heap.size + 2 ≤ a.block := by have := hn1 a e; simpa using this
      omega))
    have HAP2 : Hid (∀ a, X = some a → a.block ≠ p) := Lib.hid (fun a e => by
      have h1 : w.heap.size + 2 ≤ a.block := by have := hn1 a e; simpa using this
      have h3 := HP.out.1
      omega)
    have hy2 := HY2.out
    clear g3 hb1 hn1 hy1 hbw hk HX HY HFX HD HB
    go_wp2_with fail
    refine (change_write p g c _ _ m i X (SecM.noughts 64) d _ HD2.out hl hwf hz hi HX2.out HY2.out (by have := HP.out.1; omega) HA2.out HAP2.out (fun e => by have := congrArg List.length e; rw [SecM.noughts_len] at this; cases this) (by rw [SecM.noughts_len]; unfold maxLen; omega)).mono ?_
    rintro e w2 ⟨rfl, hd, hq⟩
    have HD3 := Lib.hid hd; have HQ := Lib.hid hq
    clear hd hq
    go_wp2
    go_ret
    exact ⟨rfl, HD3.out, (Keeps.of_below _ HB2.out).trans HQ.out⟩
  · have hl0 : 0 < l.length := by
      rcases l with _ | ⟨a, l⟩
      · exact absurd rfl h0
      · simp
    have q : ((l.length : Int) == 0) = false := by rw [beq_eq_false_iff_ne]; omega
    have hll2 : l.length ≤ 9223372036854775807 := hll
    clear h hA hAp hb hx hy hfx
    go_enter Tryz.func23, Tryz.ntmps23
    go_wp2_with fail
    refine (change_write p g c _ _ m i A l cl _ HD.out hl hwf hz hi HX.out HY.out (by have := HP.out.1; omega) HHA.out (HAP.out hl0) h0 hll).mono ?_
    rintro e w2 ⟨rfl, hd, hq⟩
    have HD3 := Lib.hid hd; have HQ := Lib.hid hq
    clear hd hq
    go_wp2
    go_ret
    exact ⟨rfl, HD3.out, (Keeps.of_below _ HB.out).trans HQ.out⟩
end Go.Proofs.YtapgpibindhlfaaGreat.Disk

/- package disk: Rot, Read, Image, Wipe; calls of a disk that is none -/
set_option maxRecDepth 100000
namespace Go.Proofs.YtapgpibindhlfaaGreat.Disk
open Go.RowKit DiskM CrcM

theorem rot_no {m : Dk} {i bit : Int} {mask : Nat} (h : isS m.b i = false) : m.rot i bit mask = (m, false) := by
  unfold Dk.rot; rw [h]; rfl
theorem rot_neg {m : Dk} {i bit : Int} {mask : Nat} (h : bit < 0) : m.rot i bit mask = (m, false) := by
  unfold Dk.rot; rw [decide_eq_false (by omega : ¬ 0 ≤ bit), Bool.and_false]; rfl
theorem rot_on {m : Dk} {i : Int} {f mask : Nat} (h : isS m.b i = true) : m.rot i (f : Int) mask = (⟨setS m.b i.toNat (turn (sect m.b i.toNat) f mask), m.left, m.dead⟩, true) := by
  unfold Dk.rot turnZ; rw [h, decide_eq_true (by omega : 0 ≤ (f : Int)), if_neg (by omega : ¬ (f : Int) < 0), Int.toNat_natCast]; rfl
/-! calls of none -/
theorem write_none (i : Int) (A : Option Addr) (n cl : Nat) (w : World) (hn : n ≤ 9223372036854775807) :
    Calls Tryz.prog 23 #[.pointer none, .int .i64 i, .slice A n cl] w fun e w' => e = .returned (.bool false) ∧ Below w.heap.size w w' := by
  have hb : Below w.heap.size w ((w.alloc (.cells #[.pointer none] 28)).alloc (.cells #[.slice A n cl] 32)) := bstep (balloc w _) (balloc _ _)
  have hy : ((w.alloc (.cells #[.pointer none] 28)).alloc (.cells #[.slice A n cl] 32)).cell? ⟨w.heap.size, 0, none⟩ = some (.pointer none) := by
    rw [World.cell?_of_block (w := w.alloc (.cells #[.pointer none] 28)) ((Below.heap_alloc _ _ _ (by simp)))]; simp
  have hx : ((w.alloc (.cells #[.pointer none] 28)).alloc (.cells #[.slice A n cl] 32)).cell? ⟨w.heap.size + 1, 0, none⟩ = some (.slice A n cl) := by
    have hz : (w.alloc (.cells #[.pointer none] 28)).heap.size = w.heap.size + 1 := by simp
    rw [← hz]; simp
  have hfx : ((w.alloc (.cells #[.pointer none] 28)).alloc (.cells #[.slice A n cl] 32)).frozen? ⟨w.heap.size + 1, 0, none⟩ = false := by
    have hz : (w.alloc (.cells #[.pointer none] 28)).heap.size = w.heap.size + 1 := by simp
    rw [← hz]; simp
  have HB := Lib.hid hb; have HX := Lib.hid hx; have HY := Lib.hid hy; have HFX := Lib.hid hfx
  clear hb hx hy hfx
  by_cases h0 : n = 0
  · subst h0
    go_enter Tryz.func23, Tryz.ntmps23
    go_wp2_with fail
    refine (zero_at _).mono ?_
    rintro e w1 ⟨X, d, rfl, g1, g2, g3, hb1, hn1⟩
    have hx1 := (hb1.cell (p := ⟨w.heap.size + 1, 0, none⟩) (cell_lt HX.out)).trans HX.out
    have hy1 := (hb1.cell (p := ⟨w.heap.size, 0, none⟩) (cell_lt HY.out)).trans HY.out
    have hf1 : w1.frozen? ⟨w.heap.size + 1, 0, none⟩ = false := (World.frozen?_of_block (hb1.block _ (cell_lt HX.out))).trans HFX.out
    have hbw := HB.out.trans (hb1.mono HB.out.size)
    have HB2 : Hid (Below w.heap.size w (w1.setCell ⟨w.heap.size + 1, 0, none⟩ (.slice X 64 d))) := Lib.hid (hbw.setCell (p := ⟨w.heap.size + 1, 0, none⟩) (Nat.le_succ _) _)
    have hk : Keeps (fun k => k = w.heap.size + 1) w1 (w1.setCell ⟨w.heap.size + 1, 0, none⟩ (.slice X 64 d)) := .set _ _ _ _ rfl
    have hy2 := hk.cell hy1 (by show ¬ w.heap.size = w.heap.size + 1; omega)
    clear g3 hb1 hn1 hy1 hbw hk HX HY HFX HB
    go_wp2_with fail
    refine (change_w_none _ i _ _ _ (own_nil i _)).mono ?_
    rintro e w2 ⟨rfl, rfl⟩
    go_wp2
    go_ret
    exact ⟨rfl, HB2.out⟩
  · have q : ((n : Int) == 0) = false := by rw [beq_eq_false_iff_ne]; omega
    go_enter Tryz.func23, Tryz.ntmps23
    go_wp2_with fail
    refine (change_w_none _ i _ _ _ (own_nil i _)).mono ?_
    rintro e w2 ⟨rfl, rfl⟩
    go_wp2
    go_ret
    exact ⟨rfl, HB.out⟩
theorem image_none (w : World) : Calls Tryz.prog 16 #[.pointer none] w fun e w' => e = .returned (.slice none 0 0) ∧ w = w' := by
  go_enter Tryz.func16, Tryz.ntmps16
  go_wp2
  go_ret
  exact ⟨rfl, rfl⟩
/-! what is told of the bytes: copies -/
/-- bytes of the call's own -/
def RetOwn (w : World) (l : List UInt8) (e : Ending) (w' : World) : Prop := ∃ v, e = .returned v ∧ Own w' w.heap.size v l ∧ Below w.heap.size w w'
theorem clone_own (A : Option Addr) (l : List UInt8) (c : Nat) (w : World) (h : BytesAt w A l) (hl : l.length ≤ 1099511627) :
    Calls Tryz.prog 34 #[.slice A l.length c] w (RetOwn w l) := by
  rcases A with _ | a
  · have h0 : l = [] := by
      rcases l with _ | ⟨x, l⟩
      · rfl
      · obtain ⟨b, o, e, _⟩ := h 0 (by simp); cases e
    subst h0
    have he := fun w => Lib.run_eql_slice_nil (P := Tryz.prog) w 32 5 none 0 c 0 0 Tryz.underlying32
    go_enter Tryz.func34, Tryz.ntmps34
    go_wp2
    go_ret
    exact ⟨_, rfl, Own.nil _ _, Below.refl _ _⟩
  · have H := Lib.hid h
    clear h
    have he := fun w => Lib.run_eql_slice_nil (P := Tryz.prog) w 32 5 (some a) l.length c 0 0 Tryz.underlying32
    go_enter Tryz.func34, Tryz.ntmps34
    go_wp2_with (at_builtin; refine wpList_append_bytes rfl _ _ rfl w.heap.size (.slice (some ⟨w.heap.size, 0, none⟩) 0 0) [] l rfl (Own.empty w _ (Nat.le_refl _)) (some a) l.length c rfl rfl (H.out.alloc _) (by simp; omega) (by simp) ?_; intro v1 w1 hown1 hb1; have hb1 : Below w.heap.size w w1 := (balloc w _).trans hb1; have HO := Lib.hid hown1; clear hown1)
    go_ret
    exact ⟨_, rfl, HO.out, hb1⟩
theorem image_any (p g c : Nat) (m : Dk) (w : World) (h : DAt w p g c m) (hl : m.b.length ≤ 32768) :
    Calls Tryz.prog 16 #[.pointer (some ⟨p, 0, none⟩)] w (RetOwn w m.b) := by
  have C := clone_own (some ⟨g, 0, none⟩) m.b c w h.bytes (by omega)
  have c0 := h.c0
  clear h
  go_enter Tryz.func16, Tryz.ntmps16
  go_wp2_with fail
  refine C.mono ?_
  rintro e w1 ⟨v, rfl, ho, hb⟩
  have HO := Lib.hid ho
  clear ho
  go_wp2
  go_ret
  exact ⟨v, rfl, HO.out, hb⟩
theorem read_any (p g c : Nat) (m : Dk) (i : Int) (w : World) (h : DAt w p g c m) (hl : m.b.length ≤ 32768) (hi : -9223372036854775808 ≤ i ∧ i ≤ 9223372036854775807) :
    Calls Tryz.prog 60 #[.pointer (some ⟨p, 0, none⟩), .int .i64 i] w (RetOwn w (m.read i)) := by
  have C := own_any p g c m i w h hl hi
  unfold ownV at C
  unfold Dk.read
  have hC : ∃ A n d, (if isS m.b i then Value.slice (some ⟨g, 64 * i.toNat, none⟩) 64 64 else .slice none 0 0) = .slice A n d ∧ Calls Tryz.prog 34 #[.slice A n d] w (RetOwn w (if isS m.b i then sect m.b i.toNat else [])) := by
    rcases hs : isS m.b i with _ | _
    · exact ⟨none, 0, 0, rfl, clone_own none [] 0 w (BytesAt.nil _ _) (by simp)⟩
    · obtain ⟨h1, h2⟩ := isS_fit hs
      have hsl := sect_len m.b i.toNat h1
      refine ⟨some ⟨g, 64 * i.toNat, none⟩, 64, 64, rfl, ?_⟩
      have hB : BytesAt w (some ⟨g, 64 * i.toNat, none⟩) (sect m.b i.toNat) := by
        have := (h.bytes.drop (64 * i.toNat)).take 64
        rw [Nat.zero_add] at this
        exact this
      have := clone_own (some ⟨g, 64 * i.toNat, none⟩) (sect m.b i.toNat) 64 w hB (by omega)
      rw [hsl] at this
      exact this
  obtain ⟨A, n, d, e, hC⟩ := hC
  rw [e] at C
  generalize (if isS m.b i then sect m.b i.toNat else []) = L at *
  clear h e
  go_enter Tryz.func60, Tryz.ntmps60
  go_wp2_with fail
  refine C.mono ?_
  rintro e w1 ⟨rfl, rfl⟩
  go_wp2_with fail
  refine hC.mono ?_
  rintro e w1 ⟨v, rfl, ho, hb⟩
  have HO := Lib.hid ho
  clear ho
  go_wp2
  go_ret
  exact ⟨v, rfl, HO.out, hb⟩
theorem read_none (i : Int) (w : World) : Calls Tryz.prog 60 #[.pointer none, .int .i64 i] w (RetOwn w []) := by
  have hC := clone_own none [] 0 w (BytesAt.nil _ _) (by simp)
  go_enter Tryz.func60, Tryz.ntmps60
  go_wp2_with fail
  refine (own_nil i w).mono ?_
  rintro e w1 ⟨rfl, rfl⟩
  go_wp2_with fail
  refine hC.mono ?_
  rintro e w1 ⟨v, rfl, ho, hb⟩
  have HO := Lib.hid ho
  clear ho
  go_wp2
  go_ret
  exact ⟨v, rfl, HO.out, hb⟩
end Go.Proofs.YtapgpibindhlfaaGreat.Disk

/- package disk: Wipe, Copy -/
set_option maxRecDepth 100000
namespace Go.Proofs.YtapgpibindhlfaaGreat.Disk
open Go.RowKit DiskM CrcM

theorem own_clears {g c n : Nat} : ∀ (j k : Nat) (b : List UInt8) (w : World), b.length = n → k + j = n → Own w 0 (.slice (some ⟨g, 0, none⟩) n c) b →
    Own (w.setCells g k (List.replicate j (.int .u8 0))) 0 (.slice (some ⟨g, 0, none⟩) n c) (b.take k ++ SecM.noughts j) ∧ Keeps (fun k => k = g) w (w.setCells g k (List.replicate j (.int .u8 0)))
  | 0, k, b, w, hb, hk, h => by
    refine ⟨?_, .refl _ _⟩
    have : b.take k ++ SecM.noughts 0 = b := by rw [List.take_of_length_le (by omega)]; exact List.append_nil _
    rw [this]; exact h
  | j + 1, k, b, w, hb, hk, h => by
    obtain ⟨g', c', hv, _, hgl, hcell, hfr, hset⟩ := h.place (i := k) (by omega)
    injection hv with hv _ _
    injection hv with hv; injection hv with hv
    subst hv
    have h1 := hset 0 0
    have e0 : (w.drewN 0).setCell ⟨g, k, none⟩ (.int .u8 ((0 : UInt8).toNat : Nat)) = w.setCell ⟨g, k, none⟩ (.int .u8 0) := rfl
    rw [e0] at h1
    have hl1 : (b.set k 0).length = n := by rw [List.length_set, hb]
    obtain ⟨h2, h3⟩ := own_clears j (k + 1) (b.set k 0) (w.setCell ⟨g, k, none⟩ (.int .u8 0)) hl1 (by omega) h1
    have es : w.setCells g k (List.replicate (j + 1) (.int .u8 0)) = (w.setCell ⟨g, k, none⟩ (.int .u8 0)).setCells g (k + 1) (List.replicate j (.int .u8 0)) := rfl
    rw [es]
    refine ⟨?_, (Keeps.set (fun k => k = g) _ _ _ rfl).trans h3⟩
    have e : (b.set k 0).take (k + 1) ++ SecM.noughts j = b.take k ++ SecM.noughts (j + 1) := by
      have hkb : k < (b.set k 0).length := by omega
      rw [List.take_succ_eq_append_getElem hkb, List.getElem_set_self, List.take_set_of_le (Nat.le_refl _), List.append_assoc]
      rfl
    rw [← e]; exact h2
theorem u8_zero (w : World) : (zeroValue 5).run Tryz.prog w = .ok (.int .u8 0) w := by kernel_rfl
/-! what Copy makes, in whatever order -/
def SPown (B : Nat) (l : List UInt8) : Drawn.SP := ⟨fun v w => ∃ g c, v = .slice (some ⟨g, 0, none⟩) l.length c ∧ Own w B (.slice (some ⟨g, 0, none⟩) l.length c) l, fun _ _ _ h hb => by
  obtain ⟨g, c, h1, h2⟩ := h; exact ⟨g, c, h1, h2.below hb⟩⟩
def SPagg (B : Nat) (l : List UInt8) (z : Int) (d : Bool) : Drawn.SP := ⟨fun v w => ∃ g c, v = .agg #[.slice (some ⟨g, 0, none⟩) l.length c, .int .i64 z, .bool d] ∧ Own w B (.slice (some ⟨g, 0, none⟩) l.length c) l, fun _ _ _ h hb => by
  obtain ⟨g, c, h1, h2⟩ := h; exact ⟨g, c, h1, h2.below hb⟩⟩
theorem own_form {w : World} {B : Nat} {u : Value} {l : List UInt8} (h : Own w B u l) (h0 : 0 < l.length) : ∃ g c, u = .slice (some ⟨g, 0, none⟩) l.length c := by
  rcases h.2 with ⟨_, hn⟩ | ⟨g, cap, cur, rfl, _⟩
  · omega
  · exact ⟨g, cap, rfl⟩
def SPdisk (B : Nat) (m : Dk) : Drawn.SP := ⟨fun v w => ∃ p g c, v = .pointer (some ⟨p, 0, none⟩) ∧ DAt w p g c m ∧ B ≤ p ∧ B ≤ g, fun _ _ _ h hb => by
  obtain ⟨p, g, c, h1, h2, h3⟩ := h; exact ⟨p, g, c, h1, h2.below hb, h3⟩⟩
theorem boxed {w : World} {B : Nat} {u : Value} {l : List UInt8} (h : Own w B u l) (h0 : 0 < l.length) (z : Int) (d : Bool) (t : TypeId) :
    ∃ g c, DAt (w.alloc (.cells #[u, .int .i64 z, .bool d] t)) w.heap.size g c ⟨l, z, d⟩ ∧ B ≤ g ∧ u = .slice (some ⟨g, 0, none⟩) l.length c := by
  have ha := h.alloc (.cells #[u, .int .i64 z, .bool d] t)
  rcases h.2 with ⟨_, hn⟩ | ⟨g, cap, cur, rfl, hbg, hg, hnc⟩
  · omega
  · have hgl : g < w.heap.size := (h.lt g rfl).2
    refine ⟨g, cap, ⟨by simp, by simp, by simp, by simp, by simp, by simp, ⟨ha.1, ?_⟩, by omega⟩, hbg, rfl⟩
    rcases ha.2 with ⟨e, _⟩ | ⟨g', cap', cur', e, _, q⟩
    · cases e
    · exact .inr ⟨g', cap', cur', e, Nat.zero_le _, q⟩
end Go.Proofs.YtapgpibindhlfaaGreat.Disk
