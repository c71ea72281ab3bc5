/- a disk in memory; package disk: New, Size, own, Dead, Power, lasts -/
import Derived.Test.YteiemkaeeghhhaaDiskMath
import Derived.Test.YteiemkaeeghhhaaApp
import Derived.Lib.MinMax
import Derived.Lib.SliceRun
import Derived.IntWalk
import Derived.Deep.QuietTactic
import Derived.BigQuiet
set_option maxRecDepth 100000
namespace Go.Proofs.Yteiemkaeeghhhaa.Disk
open Go.RowKit DiskM

/-- block p is a disk (or the document's), whose bytes are block g's first ones, of c -/
structure DAt (w : World) (p g c : Nat) (m : Dk) : Prop where
  c0 : w.cell? ⟨p, 0, none⟩ = some (.slice (some ⟨g, 0, none⟩) m.b.length c)
  c1 : w.cell? ⟨p, 1, none⟩ = some (.int .i64 m.left)
  c2 : w.cell? ⟨p, 2, none⟩ = some (.bool m.dead)
  f0 : w.frozen? ⟨p, 0, none⟩ = false
  f1 : w.frozen? ⟨p, 1, none⟩ = false
  f2 : w.frozen? ⟨p, 2, none⟩ = false
  own : Own w 0 (.slice (some ⟨g, 0, none⟩) m.b.length c) m.b
  ne : p ≠ g
/-- what a disk's calls write -/
def PG (p g : Nat) (k : Nat) : Prop := k = p ∨ k = g
section
variable {F : Nat → Prop} {w w' : World} {p g c : Nat} {m : Dk}
theorem DAt.keep (h : DAt w p g c m) (q : Keeps F w w') (hp : ¬ F p) (hg : ¬ F g) : DAt w' p g c m :=
  ⟨q.cell h.c0 hp, q.cell h.c1 hp, q.cell h.c2 hp, q.frozen h.c0 hp h.f0, q.frozen h.c1 hp h.f1, q.frozen h.c2 hp h.f2,
    h.own.keep q (fun k e => by simp [Value.ownBlock] at e; subst e; exact hg), h.ne⟩
theorem DAt.below (h : DAt w p g c m) (hb : Below w.heap.size w w') : DAt w' p g c m := h.keep (F := fun _ => False) (.of_below _ hb) id id
theorem DAt.lt (h : DAt w p g c m) : p < w.heap.size ∧ g < w.heap.size := ⟨cell_lt h.c0, (h.own.lt g rfl).2⟩
theorem DAt.bytes (h : DAt w p g c m) : BytesAt w (some ⟨g, 0, none⟩) m.b := by
  obtain ⟨A, d, e, _, _, h3⟩ := h.own.bytes
  injection e with e1 _ _; subst e1
  exact h3
theorem DAt.cap (h : DAt w p g c m) : m.b.length ≤ c ∧ c ≤ maxLen := by
  obtain ⟨A, d, e, h1, h2, _⟩ := h.own.bytes
  injection e with _ _ e3; subst e3
  exact ⟨h1, h2⟩
/-- another number of sectors that may be written, or it fails -/
theorem DAt.setLeft (h : DAt w p g c m) (z : Int) : DAt (w.setCell ⟨p, 1, none⟩ (.int .i64 z)) p g c ⟨m.b, z, m.dead⟩ := by
  refine ⟨?_, ?_, ?_, ?_, ?_, ?_, ?_, h.ne⟩
  · rw [cell_store h.c0]; rfl
  · rw [cell_store h.c1]; rfl
  · rw [cell_store h.c2]; rfl
  · rw [World.frozen?_setCell]; exact h.f0
  · rw [World.frozen?_setCell]; exact h.f1
  · rw [World.frozen?_setCell]; exact h.f2
  · exact h.own.keep (.set (fun k => k = p) _ _ _ rfl) (fun k e => by simp [Value.ownBlock] at e; subst e; exact fun e => h.ne e.symm)
theorem DAt.setDead (h : DAt w p g c m) (d : Bool) : DAt (w.setCell ⟨p, 2, none⟩ (.bool d)) p g c ⟨m.b, m.left, d⟩ := by
  refine ⟨?_, ?_, ?_, ?_, ?_, ?_, ?_, h.ne⟩
  · rw [cell_store h.c0]; rfl
  · rw [cell_store h.c1]; rfl
  · rw [cell_store h.c2]; rfl
  · rw [World.frozen?_setCell]; exact h.f0
  · rw [World.frozen?_setCell]; exact h.f1
  · rw [World.frozen?_setCell]; exact h.f2
  · exact h.own.keep (.set (fun k => k = p) _ _ _ rfl) (fun k e => by simp [Value.ownBlock] at e; subst e; exact fun e => h.ne e.symm)
/-- other bytes, as many -/
theorem DAt.turned (h : DAt w p g c m) (q : Keeps (fun k => k = g) w w') {b : List UInt8} (hl : b.length = m.b.length) (ho : Own w' 0 (.slice (some ⟨g, 0, none⟩) m.b.length c) b) : DAt w' p g c ⟨b, m.left, m.dead⟩ := by
  have hp : ¬ p = g := h.ne
  refine ⟨?_, q.cell h.c1 hp, q.cell h.c2 hp, q.frozen h.c0 hp h.f0, q.frozen h.c1 hp h.f1, q.frozen h.c2 hp h.f2, ?_, h.ne⟩
  · show w'.cell? ⟨p, 0, none⟩ = some (.slice (some ⟨g, 0, none⟩) b.length c)
    rw [hl]; exact q.cell h.c0 hp
  · show Own w' 0 (.slice (some ⟨g, 0, none⟩) b.length c) b
    rw [hl]; exact ho
end
theorem keeps_left (w : World) (p i : Nat) (v : Value) : Keeps (fun k => k = p) w (w.setCell ⟨p, i, none⟩ v) := .set _ _ _ _ rfl

/-! the calls -/
theorem size_any (p g c : Nat) (m : Dk) (w : World) (h : DAt w p g c m) (hl : m.b.length ≤ 32768) :
    Calls Try.prog 21 #[.pointer (some ⟨p, 0, none⟩)] w fun e w' => e = .returned (.int .i64 ((m.b.length / 64 : Nat) : Int)) ∧ w = w' := by
  have c0 := h.c0
  have hq : ((m.b.length : Nat) : Int).tdiv 64 = ((m.b.length / 64 : Nat) : Int) := rfl
  have hs : m.b.length / 64 ≤ 512 := by omega
  generalize m.b.length / 64 = s at *
  generalize m.b.length = n at *
  clear h
  go_enter Try.func21, Try.ntmps21
  go_wp2
  go_ret
  exact ⟨rfl, rfl⟩
theorem size_nil (w : World) : Calls Try.prog 21 #[.pointer none] w fun e w' => e = .returned (.int .i64 0) ∧ w = w' := by
  go_enter Try.func21, Try.ntmps21
  go_wp2
  go_ret
  exact ⟨rfl, rfl⟩
theorem dead_any (p g c : Nat) (m : Dk) (w : World) (h : DAt w p g c m) :
    Calls Try.prog 20 #[.pointer (some ⟨p, 0, none⟩)] w fun e w' => e = .returned (.bool m.dead) ∧ w = w' := by
  have c2 := h.c2
  generalize m.dead = d at *
  clear h
  go_enter Try.func20, Try.ntmps20
  go_wp2
  go_ret
  exact ⟨rfl, rfl⟩
theorem dead_nil (w : World) : Calls Try.prog 20 #[.pointer none] w fun e w' => e = .returned (.bool true) ∧ w = w' := by
  go_enter Try.func20, Try.ntmps20
  go_wp2
  go_ret
  exact ⟨rfl, rfl⟩
theorem power_any (p g c : Nat) (m : Dk) (n : Int) (w : World) (h : DAt w p g c m) :
    Calls Try.prog 12 #[.pointer (some ⟨p, 0, none⟩), .int .i64 n] w fun e w' => e = .returned (.tuple #[]) ∧ DAt w' p g c ⟨m.b, n, false⟩ ∧ Keeps (fun k => k = p) w w' := by
  have hr := (h.setLeft n).setDead false
  have hk := (keeps_left w p 1 (.int .i64 n)).trans (keeps_left _ p 2 (.bool false))
  have HR := Lib.hid hr; have HK := Lib.hid hk
  have c1 := h.c1; have c2 := h.c2; have f1 := h.f1; have f2 := h.f2
  generalize m.dead = d at *
  generalize m.left = z at *
  clear h hr hk
  go_enter Try.func12, Try.ntmps12
  go_wp2
  go_end0
  exact ⟨rfl, HR.out, HK.out⟩
theorem power_nil (n : Int) (w : World) : Calls Try.prog 12 #[.pointer none, .int .i64 n] w fun e w' => e = .returned (.tuple #[]) ∧ w = w' := by
  go_enter Try.func12, Try.ntmps12
  go_wp2
  refine bodyPost_ret (results_none rfl _ _ _) rfl ?_
  exact ⟨rfl, rfl⟩
/-- the bytes of a sector, where they lie -/
def ownV (g : Nat) (b : List UInt8) (i : Int) : Value := if isS b i then .slice (some ⟨g, 64 * i.toNat, none⟩) 64 64 else .slice none 0 0
theorem own_any (p g c : Nat) (m : Dk) (i : Int) (w : World) (h : DAt w p g c m) (hl : m.b.length ≤ 32768) (hi : -9223372036854775808 ≤ i ∧ i ≤ 9223372036854775807) :
    Calls Try.prog 26 #[.pointer (some ⟨p, 0, none⟩), .int .i64 i] w fun e w' => e = .returned (ownV g m.b i) ∧ w = w' := by
  have hS := size_any p g c m w h hl
  have hiff : isS m.b i = decide (0 ≤ i ∧ i < ((m.b.length / 64 : Nat) : Int)) := rfl
  have hq : m.b.length / 64 ≤ 512 := by omega
  have hq2 : 64 * (m.b.length / 64) ≤ m.b.length := by omega
  have hcap := h.cap
  have c0 := h.c0
  have hv : ownV g m.b i = if isS m.b i then .slice (some ⟨g, 64 * i.toNat, none⟩) 64 64 else .slice none 0 0 := rfl
  generalize ownV g m.b i = V at *
  generalize m.b.length / 64 = s at *
  generalize m.b.length = n at *
  unfold maxLen at hcap
  by_cases h0 : i < 0
  · rw [hiff, decide_eq_false (by omega), if_neg (by decide)] at hv
    subst hv
    clear h hiff
    go_enter Try.func26, Try.ntmps26
    go_wp2
    go_ret
    exact ⟨rfl, rfl⟩
  · obtain ⟨j, rfl⟩ := Int.eq_ofNat_of_zero_le (show 0 ≤ i by omega)
    by_cases h1 : s ≤ j
    · rw [hiff, decide_eq_false (by omega), if_neg (by decide)] at hv
      subst hv
      clear h hiff
      go_enter Try.func26, Try.ntmps26
      go_wp2_with fail
      refine hS.mono ?_
      rintro e w1 ⟨rfl, rfl⟩
      go_wp2
      go_ret
      exact ⟨rfl, rfl⟩
    · rw [hiff, decide_eq_true (by omega), if_pos rfl, Int.toNat_natCast] at hv
      subst hv
      have i1 : IntKind.i64.wrap ((j : Int) * 64) = ((64 * j : Nat) : Int) := by rw [IntWalk.i64_in _ (by omega)]; omega
      obtain ⟨x, hx⟩ : ∃ x, x = 64 * j := ⟨_, rfl⟩
      rw [← hx] at i1 ⊢
      have i2 : IntKind.i64.wrap ((x : Int) + 64) = ((x + 64 : Nat) : Int) := by rw [IntWalk.i64_in _ (by omega)]; rfl
      obtain ⟨y, hy⟩ : ∃ y, y = x + 64 := ⟨_, rfl⟩
      rw [← hy] at i2
      have j1 : x ≤ y := by omega
      have j2 : y ≤ c := by omega
      have j3 : y - x = 64 := by omega
      have j4 : ¬ c = x := by omega
      have j5 : ¬ y = x := by omega
      clear h hiff hx hy
      go_enter Try.func26, Try.ntmps26
      go_wp2_with fail
      refine hS.mono ?_
      rintro e w1 ⟨rfl, rfl⟩
      go_wp2
      go_ret
      exact ⟨by simp, rfl⟩
theorem own_nil (i : Int) (w : World) : Calls Try.prog 26 #[.pointer none, .int .i64 i] w fun e w' => e = .returned (.slice none 0 0) ∧ w = w' := by
  by_cases h0 : i < 0
  · go_enter Try.func26, Try.ntmps26
    go_wp2
    go_ret
    exact ⟨rfl, rfl⟩
  · go_enter Try.func26, Try.ntmps26
    go_wp2_with fail
    refine (size_nil w).mono ?_
    rintro e w1 ⟨rfl, rfl⟩
    go_wp2
    go_ret
    exact ⟨rfl, rfl⟩
/-- the power for one more sector is used -/
theorem lasts_any (p g c : Nat) (m : Dk) (w : World) (h : DAt w p g c m) (hz : -9223372036854775808 ≤ m.left ∧ m.left ≤ 9223372036854775807) :
    Calls Try.prog 28 #[.pointer (some ⟨p, 0, none⟩)] w fun e w' => e = .returned (.bool (!decide (m.left = 0))) ∧ DAt w' p g c ⟨m.b, if 0 < m.left then m.left - 1 else m.left, decide (m.left = 0)⟩ ∧ Keeps (fun k => k = p) w w' := by
  obtain ⟨d, hd⟩ : ∃ d, d = decide (m.left = 0) := ⟨_, rfl⟩
  have q : (m.left == 0) = d := by rw [hd]; rfl
  have hr := h.setDead d
  have hk := keeps_left w p 2 (.bool d)
  have HR := Lib.hid hr; have HK := Lib.hid hk
  have c1 := h.c1; have c2 := h.c2; have f1 := h.f1; have f2 := h.f2
  have d1 := hr.c1; have d2 := hr.c2; have g1 := hr.f1; have g2 := hr.f2
  simp only at d1 d2
  by_cases h0 : 0 < m.left
  · have hr2 := hr.setLeft (m.left - 1)
    have hk2 := hk.trans (keeps_left _ p 1 (.int .i64 (m.left - 1)))
    have e2 := hr2.c2
    simp only at e2
    have i1 : IntKind.i64.wrap (m.left - 1) = m.left - 1 := IntWalk.i64_in _ (by omega)
    rw [if_pos h0, ← hd]
    have HR2 := Lib.hid hr2; have HK2 := Lib.hid hk2
    generalize m.left = z at *
    clear h hr hk hr2 hk2 hd HR HK
    go_enter Try.func28, Try.ntmps28
    go_wp2
    go_ret
    exact ⟨rfl, HR2.out, HK2.out⟩
  · rw [if_neg h0, ← hd]
    generalize m.left = z at *
    clear h hr hk hd
    go_enter Try.func28, Try.ntmps28
    go_wp2
    go_ret
    exact ⟨rfl, HR.out, HK.out⟩
theorem Own.make (w : World) (n : Nat) (hn : n ≤ maxLen) : Own (w.alloc (.cells (cells (List.replicate n 0)) 5)) 0 (.slice (some ⟨w.heap.size, 0, none⟩) n n) (List.replicate n 0) := by
  refine ⟨by simp [vals], .inr ⟨w.heap.size, n, _, by rw [List.length_replicate], Nat.zero_le _, heap_alloc_new w _, by rw [List.length_replicate]; exact Nat.le_refl _, hn, by rw [cells_size, List.length_replicate]; omega, ?_⟩⟩
  unfold cells
  rw [List.length_replicate, Nat.mul_one, List.take_of_length_le (by rw [vals_len, List.length_replicate]; exact Nat.le_refl _)]
theorem new_at (w : World) (n : Nat) (hn : n ≤ 32768) (z : Int) (t : TypeId) :
    DAt ((w.alloc (.cells (cells (List.replicate n 0)) 5)).alloc (.cells #[.slice (some ⟨w.heap.size, 0, none⟩) n n, .int .i64 z, .bool false] t)) (w.heap.size + 1) w.heap.size n ⟨SecM.noughts n, z, false⟩ := by
  have ho := (Own.make w n (by unfold maxLen; omega)).alloc (.cells #[.slice (some ⟨w.heap.size, 0, none⟩) n n, .int .i64 z, .bool false] t)
  have hz : (w.alloc (.cells (cells (List.replicate n 0)) 5)).heap.size = w.heap.size + 1 := by simp
  have hl : (SecM.noughts n).length = n := SecM.noughts_len n
  refine ⟨?_, ?_, ?_, ?_, ?_, ?_, ?_, by omega⟩
  · rw [← hz]; simp [hl]
  · rw [← hz]; simp
  · rw [← hz]; simp
  · rw [← hz]; simp
  · rw [← hz]; simp
  · rw [← hz]; simp
  · show Own _ 0 (.slice (some ⟨w.heap.size, 0, none⟩) (SecM.noughts n).length n) (SecM.noughts n)
    rw [hl]; exact ho
theorem new_any (n : Int) (w : World) (hn : -9223372036854775808 ≤ n ∧ n ≤ 9223372036854775807) :
    Calls Try.prog 8 #[.int .i64 n] w fun e w' => ∃ p g c, e = .returned (.pointer (some ⟨p, 0, none⟩)) ∧ DAt w' p g c (new_ n) ∧ w.heap.size ≤ p ∧ w.heap.size ≤ g ∧ Below w.heap.size w w' := by
  obtain ⟨s, hs⟩ : ∃ s, s = size n := ⟨_, rfl⟩
  have hr := size_range n
  have hm1 : min (max n 1) 512 = (s : Int) := by
    rw [hs]; unfold size
    split
    · omega
    · split <;> omega
  obtain ⟨M, hM⟩ : ∃ M, M = max n 1 := ⟨_, rfl⟩
  rw [← hM] at hm1
  have hnew : new_ n = ⟨SecM.noughts (64 * s), -1, false⟩ := by rw [hs]; rfl
  rw [hnew]
  rw [← hs] at hr
  have i1 : IntKind.i64.wrap ((s : Int) * 64) = ((64 * s : Nat) : Int) := by rw [IntWalk.i64_in _ (by omega)]; omega
  obtain ⟨x, hx⟩ : ∃ x, x = 64 * s := ⟨_, rfl⟩
  rw [← hx] at i1 ⊢
  have hmk := fun W => make_u8 x (by omega) W
  have HN := Lib.hid (new_at w x (by omega) (-1) 47)
  have hM2 := hM.symm
  clear hs hnew hx hM
  go_enter Try.func8, Try.ntmps8
  go_wp2
  go_ret
  exact ⟨w.heap.size + 1, w.heap.size, x, rfl, HN.out, Nat.le_succ _, Nat.le_refl _, bstep (balloc w _) (balloc _ _)⟩
end Go.Proofs.Yteiemkaeeghhhaa.Disk
