/- the contracts of package matrix: matrices that are made -/
import Derived.Test.YtmkadcnommoihaaMatC
import Derived.Lib.SliceRun
namespace Go.Proofs.Ytmkadcnommoihaa.Matrix
open Go.RowKit

def nils (n : Nat) : Array Value := Array.replicate n (.slice none 0 0)
theorem make_rows (n : Nat) (hn : n ≤ 1048576) (w : World) :
    (Instr.makeSlice 22 (.int .i64 (n : Int)) (.int .i64 (n : Int))).run Try.prog w = .ok (.slice (some ⟨w.heap.size, 0, none⟩) n n) (w.alloc (.cells (nils n) 23)) := by
  obtain ⟨i0, hi, hz, hs, hb⟩ := sl_info'
  have hr := run_make (P := Try.prog) w 22 23 i0 _ Try.underlying22 hi hz .i64 .i64 n n (by omega) (by omega) (by rw [hb]; omega) (by omega)
  simp only [Int.toNat_natCast] at hr
  rw [hr, hs, Nat.mul_one]
  congr 2
  have : madeCells (Value.slice none 0 0).cells n = nils n := by
    apply Array.ext'
    rw [show (Value.slice none 0 0).cells = #[.slice none 0 0] from rfl, toList_madeCells_one]
    simp [nils]
  rw [this]
/-- places of a list of lists that may be written -/
def Slots (w : World) (g n : Nat) : Prop := ∀ i, i < n → (∃ v, w.cell? ⟨g, i, none⟩ = some v) ∧ w.frozen? ⟨g, i, none⟩ = false
theorem Slots.new (w : World) (n : Nat) : Slots (w.alloc (.cells (nils n) 23)) w.heap.size n := fun i hi => by
  refine ⟨⟨.slice none 0 0, ?_⟩, by simp⟩
  rw [World.cell?_alloc_new]; unfold nils; rw [Array.getElem?_replicate, if_pos hi]
theorem Slots.below {w w' : World} {g n : Nat} (h : Slots w g n) (hb : Below w.heap.size w w') : Slots w' g n := fun i hi => by
  obtain ⟨⟨v, h1⟩, h2⟩ := h i hi
  exact ⟨⟨v, (hb.cell (p := ⟨g, i, none⟩) (cell_lt h1)).trans h1⟩, (hb.frozen (p := ⟨g, i, none⟩) (cell_lt h1)).trans h2⟩
theorem Slots.set {w : World} {g n : Nat} (h : Slots w g n) (p : Addr) (u : Value) : Slots (w.setCell p u) g n := fun i hi => by
  obtain ⟨⟨v, h1⟩, h2⟩ := h i hi
  refine ⟨?_, by rw [World.frozen?_setCell]; exact h2⟩
  by_cases e : p = ⟨g, i, none⟩
  · subst e; exact ⟨u, World.cell?_setCell_same _ _ _ h1⟩
  · exact ⟨v, (World.cell?_setCell_other _ _ _ _ e).trans h1⟩

/-- a row that has just been made is put into its place -/
theorem put_alloc {w0 : World} {lo k n g N : Nat} {gs cs : Nat → Nat} {m : MatM.Mat} (h : Mtx w0 lo w0.heap.size k n g gs cs m) (hs : Slots w0 g N) (hk : k < N) (o : Obj) {c : Nat} {u : Nat → UInt8} (hcap : n ≤ c ∧ c ≤ maxLen)
    (hr : RowF ((w0.setCell ⟨g, k, none⟩ (.slice (some ⟨w0.heap.size, 0, none⟩) n c)).alloc o) w0.heap.size n u) :
    ∃ gs' cs', Mtx ((w0.setCell ⟨g, k, none⟩ (.slice (some ⟨w0.heap.size, 0, none⟩) n c)).alloc o) lo ((w0.setCell ⟨g, k, none⟩ (.slice (some ⟨w0.heap.size, 0, none⟩) n c)).alloc o).heap.size (k + 1) n g gs' cs' (MatM.setRow m k u) := by
  have hg := h.footg
  have hz : (w0.setCell ⟨g, k, none⟩ (.slice (some ⟨w0.heap.size, 0, none⟩) n c)).heap.size = w0.heap.size := by simp [World.setCell]
  have past : ∀ i, ((w0.setCell ⟨g, k, none⟩ (.slice (some ⟨w0.heap.size, 0, none⟩) n c)).alloc o).cell? ⟨g, i, none⟩ = (w0.setCell ⟨g, k, none⟩ (.slice (some ⟨w0.heap.size, 0, none⟩) n c)).cell? ⟨g, i, none⟩ := fun i =>
    World.cell?_alloc_past _ _ _ (by rw [hz]; exact hg.2)
  have pastf : ∀ i, ((w0.setCell ⟨g, k, none⟩ (.slice (some ⟨w0.heap.size, 0, none⟩) n c)).alloc o).frozen? ⟨g, i, none⟩ = w0.frozen? ⟨g, i, none⟩ := fun i => by
    rw [((balloc _ _).frozen (p := ⟨g, i, none⟩) (by rw [hz]; exact hg.2)), World.frozen?_setCell]
  obtain ⟨⟨v, c1⟩, f1⟩ := hs k hk
  refine ⟨_, _, h.put ((Keeps.set (fun x => x = g) w0 ⟨g, k, none⟩ _ rfl).trans (.of_below _ (balloc _ _))) (fun i hi => ⟨?_, pastf i⟩) ?_ ((pastf k).trans f1) hr hcap (Nat.le_refl _) (by simp [World.setCell]) (by have := hg.1; have := hg.2; omega)⟩
  · rw [past, World.cell?_setCell_other _ _ _ _ (by intro e; injection e with _ e _; omega)]
  · rw [past]; exact World.cell?_setCell_same _ _ _ c1
theorem unitRow_set (n k : Nat) (h : k < n) : (cells (List.replicate n 0)).setIfInBounds k (.int .u8 1) = cells (MatM.unitRow n k) := by
  have : (List.replicate n (0 : UInt8)).set k 1 = MatM.unitRow n k := by
    rw [← PolyM.tab_rep, PolyM.tab_set _ _ _ _ h]
    unfold MatM.unitRow MatM.one
    exact PolyM.tab_congr fun i _ => by
      by_cases e : i = k
      · rw [if_pos e, if_pos e.symm]
      · rw [if_neg e, if_neg (Ne.symm e)]
  rw [← this]
  unfold cells vals; rw [List.map_set, List.setIfInBounds_toArray]; rfl

theorem unit_mtx (n : Nat) (w : World) (hn : n ≤ 1048576) : Calls Try.prog 31 #[.int .i64 (n : Nat)] w fun e w' =>
    ∃ g gs cs, e = .returned (.slice (some ⟨g, 0, none⟩) n n) ∧ Mtx w' w.heap.size w'.heap.size n n g gs cs MatM.one ∧ Below w.heap.size w w' := by
  have hmk := fun W => make_u8 n (by omega) W
  have hmk2 := fun W => make_rows n hn W
  go_enter Try.func31, Try.ntmps31
  go_wp2
  clear hmk2
  go_loopw [9] (fun i wr => ∃ k : Nat, k ≤ n ∧ i = .int .i64 k ∧ (∃ gs cs, Mtx wr w.heap.size wr.heap.size k n w.heap.size gs cs MatM.one) ∧ Slots wr w.heap.size n ∧ Below w.heap.size w wr)
    (fun i _ => n - (intOf i).toNat)
  case atStart => exact ⟨0, Nat.zero_le _, rfl, ⟨fun _ => 0, fun _ => 0, fun i h => by omega, fun i h => by omega, fun i h => by omega, fun i j h => by omega, fun i h => by omega, fun i h => by omega, ⟨Nat.le_refl _, by simp⟩⟩, Slots.new _ _, balloc _ _⟩
  case round =>
    obtain ⟨k, hk, rfl, ⟨gs, cs, hm⟩, hs, hb⟩ := hrel
    rename World => w0
    by_cases hlt : k < n
    · obtain ⟨⟨v, c1⟩, f1⟩ := hs k hlt
      have hgl : w.heap.size < w0.heap.size := hm.footg.2
      have hne : w.heap.size ≠ w0.heap.size := by omega
      have hne2 : w0.heap.size ≠ w.heap.size := by omega
      have hcz : (cells (List.replicate n 0))[k]? = some (.int .u8 0) := by
        unfold cells; rw [List.getElem?_toArray, vals_get _ _ (by simpa using hlt)]; simp
      have HM := Lib.hid hm; have HS := Lib.hid hs
      clear hm hs
      go_wp2
      go_roundw
      case rel =>
        rw [unitRow_set n k hlt]
        obtain ⟨gs', cs', hm'⟩ := put_alloc HM.out HS.out hlt (.cells (cells (MatM.unitRow n k)) 5) (c := n) (u := PolyM.co (MatM.unitRow n k)) ⟨Nat.le_refl _, by unfold maxLen; omega⟩
          (by have h := RowF.of_row (Row.new (w0.setCell ⟨w.heap.size, k, none⟩ (.slice (some ⟨w0.heap.size, 0, none⟩) n n)) (MatM.unitRow n k)) (MatM.unitRow_len n k)
              rw [show (w0.setCell ⟨w.heap.size, k, none⟩ (.slice (some ⟨w0.heap.size, 0, none⟩) n n)).heap.size = w0.heap.size from by simp [World.setCell]] at h
              exact h)
        exact ⟨k + 1, by omega, by go_num, ⟨gs', cs', hm'.congr fun i j _ hj => by
          unfold MatM.setRow
          by_cases e : i = k
          · subst e; rw [if_pos rfl]; unfold MatM.unitRow; rw [PolyM.co_tab, if_pos hj]
          · rw [if_neg e]⟩, (HS.out.set _ _).below (balloc _ _), (hb.setCell (Nat.le_refl _) _).alloc (by simp [World.setCell]; omega) _⟩
      case measure => simp [intOf] <;> omega
    · obtain rfl : k = n := by omega
      have HM := Lib.hid hm
      clear hm
      go_wp2
      go_ret
      exact ⟨_, gs, cs, rfl, HM.out, hb⟩

theorem clone_any (A : Option Addr) (l : List UInt8) (c : Nat) (w : World) (h : BytesAt w A l) (hl : l.length ≤ 1048576) (h0 : 0 < l.length) :
    Calls Try.prog 51 #[.slice A l.length c] w fun e w' => ∃ b cp, e = .returned (.slice (some ⟨b, 0, none⟩) l.length cp) ∧ l.length ≤ cp ∧ cp ≤ maxLen ∧ RowF w' b l.length (PolyM.co l) ∧ Below w.heap.size w w' ∧ w.heap.size ≤ b ∧ b < w'.heap.size := by
  obtain ⟨b, o, hA, _⟩ := h 0 h0
  subst hA
  have hq : ∀ W, (binOp .eql 23 (.slice (some ⟨b, o, none⟩) l.length c) (.slice none 0 0)).run Try.prog W = .ok (.bool false) W := fun W => Lib.run_eql_slice_nil W _ _ _ _ _ _ _ Try.underlying23
  have HB := Lib.hid h
  clear h
  go_enter Try.func51, Try.ntmps51
  go_wp2_with (at_builtin; refine wpList_append_bytes rfl (.tmp 5) (.tmp 6) rfl w.heap.size (.slice (some ⟨w.heap.size, 0, none⟩) 0 0) [] l rfl (Own.empty w _ (Nat.le_refl _)) (some ⟨b, o, none⟩) _ _ rfl rfl (HB.out.alloc _) (by simp; omega) (by simp) ?_; intro v1 w1 hown1 hb1)
  go_ret
  have hb : Below w.heap.size w w1 := (balloc w _).trans hb1
  rw [List.nil_append] at hown1
  rcases hown1.2 with ⟨_, hn⟩ | ⟨g, cap, cur, rfl, hg, h3, h4, h5, h6, h7⟩
  · omega
  · have hgl : g < w1.heap.size := by
      rcases Nat.lt_or_ge g w1.heap.size with hlt | hge
      · exact hlt
      · rw [Array.getElem?_eq_none hge] at h3; cases h3
    refine ⟨g, cap, rfl, h4, h5, fun i hi => ⟨?_, by simp [World.frozen?, h3]⟩, hb, hg, hgl⟩
    rw [cell_of_row w1 g i cur 5 (0, 0) h3, PolyM.co_get l i hi, ← vals_get l i hi, ← h7, Nat.mul_one, List.getElem?_take, if_pos hi]
    simp

/-- a row is put into its place -/
theorem put_new {w1 : World} {lo hi k n g N b c : Nat} {gs cs : Nat → Nat} {m : MatM.Mat} {u : Nat → UInt8} (h : Mtx w1 lo hi k n g gs cs m) (hs : Slots w1 g N) (hk : k < N) (hr : RowF w1 b n u) (hcap : n ≤ c ∧ c ≤ maxLen) (hb : hi ≤ b) (hb2 : b < w1.heap.size) :
    ∃ gs' cs', Mtx (w1.setCell ⟨g, k, none⟩ (.slice (some ⟨b, 0, none⟩) n c)) lo (w1.setCell ⟨g, k, none⟩ (.slice (some ⟨b, 0, none⟩) n c)).heap.size (k + 1) n g gs' cs' (MatM.setRow m k u) := by
  have hg := h.footg
  obtain ⟨⟨v, c1⟩, f1⟩ := hs k hk
  have q := Keeps.set (fun x => x = g) w1 ⟨g, k, none⟩ (.slice (some ⟨b, 0, none⟩) n c) rfl
  refine ⟨_, _, h.put q (fun i hi => ⟨?_, World.frozen?_setCell _ _ _ _⟩) (World.cell?_setCell_same _ _ _ c1) ((World.frozen?_setCell _ _ _ _).trans f1) (hr.keep q (by have := hg.2; omega)) hcap hb (by simp [World.setCell]; exact hb2) (by have := hg.1; have := hg.2; omega)⟩
  rw [World.cell?_setCell_other _ _ _ _ (by intro e; injection e with _ e _; omega)]

theorem copied_mtx (A : Option Addr) (a : List (List UInt8)) (c : Nat) (w : World) (h : RowsAt w A a) (hl : a.length ≤ 1048576) (hsq : MatM.allW a a.length = true) : Calls Try.prog 33 #[.slice A a.length c] w fun e w' =>
    ∃ g gs cs, e = .returned (.slice (some ⟨g, 0, none⟩) a.length a.length) ∧ Mtx w' w.heap.size w'.heap.size a.length a.length g gs cs (MatM.mat a) ∧ Below w.heap.size w w' := by
  have hmk2 := fun W => make_rows a.length hl W
  have HSQ := Lib.hid hsq
  clear hsq
  go_enter Try.func33, Try.ntmps33
  go_wp2
  clear hmk2
  go_loopw [11] (fun i wr => ∃ k : Nat, k ≤ a.length ∧ i = .int .i64 k ∧ (∃ gs cs, Mtx wr w.heap.size wr.heap.size k a.length w.heap.size gs cs (MatM.mat a)) ∧ Slots wr w.heap.size a.length ∧ Below w.heap.size w wr)
    (fun i _ => a.length - (intOf i).toNat)
  case atStart => exact ⟨0, Nat.zero_le _, rfl, ⟨fun _ => 0, fun _ => 0, fun i h => by omega, fun i h => by omega, fun i h => by omega, fun i j h => by omega, fun i h => by omega, fun i h => by omega, ⟨Nat.le_refl _, by simp⟩⟩, Slots.new _ _, balloc _ _⟩
  case round =>
    obtain ⟨k, hk, rfl, ⟨gs, cs, hm⟩, hs, hb⟩ := hrel
    rename World => w0
    by_cases hlt : k < a.length
    · obtain ⟨b, o, B, cb, hA, e1, hc1, hc2, p1⟩ := (h.below hb).row hlt
      subst hA
      have hlen : a[k].length = a.length := (MatM.allW_iff _ _).1 HSQ.out k hlt
      have hpos : 0 < a[k].length := by omega
      have hle : a[k].length ≤ 1048576 := by omega
      obtain ⟨⟨v, c1⟩, f1⟩ := hs k hlt
      have hgl : w.heap.size < w0.heap.size := hm.footg.2
      have hco : ∀ j, MatM.mat a k j = PolyM.co a[k] j := fun j => by unfold MatM.mat; rw [MatM.rowAt_get _ _ hlt]
      have HM := Lib.hid hm; have HS := Lib.hid hs; have HL := Lib.hid hlen; have P1 := Lib.hid p1; have HCO := Lib.hid hco
      clear hm hs hlen p1 hco
      generalize a[k] = r at *
      go_wp2_with fail
      refine (clone_any B r cb w0 P1.out hle hpos).mono ?_
      rintro e w1 ⟨b3, cp, rfl, hp1, hp2, hr3, hb1, hb3, hb4⟩
      have k1 := (hb1.cell (p := ⟨w.heap.size, k, none⟩) hgl).trans c1
      have k2 := (hb1.frozen (p := ⟨w.heap.size, k, none⟩) hgl).trans f1
      have hr4 : RowF w1 b3 a.length (PolyM.co r) := by rw [← HL.out]; exact hr3
      have hp1' : a.length ≤ cp := by rw [← HL.out]; exact hp1
      obtain ⟨gs', cs', hm'⟩ := put_new (HM.out.below hb1) (HS.out.below hb1) hlt hr4 ⟨hp1', hp2⟩ hb3 hb4
      rw [← HL.out] at hm'
      have HM2 := Lib.hid hm'; have HS2 := Lib.hid (HS.out.below hb1)
      have hz1 := hb1.size
      clear hr3 hr4 hm'
      go_wp2
      go_roundw
      case rel =>
        have hm2 := HM2.out
        rw [HL.out] at hm2 ⊢
        exact ⟨k + 1, by omega, by go_num, ⟨gs', cs', hm2.congr fun i j _ _ => by
          unfold MatM.setRow
          by_cases e : i = k
          · subst e; rw [if_pos rfl, HCO.out]
          · rw [if_neg e]⟩, HS2.out.set _ _, (hb.trans (hb1.mono hb.size)).setCell (Nat.le_refl _) _⟩
      case measure => simp [intOf] <;> omega
    · obtain rfl : k = a.length := by omega
      have HM := Lib.hid hm
      clear hm
      go_wp2
      go_ret
      exact ⟨_, gs, cs, rfl, HM.out, hb⟩
end Go.Proofs.Ytmkadcnommoihaa.Matrix
