/- the document's own answers of layer 6 -/
import Derived.Test.YtjoocjkakgjgmaaMats
import Derived.Test.YtjoocjkakgjgmaaMMA
import Derived.Deep.QuietTactic
import Derived.IntWalk
import Derived.Deep.RegionHeld3
set_option maxRecDepth 100000
namespace Go.Proofs.Ytjoocjkakgjgmaa.R06
open Go.RowKit

theorem width_any (k : Int) (w : World) :
    Calls Try.prog 65 #[.int .i64 k] w fun e w' => e = .returned (.int .i64 (PackM.wid k : Nat)) ∧ w = w' := by
  by_cases h1 : k < 1
  · have hw : PackM.wid k = 1 := by unfold PackM.wid; rw [if_pos h1]
    have HW := Lib.hid hw
    clear hw
    go_enter Try.func65, Try.ntmps65
    go_wp2
    go_ret
    exact ⟨ret_int (by rw [HW.out]; rfl), rfl⟩
  · by_cases h2 : 4 < k
    · have hw : PackM.wid k = 4 := by unfold PackM.wid; rw [if_neg h1, if_pos h2]
      have HW := Lib.hid hw
      clear hw
      go_enter Try.func65, Try.ntmps65
      go_wp2
      go_ret
      exact ⟨ret_int (by rw [HW.out]; rfl), rfl⟩
    · have hw : PackM.wid k = k.toNat := by unfold PackM.wid; rw [if_neg h1, if_neg h2]
      have HW := Lib.hid hw
      clear hw
      go_enter Try.func65, Try.ntmps65
      go_wp2
      go_ret
      exact ⟨ret_int (by rw [HW.out]; omega), rfl⟩

theorem num_any (k n : Int) (w : World) (hk : -9223372036854775808 ≤ n ∧ n ≤ 9223372036854775807) :
    Calls Try.prog 39 #[.int .i64 k, .int .i64 n] w (RetNew w (PackM.numB k n)) := by
  obtain ⟨hw1, hw4⟩ := PackM.wid_range k
  obtain ⟨W, hW⟩ : ∃ W, W = PackM.wid k := ⟨_, rfl⟩
  obtain ⟨m, hm⟩ : ∃ m, m = n.toNat := ⟨_, rfl⟩
  have hres : PackM.numB k n = PackM.be W m := by unfold PackM.numB; rw [hW, hm]
  rw [hres]
  rw [← hW] at hw1 hw4
  have C := fun w => width_any k w
  rw [← hW] at C
  have HC := Lib.hid C
  clear hres hW C
  have hmk := fun W' => make_u8 W (by omega) W'
  by_cases hneg : n < 0
  all_goals
    go_enter Try.func39, Try.ntmps39
    go_wp2_with fail
    refine (HC.out w).mono ?_
    rintro e w' ⟨rfl, rfl⟩
    rename World => w0
    go_wp2_with fail
    go_loopw [1, 6] (fun v i wr => ∃ s : Nat, s ≤ W ∧ i = .int .i64 ((W : Int) - 1 - s) ∧ v = .int .i64 ((m / 256 ^ s : Nat) : Int) ∧ Row wr w0.heap.size (PackM.numTo W m s) ∧ Below w0.heap.size w0 wr)
      (fun _ i _ => (intOf i + 1).toNat)
    case atStart =>
      refine ⟨0, Nat.zero_le _, by simp, ?_, by rw [PackM.numTo_zero]; exact Row.new _ _, balloc _ _⟩
      rw [Nat.pow_zero, Nat.div_one, hm]
      first
        | (congr 1; omega)
    case round =>
      obtain ⟨s, hs, rfl, rfl, hr, hb⟩ := hrel
      clear hmk
      by_cases hlt : s < W
      · have hst := PackM.numTo_step W m s hlt
        have hl := PackM.numTo_len W m s hs
        obtain ⟨d, hd⟩ : ∃ d, d = W - s - 1 := ⟨_, rfl⟩
        have hdl : d < (PackM.numTo W m s).length := by rw [hl]; omega
        have hf := hr.frozen d
        have hc := hr.cell d hdl
        have hdd : m / 256 ^ (s + 1) = m / 256 ^ s / 256 := by rw [Nat.pow_succ, Nat.div_div_eq_div_mul]
        have hq : m / 256 ^ s ≤ m := Nat.div_le_self _ _
        obtain ⟨q, hqq⟩ : ∃ q, q = m / 256 ^ s := ⟨_, rfl⟩
        rw [← hqq] at hst hdd hq ⊢
        rw [← hd] at hst
        have i1 : (W : Int) - 1 - s = (d : Int) := by omega
        rw [i1]
        obtain ⟨y, hy⟩ : ∃ y, y = UInt8.ofNat (q % 256) := ⟨_, rfl⟩
        have hyv : ((q : Int) % 256 % 256) = (y.toNat : Nat) := by rw [hy, UInt8.toNat_ofNat_of_lt' (by simp only [UInt8.size]; omega)]; omega
        have hyv2 : ((q : Int) % 256) = (y.toNat : Nat) := by omega
        have hml : (m : Int) ≤ 9223372036854775807 := by omega
        have hql : (q : Int) ≤ 9223372036854775807 := by omega
        rw [← hy] at hst
        have i2 : d < W := by omega
        have HST := Lib.hid hst; have HR := Lib.hid hr; have HDD := Lib.hid hdd; have HD := Lib.hid hd
        generalize (PackM.numTo W m s)[d] = old at *
        clear hst hr hl hdd hqq hd hy i1 hm hdl
        go_wp2
        go_roundw
        case rel =>
          refine ⟨s + 1, by omega, ?_, ?_, by rw [← HST.out]; exact HR.out.set d y, hb.setCell (Nat.le_refl _) _⟩
          · have := HD.out; congr 1; omega
          · rw [HDD.out]; congr 1
        case measure => simp [intOf] <;> omega
      · obtain rfl : s = W := by omega
        rw [PackM.numTo_done] at hr
        have HR := Lib.hid hr
        clear hr
        go_wp2
        go_ret
        have := RetNew.of_row HR.out hb (by rw [PackM.be_len]; unfold maxLen; omega) (Nat.le_refl _)
        rw [PackM.be_len] at this
        exact this

theorem text_any (A : Option Addr) (l : List UInt8) (c : Nat) (w : World) (h : BytesAt w A l) (hc : l.length ≤ c) (hc2 : c ≤ maxLen) (hl : l.length ≤ 1099511627) :
    Calls Try.prog 40 #[.slice A l.length c] w (RetNew w (PackM.textB l)) := by
  unfold maxLen at hc2
  have H := Lib.hid h
  clear h
  by_cases h5 : 255 < l.length
  · obtain ⟨m, hm⟩ : ∃ m, m = l.take 255 := ⟨_, rfl⟩
    have hml : (255 : Nat) = m.length := by rw [hm, List.length_take]; omega
    have hbm : BytesAt w A m := by rw [hm]; exact H.out.take 255
    have hres : PackM.textB l = [255] ++ m := by unfold PackM.textB; rw [Nat.min_eq_right (by omega), hm]; rfl
    rw [hres]
    have HM := Lib.hid hbm; have HL := Lib.hid hml
    have hm3 : m.length ≤ 255 := by omega
    clear hm hbm hres hml
    go_enter Try.func40, Try.ntmps40
    go_wp2_with (at_builtin; refine wpList_append_bytes rfl (.tmp 11) (.tmp 12) rfl w.heap.size (.slice (some ⟨w.heap.size, 0, none⟩) 1 1) [255] m rfl ⟨rfl, .inr ⟨w.heap.size, 1, cells [255], rfl, Nat.le_refl _, heap_alloc_new w _, Nat.le_refl _, by unfold maxLen; omega, rfl, rfl⟩⟩ A _ _ rfl HL.out (HM.out.alloc _) (by simp; omega) (by simp) ?_)
    intro v1 w1 hown1 hb1
    go_wp2
    go_ret
    exact RetNew.of_own hown1 ((balloc w _).trans hb1)
  · obtain ⟨y, hy⟩ : ∃ y, y = UInt8.ofNat l.length := ⟨_, rfl⟩
    have hyv : ((l.length : Int) % 256) = (y.toNat : Nat) := by rw [hy, UInt8.toNat_ofNat_of_lt' (by simp only [UInt8.size]; omega)]; omega
    have hyv2 : (l.length : Int) = (y.toNat : Nat) := by omega
    have hres : PackM.textB l = [y] ++ l := by unfold PackM.textB; rw [Nat.min_eq_left (by omega), List.take_of_length_le (by omega), hy]; rfl
    rw [hres]
    have HY := Lib.hid hyv2
    clear hy hres hyv2
    go_enter Try.func40, Try.ntmps40
    go_wp2_with (at_builtin; refine wpList_append_bytes rfl (.tmp 11) (.tmp 12) rfl w.heap.size (.slice (some ⟨w.heap.size, 0, none⟩) 1 1) [y] l rfl ⟨rfl, .inr ⟨w.heap.size, 1, #[.int .u8 (l.length : Nat)], rfl, Nat.le_refl _, heap_alloc_new w _, Nat.le_refl _, by unfold maxLen; omega, rfl, by rw [HY.out]; rfl⟩⟩ A _ _ rfl rfl (H.out.alloc _) (by simp; omega) (by simp) ?_)
    intro v1 w1 hown1 hb1
    go_wp2
    go_ret
    exact RetNew.of_own hown1 ((balloc w _).trans hb1)

/-- a reader of the document's in block g -/
structure RAt (w : World) (g : Nat) (A : Option Addr) (c : Nat) (b : List UInt8) (s : PackM.St) : Prop where
  cb : w.cell? ⟨g, 0, none⟩ = some (.slice A b.length c)
  ca : w.cell? ⟨g, 1, none⟩ = some (.int .i64 (s.at_ : Nat))
  cd : w.cell? ⟨g, 2, none⟩ = some (.bool s.bad)
  f1 : w.frozen? ⟨g, 1, none⟩ = false
  f2 : w.frozen? ⟨g, 2, none⟩ = false
  bytes : BytesAt w A b
  ne : 0 < b.length → ∀ a, A = some a → a.block ≠ g
  ok : PackM.Ok b s
  cap : b.length ≤ c
  cap2 : c ≤ maxLen
theorem RAt.below {w w' : World} {g : Nat} {A : Option Addr} {c : Nat} {b : List UInt8} {s : PackM.St} (h : RAt w g A c b s) (hb : Below w.heap.size w w') : RAt w' g A c b s :=
  ⟨(hb.cell (p := ⟨g, 0, none⟩) (cell_lt h.cb)).trans h.cb, (hb.cell (p := ⟨g, 1, none⟩) (cell_lt h.ca)).trans h.ca, (hb.cell (p := ⟨g, 2, none⟩) (cell_lt h.cd)).trans h.cd,
    (hb.frozen (p := ⟨g, 1, none⟩) (cell_lt h.ca)).trans h.f1, (hb.frozen (p := ⟨g, 2, none⟩) (cell_lt h.cd)).trans h.f2, h.bytes.below hb, h.ne, h.ok, h.cap, h.cap2⟩
/-- what a reading call gives: these bytes, new, and the reader moved on -/
def RawPost (w : World) (g : Nat) (A : Option Addr) (c : Nat) (b l : List UInt8) (s' : PackM.St) (e : Ending) (w' : World) : Prop :=
  ∃ X d, e = .returned (.slice X l.length d) ∧ BytesAt w' X l ∧ New w X ∧ l.length ≤ d ∧ d ≤ maxLen ∧ RAt w' g A c b s' ∧ w.grownBy w' (some g)

theorem RAt.lacks {w : World} {g : Nat} {A : Option Addr} {c : Nat} {b : List UInt8} {s : PackM.St} (h : RAt w g A c b s) (n : Nat) :
    RAt (((w.drewN n).setCell ⟨g, 2, none⟩ (.bool true)).setCell ⟨g, 1, none⟩ (.int .i64 (b.length : Nat))) g A c b ⟨b.length, true⟩ ∧ w.grownBy (((w.drewN n).setCell ⟨g, 2, none⟩ (.bool true)).setCell ⟨g, 1, none⟩ (.int .i64 (b.length : Nat))) (some g) := by
  have e0 : (w.drewN n).cell? ⟨g, 0, none⟩ = some (.slice A b.length c) := h.cb
  have e1 : (w.drewN n).cell? ⟨g, 1, none⟩ = some (.int .i64 (s.at_ : Nat)) := h.ca
  have e2 : (w.drewN n).cell? ⟨g, 2, none⟩ = some (.bool s.bad) := h.cd
  refine ⟨⟨?_, ?_, ?_, ?_, ?_, ((h.bytes.drewN n).far' _ _ h.ne).far' _ _ h.ne, h.ne, Nat.le_refl _, h.cap, h.cap2⟩, ?_⟩
  · rw [cell_store (cell_store e0)]; rfl
  · rw [cell_store (cell_store e1)]; rfl
  · rw [cell_store (cell_store e2)]; rfl
  · rw [World.frozen?_setCell, World.frozen?_setCell]; exact h.f1
  · rw [World.frozen?_setCell, World.frozen?_setCell]; exact h.f2
  · exact grow_trans (grow_draw w n _) (grow_trans (grow_set _ _ _) (grow_set _ _ _))
theorem RAt.moves {w : World} {g : Nat} {A : Option Addr} {c : Nat} {b : List UInt8} {s : PackM.St} (h : RAt w g A c b s) (n k : Nat) (hb : s.bad = false) (hk : k ≤ b.length) :
    RAt ((w.drewN n).setCell ⟨g, 1, none⟩ (.int .i64 (k : Nat))) g A c b ⟨k, false⟩ ∧ w.grownBy ((w.drewN n).setCell ⟨g, 1, none⟩ (.int .i64 (k : Nat))) (some g) := by
  have e0 : (w.drewN n).cell? ⟨g, 0, none⟩ = some (.slice A b.length c) := h.cb
  have e1 : (w.drewN n).cell? ⟨g, 1, none⟩ = some (.int .i64 (s.at_ : Nat)) := h.ca
  have e2 : (w.drewN n).cell? ⟨g, 2, none⟩ = some (.bool s.bad) := h.cd
  refine ⟨⟨?_, ?_, ?_, ?_, ?_, (h.bytes.drewN n).far' _ _ h.ne, h.ne, hk, h.cap, h.cap2⟩, ?_⟩
  · rw [cell_store e0]; rfl
  · rw [cell_store e1]; rfl
  · rw [cell_store e2, hb]; rfl
  · rw [World.frozen?_setCell]; exact h.f1
  · rw [World.frozen?_setCell]; exact h.f2
  · exact grow_trans (grow_draw w n _) (grow_set _ _ _)

set_option maxHeartbeats 1000000 in
theorem raw_lacks (g : Nat) (A : Option Addr) (c : Nat) (b : List UInt8) (s : PackM.St) (n : Int) (w : World) (h : RAt w g A c b s) (hn : -9223372036854775808 ≤ n ∧ n ≤ 9223372036854775807) (_hbl : b.length ≤ 1099511627) (hl : (s.bad || decide ((b.length : Int) - s.at_ < n)) = true) :
    Calls Try.prog 66 #[.pointer (some ⟨g, 0, none⟩), .int .i64 n] w (RawPost w g A c b (PackM.rawL b s n) (PackM.rawS b s n)) := by
  have h1 : PackM.rawL b s n = [] := by unfold PackM.rawL; rw [if_pos hl]
  have h2 : PackM.rawS b s n = ⟨b.length, true⟩ := by unfold PackM.rawS; rw [if_pos hl]
  rw [h1, h2]
  have hok := h.ok
  unfold PackM.Ok at hok
  have cb := h.cb; have ca := h.ca; have cd := h.cd; have f1 := h.f1; have f2 := h.f2
  have H := Lib.hid h
  clear h h1 h2
  obtain ⟨at_, bad⟩ := s
  simp only at cb ca cd hl hok
  cases bad
  · have hl' : (b.length : Int) - at_ < n := by simpa using hl
    clear hl
    have hn0 : ¬ n < 0 := by omega
    go_enter Try.func66, Try.ntmps66
    go_wp2
    go_quiet (fail)
    go_wp2
    go_ret
    obtain ⟨r1, r2⟩ := H.out.lacks nq
    exact ⟨none, 0, rfl, BytesAt.nil _ _, New.none _, Nat.le_refl _, Nat.zero_le _, r1, r2⟩
  · clear hl
    by_cases hneg : n < 0
    all_goals
      go_enter Try.func66, Try.ntmps66
      go_wp2
      go_quiet (fail)
      go_wp2
      go_ret
      obtain ⟨r1, r2⟩ := H.out.lacks nq
      exact ⟨none, 0, rfl, BytesAt.nil _ _, New.none _, Nat.le_refl _, Nat.zero_le _, r1, r2⟩

set_option maxHeartbeats 2000000 in
theorem raw_goes (g : Nat) (A : Option Addr) (c : Nat) (b : List UInt8) (at_ : Nat) (n : Int) (w : World) (h : RAt w g A c b ⟨at_, false⟩) (hn : -9223372036854775808 ≤ n ∧ n ≤ 9223372036854775807) (_hbl : b.length ≤ 1099511627) (hl : n ≤ (b.length : Int) - at_) :
    Calls Try.prog 66 #[.pointer (some ⟨g, 0, none⟩), .int .i64 n] w (RawPost w g A c b ((b.drop at_).take n.toNat) ⟨at_ + n.toNat, false⟩) := by
  have hok := h.ok
  unfold PackM.Ok at hok
  simp only at hok
  obtain ⟨m, hm⟩ : ∃ m : Nat, m = n.toNat := ⟨_, rfl⟩
  rw [← hm]
  have hml : at_ + m ≤ b.length := by omega
  have cb := h.cb; have ca := h.ca; have cd := h.cd; have f1 := h.f1; have f2 := h.f2
  have hcap := h.cap; have hcap2 := h.cap2
  unfold maxLen at hcap2
  simp only at cb ca cd
  obtain ⟨l, hll⟩ : ∃ l, l = (b.drop at_).take m := ⟨_, rfl⟩
  rw [← hll]
  have hlen : l.length = m := by rw [hll, List.length_take, List.length_drop]; omega
  have H := Lib.hid h; have HLL := Lib.hid hll; have HLEN := Lib.hid hlen
  clear h hll hlen
  by_cases hneg : n < 0
  · have hm0 : m = 0 := by omega
    clear hm
    subst hm0
    go_enter Try.func66, Try.ntmps66
    go_wp2
    go_quiet (fail)
    go_wp2_with fail
    obtain ⟨r1, r2⟩ := H.out.moves nq at_ rfl hok
    generalize hW : (w.drewN nq).setCell ⟨g, 1, none⟩ (.int .i64 (at_ : Int)) = W at *
    clear hW ca cb cd f1 f2
    have cb := r1.cb; have ca := r1.ca
    simp only at ca
    have HR := Lib.hid r1; have HG := Lib.hid r2
    clear r1 r2
    have hgl := cell_lt cb
    simp only at hgl
    have i1 : IntKind.i64.wrap (at_ : Int) = (at_ : Int) := IntWalk.i64_in _ (by omega)
    have i2 : at_ ≤ c := by omega
    have hl0 : l = [] := by rw [HLL.out, List.take_zero]
    have HL0 := Lib.hid hl0
    clear hl0
    by_cases hcat : c = at_
    · subst hcat
      go_region_held3 (fun w' => w'.cell? ⟨g, 0, none⟩ = some (.slice A b.length c) ∧ w'.cell? ⟨g, 1, none⟩ = some (.int .i64 (c : Int))) (first | go_keep | (exact ⟨(hb1.cell (p := ⟨g, 0, none⟩) (by show g < _; omega)).trans (((balloc W _).cell (p := ⟨g, 0, none⟩) hgl).trans cb), (hb1.cell (p := ⟨g, 1, none⟩) (by show g < _; omega)).trans (((balloc W _).cell (p := ⟨g, 1, none⟩) hgl).trans ca)⟩)) ((refine step_append_bytes rfl (.tmp 45) (.tmp 60) rfl W.heap.size (.slice (some ⟨W.heap.size, 0, none⟩) 0 0) [] l rfl (Own.empty _ _ (by simp)) (_) _ _ rfl (by rw [HLEN.out] <;> omega) (by rw [HL0.out]; exact BytesAt.nil _ _) (by rw [HLEN.out]; simp <;> omega) (by simp) ?_; intro v1 w1 hown1 hb1))
      all_goals
        go_wp2
        go_ret
        obtain ⟨X, d, rfl, hd1, hd2, hX, hnx⟩ := hown1.new
        have hbW : Below W.heap.size W w1 := ⟨hb1.os, hb1.tape, hb1.output, Nat.le_trans (by simp) hb1.size, fun k hk => (hb1.block k hk).trans (by first | rfl | exact Below.heap_alloc _ _ _ hk)⟩
        exact ⟨X, d, rfl, hX, fun a e => Nat.le_trans HG.out.size (hnx a e), hd1, hd2, HR.out.below hbW, grow_trans HG.out (grow_below hbW)⟩
    · skip
      go_region_held3 (fun w' => w'.cell? ⟨g, 0, none⟩ = some (.slice A b.length c) ∧ w'.cell? ⟨g, 1, none⟩ = some (.int .i64 (at_ : Int))) (first | go_keep | (exact ⟨(hb1.cell (p := ⟨g, 0, none⟩) (by show g < _; omega)).trans (((balloc W _).cell (p := ⟨g, 0, none⟩) hgl).trans cb), (hb1.cell (p := ⟨g, 1, none⟩) (by show g < _; omega)).trans (((balloc W _).cell (p := ⟨g, 1, none⟩) hgl).trans ca)⟩)) ((refine step_append_bytes rfl (.tmp 45) (.tmp 60) rfl W.heap.size (.slice (some ⟨W.heap.size, 0, none⟩) 0 0) [] l rfl (Own.empty _ _ (by simp)) (_) _ _ rfl (by rw [HLEN.out] <;> omega) (by rw [HL0.out]; exact BytesAt.nil _ _) (by rw [HLEN.out]; simp <;> omega) (by simp) ?_; intro v1 w1 hown1 hb1))
      all_goals
        go_wp2
        go_ret
        obtain ⟨X, d, rfl, hd1, hd2, hX, hnx⟩ := hown1.new
        have hbW : Below W.heap.size W w1 := ⟨hb1.os, hb1.tape, hb1.output, Nat.le_trans (by simp) hb1.size, fun k hk => (hb1.block k hk).trans (by first | rfl | exact Below.heap_alloc _ _ _ hk)⟩
        exact ⟨X, d, rfl, hX, fun a e => Nat.le_trans HG.out.size (hnx a e), hd1, hd2, HR.out.below hbW, grow_trans HG.out (grow_below hbW)⟩
  · obtain rfl : n = (m : Int) := by omega
    clear hm
    go_enter Try.func66, Try.ntmps66
    go_wp2
    go_quiet (fail)
    go_wp2_with fail
    obtain ⟨r1, r2⟩ := H.out.moves nq (at_ + m) rfl hml
    have e : ((at_ + m : Nat) : Int) = (at_ : Int) + m := by omega
    rw [e] at r1 r2
    
    generalize hW : (w.drewN nq).setCell ⟨g, 1, none⟩ (.int .i64 ((at_ : Int) + m)) = W at *
    clear hW ca cb cd f1 f2
    have cb := r1.cb; have ca := r1.ca
    rw [show (((⟨at_ + m, false⟩ : PackM.St).at_ : Nat) : Int) = (at_ : Int) + m from e] at ca
    have HR := Lib.hid r1; have HG := Lib.hid r2
    clear r1 r2
    have hgl := cell_lt cb
    simp only at hgl
    have i1 : IntKind.i64.wrap (at_ : Int) = (at_ : Int) := IntWalk.i64_in _ (by omega)
    have i2 : at_ ≤ c := by omega
    by_cases hm0 : m = 0
    · have hl0 : l = [] := by rw [HLL.out, hm0, List.take_zero]
      have HL0 := Lib.hid hl0
      subst hm0
      have hr0 : RAt W g A c b ⟨at_, false⟩ := HR.out
      have HR := Lib.hid hr0
      clear hl0 hr0
      by_cases hcat : c = at_
      · subst hcat
        go_region_held3 (fun w' => w'.cell? ⟨g, 0, none⟩ = some (.slice A b.length c) ∧ w'.cell? ⟨g, 1, none⟩ = some (.int .i64 (c : Int))) (first | go_keep | (exact ⟨(hb1.cell (p := ⟨g, 0, none⟩) (by show g < _; omega)).trans (((balloc W _).cell (p := ⟨g, 0, none⟩) hgl).trans cb), (hb1.cell (p := ⟨g, 1, none⟩) (by show g < _; omega)).trans (((balloc W _).cell (p := ⟨g, 1, none⟩) hgl).trans ca)⟩)) ((refine step_append_bytes rfl (.tmp 45) (.tmp 60) rfl W.heap.size (.slice (some ⟨W.heap.size, 0, none⟩) 0 0) [] l rfl (Own.empty _ _ (by simp)) (_) _ _ rfl (by rw [HLEN.out] <;> omega) (by rw [HL0.out]; exact BytesAt.nil _ _) (by rw [HLEN.out]; simp <;> omega) (by simp) ?_; intro v1 w1 hown1 hb1))
        all_goals
          go_wp2
          go_ret
          obtain ⟨X, d, rfl, hd1, hd2, hX, hnx⟩ := hown1.new
          have hbW : Below W.heap.size W w1 := ⟨hb1.os, hb1.tape, hb1.output, Nat.le_trans (by simp) hb1.size, fun k hk => (hb1.block k hk).trans (by first | rfl | exact Below.heap_alloc _ _ _ hk)⟩
          exact ⟨X, d, rfl, hX, fun a e => Nat.le_trans HG.out.size (hnx a e), hd1, hd2, HR.out.below hbW, grow_trans HG.out (grow_below hbW)⟩
      · skip
        go_region_held3 (fun w' => w'.cell? ⟨g, 0, none⟩ = some (.slice A b.length c) ∧ w'.cell? ⟨g, 1, none⟩ = some (.int .i64 (at_ : Int))) (first | go_keep | (exact ⟨(hb1.cell (p := ⟨g, 0, none⟩) (by show g < _; omega)).trans (((balloc W _).cell (p := ⟨g, 0, none⟩) hgl).trans cb), (hb1.cell (p := ⟨g, 1, none⟩) (by show g < _; omega)).trans (((balloc W _).cell (p := ⟨g, 1, none⟩) hgl).trans ca)⟩)) ((refine step_append_bytes rfl (.tmp 45) (.tmp 60) rfl W.heap.size (.slice (some ⟨W.heap.size, 0, none⟩) 0 0) [] l rfl (Own.empty _ _ (by simp)) (_) _ _ rfl (by rw [HLEN.out] <;> omega) (by rw [HL0.out]; exact BytesAt.nil _ _) (by rw [HLEN.out]; simp <;> omega) (by simp) ?_; intro v1 w1 hown1 hb1))
        all_goals
          go_wp2
          go_ret
          obtain ⟨X, d, rfl, hd1, hd2, hX, hnx⟩ := hown1.new
          have hbW : Below W.heap.size W w1 := ⟨hb1.os, hb1.tape, hb1.output, Nat.le_trans (by simp) hb1.size, fun k hk => (hb1.block k hk).trans (by first | rfl | exact Below.heap_alloc _ _ _ hk)⟩
          exact ⟨X, d, rfl, hX, fun a e => Nat.le_trans HG.out.size (hnx a e), hd1, hd2, HR.out.below hbW, grow_trans HG.out (grow_below hbW)⟩
    · obtain ⟨ba, oa, hA, _⟩ := HR.out.bytes 0 (by omega)
      subst hA
      have hd0 := (HR.out.bytes.drop at_).take m
      rw [← HLL.out] at hd0
      have HDD := Lib.hid hd0
      have hcat : ¬ c = at_ := by omega
      have i3 : (0 : Int) ≤ (at_ : Int) + m := by omega
      have i4 : (at_ : Int) + m ≤ (c : Int) := by omega
      have i5 : max ((at_ : Int) + m) 0 = (at_ : Int) + m := by omega
      have i6 : (at_ : Int) ≤ (at_ : Int) + m := by omega
      have i7 : ((at_ : Int) + m).toNat = at_ + m := by omega
      clear hd0
      go_region_held3 (fun w' => w'.cell? ⟨g, 0, none⟩ = some (.slice (some ⟨ba, oa, none⟩) b.length c) ∧ w'.cell? ⟨g, 1, none⟩ = some (.int .i64 ((at_ : Int) + m))) (first | go_keep | (exact ⟨(hb1.cell (p := ⟨g, 0, none⟩) (by show g < _; omega)).trans (((balloc W _).cell (p := ⟨g, 0, none⟩) hgl).trans cb), (hb1.cell (p := ⟨g, 1, none⟩) (by show g < _; omega)).trans (((balloc W _).cell (p := ⟨g, 1, none⟩) hgl).trans ca)⟩)) ((refine step_append_bytes rfl (.tmp 45) (.tmp 60) rfl W.heap.size (.slice (some ⟨W.heap.size, 0, none⟩) 0 0) [] l rfl (Own.empty _ _ (by simp)) (some ⟨ba, oa + at_, none⟩) _ _ rfl (by rw [HLEN.out] <;> omega) ((HDD.out.drewN _).below (by first | exact balloc _ _ | exact Below.refl _ _)) (by rw [HLEN.out]; simp <;> omega) (by simp) ?_; intro v1 w1 hown1 hb1))
      all_goals
        go_wp2
        go_ret
        obtain ⟨X, d, rfl, hd1, hd2, hX, hnx⟩ := hown1.new
        have hbW : Below W.heap.size W w1 := ⟨hb1.os, hb1.tape, hb1.output, Nat.le_trans (by simp) hb1.size, fun k hk => (hb1.block k hk).trans (by first | rfl | exact Below.heap_alloc _ _ _ hk)⟩
        exact ⟨X, d, rfl, hX, fun a e => Nat.le_trans HG.out.size (hnx a e), hd1, hd2, HR.out.below hbW, grow_trans HG.out (grow_below hbW)⟩

theorem raw_any (g : Nat) (A : Option Addr) (c : Nat) (b : List UInt8) (s : PackM.St) (n : Int) (w : World) (h : RAt w g A c b s) (hn : -9223372036854775808 ≤ n ∧ n ≤ 9223372036854775807) (hbl : b.length ≤ 1099511627) :
    Calls Try.prog 66 #[.pointer (some ⟨g, 0, none⟩), .int .i64 n] w (RawPost w g A c b (PackM.rawL b s n) (PackM.rawS b s n)) := by
  rcases hl : (s.bad || decide ((b.length : Int) - s.at_ < n)) with _ | _
  · have h1 : PackM.rawL b s n = (b.drop s.at_).take n.toNat := by unfold PackM.rawL; rw [if_neg (by rw [hl]; simp)]
    have h2 : PackM.rawS b s n = ⟨s.at_ + n.toNat, false⟩ := by unfold PackM.rawS; rw [if_neg (by rw [hl]; simp)]
    rw [h1, h2]
    obtain ⟨at_, bad⟩ := s
    simp at hl
    obtain ⟨rfl, hl⟩ := hl
    exact raw_goes g A c b at_ n w h hn hbl hl
  · exact raw_lacks g A c b s n w h hn hbl hl

/-- what a number that is read gives -/
def NumPost (w : World) (g : Nat) (A : Option Addr) (c : Nat) (b : List UInt8) (v : Nat) (s' : PackM.St) (e : Ending) (w' : World) : Prop :=
  e = .returned (.int .i64 (v : Nat)) ∧ RAt w' g A c b s' ∧ w.grownBy w' (some g)
theorem rnum_any (g : Nat) (A : Option Addr) (c : Nat) (b : List UInt8) (s : PackM.St) (k : Int) (w : World) (h : RAt w g A c b s) (hbl : b.length ≤ 1099511627) :
    Calls Try.prog 43 #[.pointer (some ⟨g, 0, none⟩), .int .i64 k] w (NumPost w g A c b (PackM.numV b s k) (PackM.numS b s k)) := by
  have hw4 := (PackM.wid_range k).2
  have hv : PackM.numV b s k = PackM.val (PackM.rawL b s (PackM.wid k)) := rfl
  have hs : PackM.numS b s k = PackM.rawS b s (PackM.wid k) := rfl
  have hrl := PackM.rawL_len b s (PackM.wid k)
  rw [hv, hs]
  have H := Lib.hid h
  clear h hv hs
  go_enter Try.func43, Try.ntmps43
  go_wp2_with fail
  refine (width_any k w).mono ?_
  rintro e w' ⟨rfl, rfl⟩
  rename World => w0
  go_wp2_with fail
  have C := raw_any g A c b s (PackM.wid k) w0 H.out (by omega) hbl
  generalize PackM.rawL b s (PackM.wid k) = l at *
  generalize PackM.rawS b s (PackM.wid k) = s' at *
  refine C.mono ?_
  clear C
  rintro e w1 ⟨X, d, rfl, hX, _, hd1, hd2, hr, hg⟩
  have HX := Lib.hid hX; have HR := Lib.hid hr; have HG := Lib.hid hg
  have hl4 : l.length ≤ 4 := by omega
  clear hX hr hg hrl
  go_wp2_with fail
  go_loop [6, 7] (fun v i => ∃ t : Nat, t ≤ l.length ∧ i = .int .i64 t ∧ v = .int .i64 (PackM.val (l.take t) : Nat))
    (fun _ i => l.length - (intOf i).toNat)
  case atStart => exact ⟨0, Nat.zero_le _, rfl, rfl⟩
  case round =>
    obtain ⟨t, ht, rfl, rfl⟩ := hrel
    by_cases hlt : t < l.length
    · obtain ⟨b1, o1, hXa, e1⟩ := HX.out t hlt
      subst hXa
      have hvt := PackM.val_take l t hlt
      have hvl := PackM.val_lt (l.take t)
      have hp : 256 ^ (l.take t).length ≤ 4294967296 := PackM.pow256_le _ (by simp; omega)
      have hv1 : PackM.val (l.take t) < 4294967296 := by omega
      have hb := l[t].toNat_lt
      have HV := Lib.hid hvt
      clear hvt hvl hp
      generalize l[t].toNat = y at *
      generalize PackM.val (l.take t) = v at *
      go_wp2
      go_round
      case rel => exact ⟨t + 1, by omega, by go_num, by rw [HV.out]; go_num⟩
      case measure => simp [intOf] <;> omega
    · obtain rfl : t = l.length := by omega
      rw [List.take_length]
      go_wp2
      go_ret
      exact ⟨rfl, HR.out, HG.out⟩

theorem rtext_any (g : Nat) (A : Option Addr) (c : Nat) (b : List UInt8) (s : PackM.St) (w : World) (h : RAt w g A c b s) (hbl : b.length ≤ 1099511627) :
    Calls Try.prog 44 #[.pointer (some ⟨g, 0, none⟩)] w (RawPost w g A c b (PackM.textL b s) (PackM.textS b s)) := by
  have hnv := PackM.numV_lt b s 1
  have hl : PackM.textL b s = PackM.rawL b (PackM.numS b s 1) (PackM.numV b s 1) := rfl
  have hs : PackM.textS b s = PackM.rawS b (PackM.numS b s 1) (PackM.numV b s 1) := rfl
  rw [hl, hs]
  have H := Lib.hid h
  clear h hl hs
  go_enter Try.func44, Try.ntmps44
  go_wp2_with fail
  have C := rnum_any g A c b s 1 w H.out hbl
  generalize PackM.numV b s 1 = v at *
  generalize PackM.numS b s 1 = s1 at *
  refine C.mono ?_
  clear C
  rintro e w1 ⟨rfl, hr, hg⟩
  have HR := Lib.hid hr; have HG := Lib.hid hg
  clear hr hg
  go_wp2_with fail
  refine (raw_any g A c b s1 v w1 HR.out (by omega) hbl).mono ?_
  rintro e w2 ⟨X, d, rfl, hX, hn, hd1, hd2, hr, hg2⟩
  have HX := Lib.hid hX; have HR := Lib.hid hr; have HG2 := Lib.hid hg2; have HN := Lib.hid hn
  clear hX hr hg2 hn
  go_wp2
  go_ret
  exact ⟨X, d, rfl, HX.out, HN.out.mono HG.out.size, hd1, hd2, HR.out, grow_trans HG.out HG2.out⟩
end Go.Proofs.Ytjoocjkakgjgmaa.R06
