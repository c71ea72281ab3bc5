/- the contracts of package pack, its Writer -/
import Derived.Test.YtjoocjkakgjgmaaApp
import Derived.Test.YtjoocjkakgjgmaaClone
import Derived.Test.YtjoocjkakgjgmaaMMA
import Derived.Lib.MinMax
import Derived.IntWalk
import Derived.Deep.RegionHeld3
import Derived.Deep.QuietTactic
import Derived.Handy
set_option maxRecDepth 100000
namespace Go.Proofs.Ytjoocjkakgjgmaa.Pack
open Go.RowKit

/-- block g is a Writer that holds these bytes; v is what holds them -/
structure WAt (w : World) (g base : Nat) (v : Value) (l : List UInt8) : Prop where
  cell : w.cell? ⟨g, 0, none⟩ = some v
  fr : w.frozen? ⟨g, 0, none⟩ = false
  own : Own w base v l
  ne : v.ownBlock ≠ some g
/-- a Writer's call: what it holds then; it has written its own blocks alone -/
def WPost (w : World) (g base : Nat) (v : Value) (l : List UInt8) (e : Ending) (w' : World) : Prop :=
  e = .returned (.tuple #[]) ∧ ∃ v', WAt w' g base v' l ∧ Keeps (fun b => b = g ∨ v.ownBlock = some b) w w' ∧ (v'.ownBlock = v.ownBlock ∨ ∃ k, v'.ownBlock = some k ∧ w.heap.size ≤ k)
theorem WAt.keep {F : Nat → Prop} {w w' : World} {g base : Nat} {v : Value} {l : List UInt8} (h : WAt w g base v l) (q : Keeps F w w') (hg : ¬ F g) (hv : ∀ k, v.ownBlock = some k → ¬ F k) : WAt w' g base v l :=
  ⟨q.cell h.cell hg, q.frozen h.cell hg h.fr, h.own.keep q hv, h.ne⟩
theorem WAt.below {w w' : World} {g base : Nat} {v : Value} {l : List UInt8} (h : WAt w g base v l) (hb : Below w.heap.size w w') : WAt w' g base v l :=
  h.keep (F := fun _ => False) (.of_below _ hb) id fun _ _ => id
theorem WAt.lt {w : World} {g base : Nat} {v : Value} {l : List UInt8} (h : WAt w g base v l) : g < w.heap.size := cell_lt h.cell

/-- what a Writer's call leaves as it was -/
theorem below_w {w w' a : World} {g base B : Nat} {v : Value} {l : List UInt8} (h : WAt w g base v l) (hb : Below B a w) (q : Keeps (fun b => b = g ∨ v.ownBlock = some b) w w') (hg : B ≤ g) (hB : B ≤ base) (hs : B ≤ w.heap.size) : Below B a w' :=
  below_keeps hb q (fun k hk => by
    rcases hk with rfl | hk
    · exact hg
    · have := (h.own.lt k hk).1; omega) hs
theorem WAt.start (w : World) (t : TypeId) : WAt (w.alloc (.cells #[.slice none 0 0] t)) w.heap.size w.heap.size (.slice none 0 0) [] :=
  ⟨by simp, by simp, Own.nil _ _, by simp [Value.ownBlock]⟩
/-- behind a store of what an append gave -/
theorem WAt.stored {w w1 w' : World} {g base : Nat} {v v' : Value} {l l' : List UInt8} (h : WAt w g base v l) (hw : Below w.heap.size w w1) (a : Appd w1 base v l' v' w') :
    WAt (w'.setCell ⟨g, 0, none⟩ v') g base v' l' ∧ Keeps (fun b => b = g ∨ v.ownBlock = some b) w (w'.setCell ⟨g, 0, none⟩ v') ∧ (v'.ownBlock = v.ownBlock ∨ ∃ k, v'.ownBlock = some k ∧ w.heap.size ≤ k) := by
  have h1 := h.below hw
  have q : Keeps (fun b => v.ownBlock = some b) w1 w' := ⟨a.grow.os, a.grow.tape, a.grow.output, a.grow.size, fun k hk hn => a.grow.block k hk (fun e => hn e.symm)⟩
  have hc := q.cell h1.cell h1.ne
  have hne : v'.ownBlock ≠ some g := by
    rcases a.place with p | p
    · rw [p]; exact h.ne
    · rw [p]; intro e; injection e with e; have := h1.lt; omega
  refine ⟨⟨World.cell?_setCell_same _ _ _ hc, ?_, ?_, hne⟩, ?_, ?_⟩
  · rw [World.frozen?_setCell]; exact q.frozen h1.cell h1.ne h1.fr
  · exact a.own.keep (.set (fun b => b = g) _ _ _ rfl) (fun k hk e => hne (by rw [hk, e]))
  · exact ((Keeps.of_below _ hw).trans (q.mono fun k _ h => .inr h)).trans (.set _ _ _ _ (.inl rfl))
  · rcases a.place with p | p
    · exact .inl p
    · exact .inr ⟨_, p, hw.size⟩

theorem WPost.after {w w1 w2 : World} {g base : Nat} {v : Value} {l : List UInt8} {e : Ending} (hw : Below w.heap.size w w1) (h : WPost w1 g base v l e w2) : WPost w g base v l e w2 := by
  obtain ⟨he, v', h1, q1, p1⟩ := h
  refine ⟨he, v', h1, (Keeps.of_below _ hw).trans q1, ?_⟩
  rcases p1 with p | ⟨k, p, hk⟩
  · exact .inl p
  · exact .inr ⟨k, p, Nat.le_trans hw.size hk⟩

theorem width_any (k : Int) (w : World) :
    Calls Try.prog 69 #[.int .i64 k] w fun e w' => e = .returned (.int .i64 (PackM.wid k : Nat)) ∧ w = w' := by
  have hw : min (max k 1) 4 = ((PackM.wid k : Nat) : Int) := by
    unfold PackM.wid
    repeat' split
    all_goals omega
  have HW := Lib.hid hw
  clear hw
  go_enter Try.func69, Try.ntmps69
  go_wp2
  go_ret
  exact ⟨ret_int HW.out, rfl⟩

theorem wraw_any (g base : Nat) (v : Value) (l : List UInt8) (A : Option Addr) (b : List UInt8) (c : Nat) (w : World) (h : WAt w g base v l) (hl : l.length ≤ 1048576) (hb : base ≤ w.heap.size) (hA : BytesAt w A b) (hbl : b.length ≤ 1048576) :
    Calls Try.prog 68 #[.pointer (some ⟨g, 0, none⟩), .slice A b.length c] w (WPost w g base v (l ++ b)) := by
  have H := Lib.hid h; have HA := Lib.hid hA
  have e0 := h.cell
  have e1 := h.fr
  clear h hA
  go_enter Try.func68, Try.ntmps68
  go_wp2_with (at_builtin; refine wpList_append_at rfl _ _ rfl base v l b rfl H.out.own A _ _ rfl rfl HA.out (by omega) hb ?_; intro v' w1 ha; have hf := H.out.stored (Below.refl _ _) ha; obtain ⟨A', c', hv, _, _, _⟩ := ha.own.bytes; obtain ⟨L, hL⟩ : ∃ L, L = (l ++ b).length := ⟨_, rfl⟩; rw [← hL] at hv; clear hL; have q1 : w1.cell? ⟨g, 0, none⟩ = some v := (Keeps.mk (F := fun b => v.ownBlock = some b) ha.grow.os ha.grow.tape ha.grow.output ha.grow.size fun k hk hn => ha.grow.block k hk (fun e => hn e.symm)).cell H.out.cell H.out.ne; have q2 : w1.frozen? ⟨g, 0, none⟩ = false := (Keeps.mk (F := fun b => v.ownBlock = some b) ha.grow.os ha.grow.tape ha.grow.output ha.grow.size fun k hk hn => ha.grow.block k hk (fun e => hn e.symm)).frozen H.out.cell H.out.ne H.out.fr; clear ha; subst hv; have HF := Lib.hid hf; clear hf)
  go_end0
  exact ⟨rfl, _, HF.out⟩

theorem wnum_any (g base : Nat) (v : Value) (l : List UInt8) (k n : Int) (w : World) (h : WAt w g base v l) (hl : l.length ≤ 1048576) (hb : base ≤ w.heap.size) (hn : -9223372036854775808 ≤ n ∧ n ≤ 9223372036854775807) :
    Calls Try.prog 51 #[.pointer (some ⟨g, 0, none⟩), .int .i64 k, .int .i64 n] w (WPost w g base v (l ++ PackM.numB k n)) := by
  obtain ⟨hw1, hw4⟩ := PackM.wid_range k
  obtain ⟨W, hW⟩ : ∃ W, W = PackM.wid k := ⟨_, rfl⟩
  obtain ⟨m, hm⟩ : ∃ m, m = n.toNat := ⟨_, rfl⟩
  have hres : PackM.numB k n = PackM.be W m := by unfold PackM.numB; rw [hW, hm]
  have hml : (m : Int) ≤ 9223372036854775807 := by omega
  have hmax : max n 0 = (m : Int) := by omega
  rw [hres]
  rw [← hW] at hw1 hw4
  have C := fun w => width_any k w
  rw [← hW] at C
  have HC := Lib.hid C
  have HH := Lib.hid h
  clear hres hW C hm h
  have hmk := fun W' => make_u8 W (by omega) W'
  go_enter Try.func51, Try.ntmps51
  go_wp2_with fail
  refine (HC.out w).mono ?_
  rintro e w' ⟨rfl, rfl⟩
  rename World => w0
  go_wp2_with fail
  go_loopw [2, 15] (fun v i wr => ∃ s : Nat, s ≤ W ∧ i = .int .i64 (s : Nat) ∧ v = .int .i64 ((m / 256 ^ s : Nat) : Int) ∧ Row wr w0.heap.size (PackM.numTo W m s) ∧ Below w0.heap.size w0 wr)
    (fun _ i _ => W - (intOf i).toNat)
  case atStart => exact ⟨0, Nat.zero_le _, rfl, by rw [Nat.pow_zero, Nat.div_one], by rw [PackM.numTo_zero]; exact Row.new _ _, balloc _ _⟩
  case round =>
    obtain ⟨s, hs, rfl, rfl, hr, hb2⟩ := hrel
    clear hmk
    by_cases hlt : s < W
    · have hst := PackM.numTo_step W m s hlt
      have hl := PackM.numTo_len W m s hs
      obtain ⟨d, hd⟩ : ∃ d, d = W - s - 1 := ⟨_, rfl⟩
      have hdl : d < (PackM.numTo W m s).length := by rw [hl]; omega
      have hf := hr.frozen d
      have hc := hr.cell d hdl
      have hdd : m / 256 ^ (s + 1) = m / 256 ^ s / 256 := by rw [Nat.pow_succ, Nat.div_div_eq_div_mul]
      have hq : m / 256 ^ s ≤ m := Nat.div_le_self _ _
      obtain ⟨q, hqq⟩ : ∃ q, q = m / 256 ^ s := ⟨_, rfl⟩
      rw [← hqq] at hst hdd hq ⊢
      rw [← hd] at hst
      have i1 : (W : Int) - 1 - s = (d : Int) := by omega
      obtain ⟨y, hy⟩ : ∃ y, y = UInt8.ofNat (q % 256) := ⟨_, rfl⟩
      have hyv2 : ((q : Int) % 256) = (y.toNat : Nat) := by rw [hy, UInt8.toNat_ofNat_of_lt' (by simp only [UInt8.size]; omega)]; omega
      have hql : (q : Int) ≤ 9223372036854775807 := by omega
      rw [← hy] at hst
      have i2 : d < W := by omega
      have HST := Lib.hid hst; have HR := Lib.hid hr; have HDD := Lib.hid hdd; have HD := Lib.hid hd
      generalize (PackM.numTo W m s)[d] = old at *
      clear hst hr hl hdd hqq hd hy hdl
      go_wp2
      go_roundw
      case rel => exact ⟨s + 1, by omega, by go_num, by rw [HDD.out]; rfl, by rw [← HST.out]; exact HR.out.set d y, hb2.setCell (Nat.le_refl _) _⟩
      case measure => simp [intOf] <;> omega
    · obtain rfl : s = W := by omega
      rw [PackM.numTo_done] at hr
      have hlen := PackM.be_len s m
      have hbs : BytesAt wr (some ⟨w0.heap.size, 0, none⟩) (PackM.be s m) := hr.bytes
      have HW := HH.out.below hb2
      have hz := hb2.size
      generalize PackM.be s m = out at *
      subst hlen
      have HB := Lib.hid hbs; have HW := Lib.hid HW
      clear hr hbs HH
      go_wp2_with fail
      refine (wraw_any g base v l (some ⟨w0.heap.size, 0, none⟩) out out.length wr HW.out hl (by omega) HB.out (by omega)).mono ?_
      rintro e w2 ⟨rfl, hp⟩
      have HP := Lib.hid hp
      clear hp
      go_wp2
      go_end0
      exact (WPost.after hb2 ⟨rfl, HP.out⟩)

theorem wtext_any (g base : Nat) (v : Value) (l : List UInt8) (A : Option Addr) (b : List UInt8) (c : Nat) (w : World) (h : WAt w g base v l) (hl : l.length ≤ 1000000) (hb : base ≤ w.heap.size) (hA : BytesAt w A b) (hbl : b.length ≤ 1048576) (hc : b.length ≤ c) (_hc2 : c ≤ maxLen)
    (hne : 0 < b.length → ∀ a, A = some a → a.block ≠ g ∧ v.ownBlock ≠ some a.block) :
    Calls Try.prog 50 #[.pointer (some ⟨g, 0, none⟩), .slice A b.length c] w (WPost w g base v (l ++ PackM.textB b)) := by
  obtain ⟨m, hm⟩ : ∃ m, m = b.take 255 := ⟨_, rfl⟩
  have hml : m.length = min b.length 255 := by rw [hm, List.length_take]; omega
  have hbm : BytesAt w A m := by rw [hm]; exact hA.take 255
  obtain ⟨n, hn⟩ : ∃ n, n = m.length := ⟨_, rfl⟩
  have hmin : min (b.length : Int) 255 = (n : Int) := by omega
  have hnum : PackM.numB 1 (n : Int) = [UInt8.ofNat (min b.length 255)] := by
    have : PackM.wid 1 = 1 := by decide
    unfold PackM.numB
    rw [this, Int.toNat_natCast, hn, hml]
    simp only [PackM.be, List.nil_append]
    rw [Nat.mod_eq_of_lt (by omega)]
  have hres : l ++ PackM.textB b = (l ++ PackM.numB 1 (n : Int)) ++ m := by rw [hnum, hm]; unfold PackM.textB; simp
  rw [hres]
  have hn4 : (PackM.numB 1 (n : Int)).length = 1 := by rw [hnum]; rfl
  have hnb : n ≤ b.length := by omega
  have hn255 : n ≤ 255 := by omega
  have H := Lib.hid h; have HM := Lib.hid hbm; have HNE := Lib.hid hne
  have hmne : 0 < m.length → ∀ a, A = some a → ¬ (a.block = g ∨ v.ownBlock = some a.block) := fun h0 a e => by
    have := hne (by omega) a e
    intro h2
    rcases h2 with h2 | h2
    · exact this.1 h2
    · exact this.2 h2
  have HMN := Lib.hid hmne
  have HN := Lib.hid hn; have HN4 := Lib.hid hn4
  clear h hA hres hnum hm hml hbm hne hmne hn hn4
  go_enter Try.func50, Try.ntmps50
  go_wp2_with fail
  refine (wnum_any g base v l 1 (n : Int) w H.out (by omega) hb (by omega)).mono ?_
  rintro e w1 ⟨rfl, v1, h1, q1, p1⟩
  have H1 := Lib.hid h1; have Q1 := Lib.hid q1; have P1 := Lib.hid p1
  have HB1 := Lib.hid (q1.bytes' HM.out HMN.out)
  have hz := q1.size
  clear h1 q1 p1 HM HMN
  go_wp2_with fail
  have C := wraw_any g base v1 (l ++ PackM.numB 1 (n : Int)) A m c w1 H1.out (by rw [List.length_append, HN4.out]; omega) (by omega) HB1.out (by have := HN.out; omega)
  rw [← HN.out] at C
  refine C.mono ?_
  clear C
  rintro e w2 ⟨rfl, v2, h2, q2, p2⟩
  have H2 := Lib.hid h2; have Q2 := Lib.hid q2; have P2 := Lib.hid p2
  clear h2 q2 p2
  go_wp2
  go_end0
  refine ⟨rfl, v2, H2.out, ?_, ?_⟩
  · refine ⟨Q2.out.os.trans Q1.out.os, Q2.out.tape.trans Q1.out.tape, Q2.out.output.trans Q1.out.output, Nat.le_trans hz Q2.out.size, fun k hk hn => ?_⟩
    refine (Q2.out.block k (by omega) (fun hf => ?_)).trans (Q1.out.block k hk hn)
    rcases hf with hf | hf
    · exact hn (.inl hf)
    · rcases P1.out with p | ⟨j, p, hj⟩
      · exact hn (.inr (by rw [← p]; exact hf))
      · rw [hf] at p; injection p with p; omega
  · rcases P2.out with p | ⟨j, p, hj⟩
    · rcases P1.out with p1 | ⟨j, p1, hj⟩
      · exact .inl (p.trans p1)
      · exact .inr ⟨j, p.trans p1, hj⟩
    · exact .inr ⟨j, p, by omega⟩
/-- what was written, a copy of it -/
theorem wbytes_any (g base : Nat) (v : Value) (l : List UInt8) (w : World) (h : WAt w g base v l) (hl : l.length ≤ 1099511627) :
    Calls Try.prog 55 #[.pointer (some ⟨g, 0, none⟩)] w (RetNew w l) := by
  obtain ⟨A, c, hv, hc1, hc2, hA⟩ := h.own.bytes
  subst hv
  have e0 := h.cell
  have HA := Lib.hid hA
  clear h hA
  go_enter Try.func55, Try.ntmps55
  go_wp2_with fail
  refine (Clone.clone_any A l c w HA.out hl).mono ?_
  rintro e w2 ⟨X, d, rfl, hd1, hd2, hX, hb3, hn3⟩
  have HX := Lib.hid hX; have HN := Lib.hid hn3
  clear hX hn3
  go_wp2
  go_ret
  exact ⟨X, d, rfl, hd1, hd2, HX.out, hb3, HN.out⟩
end Go.Proofs.Ytjoocjkakgjgmaa.Pack
