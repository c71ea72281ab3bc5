/- the contracts of package pack, its Reader -/
import Derived.Test.YtjoocjkakgjgmaaPackA
set_option maxRecDepth 100000
namespace Go.Proofs.Ytjoocjkakgjgmaa.Pack
open Go.RowKit

/-- block g is a Reader of bytes of its own that lie at A -/
structure RdAt (w : World) (g : Nat) (A : Option Addr) (b : List UInt8) (s : PackM.St) : Prop where
  ok : PackM.Ok b s
  bytes : BytesAt w A b
  ne : 0 < b.length → ∀ a, A = some a → a.block ≠ g
  rest : ∃ B c, w.cell? ⟨g, 0, none⟩ = some (.slice B (b.length - s.at_) c) ∧ b.length - s.at_ ≤ c ∧ c ≤ maxLen ∧ (0 < b.length - s.at_ → ∃ x y, A = some ⟨x, y, none⟩ ∧ B = some ⟨x, y + s.at_, none⟩)
  bad : w.cell? ⟨g, 1, none⟩ = some (.bool s.bad)
  f0 : w.frozen? ⟨g, 0, none⟩ = false
  f1 : w.frozen? ⟨g, 1, none⟩ = false
  atEnd : s.bad = true → s.at_ = b.length
theorem RdAt.keep {F : Nat → Prop} {w w' : World} {g : Nat} {A : Option Addr} {b : List UInt8} {s : PackM.St} (h : RdAt w g A b s) (q : Keeps F w w') (hg : ¬ F g) (hA : 0 < b.length → ∀ a, A = some a → ¬ F a.block) : RdAt w' g A b s := by
  obtain ⟨h1, h2, h3, ⟨B, c, h4, h5⟩, h6, h7, h8, h9⟩ := h
  exact ⟨h1, q.bytes' h2 hA, h3, ⟨B, c, q.cell h4 hg, h5⟩, q.cell h6 hg, q.frozen h4 hg h7, q.frozen h6 hg h8, h9⟩
theorem RdAt.below {w w' : World} {g : Nat} {A : Option Addr} {b : List UInt8} {s : PackM.St} (h : RdAt w g A b s) (hb : Below w.heap.size w w') : RdAt w' g A b s :=
  h.keep (F := fun _ => False) (.of_below _ hb) id fun _ _ _ => id
theorem RdAt.lt {w : World} {g : Nat} {A : Option Addr} {b : List UInt8} {s : PackM.St} (h : RdAt w g A b s) : g < w.heap.size := cell_lt h.bad
/-- a Reader's call that tells bytes: where they lie, and where it is then; it has written its own block alone -/
def RawPost (w : World) (g : Nat) (A : Option Addr) (b l : List UInt8) (s' : PackM.St) (e : Ending) (w' : World) : Prop :=
  ∃ X d, e = .returned (.slice X l.length d) ∧ BytesAt w' X l ∧ l.length ≤ d ∧ d ≤ maxLen ∧ (0 < l.length → ∀ a, X = some a → (∃ a0, A = some a0 ∧ a.block = a0.block) ∨ w.heap.size ≤ a.block) ∧ RdAt w' g A b s' ∧ w.grownBy w' (some g)
def NumPost (w : World) (g : Nat) (A : Option Addr) (b : List UInt8) (v : Nat) (s' : PackM.St) (e : Ending) (w' : World) : Prop :=
  e = .returned (.int .i64 (v : Nat)) ∧ RdAt w' g A b s' ∧ w.grownBy w' (some g)
theorem read_any (A : Option Addr) (b : List UInt8) (c : Nat) (w : World) (h : BytesAt w A b) (hbl : b.length ≤ 1048576) :
    Calls Try.prog 61 #[.slice A b.length c] w fun e w' => ∃ g A', e = .returned (.pointer (some ⟨g, 0, none⟩)) ∧ RdAt w' g A' b ⟨0, false⟩ ∧ Below w.heap.size w w' ∧ w.heap.size ≤ g ∧ New w A' := by
  have H := Lib.hid h
  clear h
  go_enter Try.func61, Try.ntmps61
  go_wp2_with fail
  refine (Clone.clone_any A b c w H.out (by omega)).mono ?_
  rintro e w2 ⟨X, d, rfl, hd1, hd2, hX, hb3, hn3⟩
  have HX := Lib.hid hX; have HN := Lib.hid hn3
  have hlt : 0 < b.length → ∀ a, X = some a → a.block ≠ w2.heap.size := fun h0 a e => by have := hX.lt h0 a e; omega
  have hx : ∀ a, 0 < b.length → X = some a → ∃ x y, X = some ⟨x, y, none⟩ := fun a h0 e => by
    obtain ⟨x, y, hxy, _⟩ := hX 0 h0
    exact ⟨x, y, hxy⟩
  have HL := Lib.hid hlt; have HXX := Lib.hid hX
  clear hX hn3 hlt hx
  go_wp2
  go_ret
  refine ⟨w2.heap.size, X, rfl, ⟨Nat.zero_le _, HX.out.alloc _, HL.out, ⟨X, d, by simp, by simpa using hd1, hd2, fun h0 => ?_⟩, by simp, by simp, by simp, by simp⟩, hb3.alloc hb3.size _, hb3.size, HN.out⟩
  obtain ⟨x, y, hxy, _⟩ := HXX.out 0 (by simpa using h0)
  exact ⟨x, y, hxy, by rw [hxy]; rfl⟩

theorem RdAt.lacks {w : World} {g : Nat} {A : Option Addr} {b : List UInt8} {s : PackM.St} (h : RdAt w g A b s) :
    RdAt ((w.setCell ⟨g, 0, none⟩ (.slice none 0 0)).setCell ⟨g, 1, none⟩ (.bool true)) g A b ⟨b.length, true⟩ ∧ w.grownBy ((w.setCell ⟨g, 0, none⟩ (.slice none 0 0)).setCell ⟨g, 1, none⟩ (.bool true)) (some g) := by
  obtain ⟨B, c, e0, _⟩ := h.rest
  refine ⟨⟨Nat.le_refl _, (h.bytes.far' _ _ h.ne).far' _ _ h.ne, h.ne, ⟨none, 0, ?_, by simp, Nat.zero_le _, fun h0 => absurd h0 (by simp)⟩, ?_, ?_, ?_, fun _ => rfl⟩, ?_⟩
  · rw [cell_store (cell_store e0)]; simp
  · rw [cell_store (cell_store h.bad)]; rfl
  · rw [World.frozen?_setCell, World.frozen?_setCell]; exact h.f0
  · rw [World.frozen?_setCell, World.frozen?_setCell]; exact h.f1
  · exact grow_trans (grow_set _ _ _) (grow_set _ _ _)
theorem RdAt.moves {w : World} {g : Nat} {A : Option Addr} {b : List UInt8} {s : PackM.St} (h : RdAt w g A b s) (k : Nat) (hk : s.at_ + k ≤ b.length) (B : Option Addr) (c n : Nat) (hn : n = b.length - (s.at_ + k)) (h1 : n ≤ c) (h2 : c ≤ maxLen) (h3 : 0 < n → ∃ x y, A = some ⟨x, y, none⟩ ∧ B = some ⟨x, y + (s.at_ + k), none⟩) :
    RdAt (w.setCell ⟨g, 0, none⟩ (.slice B n c)) g A b ⟨s.at_ + k, s.bad⟩ ∧ w.grownBy (w.setCell ⟨g, 0, none⟩ (.slice B n c)) (some g) := by
  obtain ⟨B0, c0, e0, _⟩ := h.rest
  have he := h.atEnd
  subst hn
  refine ⟨⟨hk, h.bytes.far' _ _ h.ne, h.ne, ⟨B, c, ?_, h1, h2, h3⟩, ?_, ?_, ?_, fun hb => ?_⟩, ?_⟩
  · rw [cell_store e0]; rfl
  · rw [cell_store h.bad]; rfl
  · rw [World.frozen?_setCell]; exact h.f0
  · rw [World.frozen?_setCell]; exact h.f1
  · have := he hb
    show s.at_ + k = b.length
    omega
  · exact grow_set _ _ _

theorem or_byte (v y : Nat) (hv : v < 16777216) (hy : y < 256) : bits .or .i64 ((v : Int) * 256) (y : Int) = ((256 * v + y : Nat) : Int) := by
  have e : (v : Int) * 256 = ((2 ^ 8 * v : Nat) : Int) := by omega
  rw [e, i64_or_nat _ _ (by omega) (by omega), ← Nat.two_pow_add_eq_or_of_lt (by omega : y < 2 ^ 8) v]
theorem raw_told {w w' : World} {g : Nat} {A : Option Addr} {b : List UInt8} {s s' : PackM.St} (h : RdAt w g A b s) (k : Nat) (hk : s.at_ + k ≤ b.length) (B : Option Addr) (d : Nat) (hd : k ≤ d) (hd2 : d ≤ maxLen)
    (hB : 0 < b.length - s.at_ → ∃ x y, A = some ⟨x, y, none⟩ ∧ B = some ⟨x, y + s.at_, none⟩) (r1 : RdAt w' g A b s') (r2 : w.grownBy w' (some g)) :
    RawPost w g A b ((b.drop s.at_).take k) s' (.returned (.slice B k d)) w' := by
  have hl : ((b.drop s.at_).take k).length = k := by rw [List.length_take, List.length_drop]; omega
  refine ⟨B, d, by rw [hl], ?_, by rw [hl]; exact hd, hd2, fun h0 a e => ?_, r1, r2⟩
  · by_cases h0 : k = 0
    · subst h0; rw [List.take_zero]; exact BytesAt.nil _ _
    · obtain ⟨x, y, hA, hB2⟩ := hB (by omega)
      subst hA hB2
      exact (r1.bytes.drop s.at_).take k
  · rw [hl] at h0
    obtain ⟨x, y, hA, hB2⟩ := hB (by omega)
    subst hA hB2
    injection e with e; subst e
    exact .inl ⟨_, rfl, rfl⟩

theorem rraw_lacks (g : Nat) (A : Option Addr) (b : List UInt8) (s : PackM.St) (n : Int) (w : World) (h : RdAt w g A b s) (_hn : n ≤ 9223372036854775807) (_hbl : b.length ≤ 1048576) (hl : (b.length : Int) - s.at_ < n) :
    Calls Try.prog 77 #[.pointer (some ⟨g, 0, none⟩), .int .i64 n] w (RawPost w g A b [] ⟨b.length, true⟩) := by
  have hok := h.ok
  unfold PackM.Ok at hok
  obtain ⟨B, c, e0, hc1, hc2, hB⟩ := h.rest
  have e1 := h.bad; have f0 := h.f0; have f1 := h.f1
  have hmax : max n 0 = n := by omega
  obtain ⟨m, hm⟩ : ∃ m, m = b.length - s.at_ := ⟨_, rfl⟩
  rw [← hm] at e0 hc1
  have hmn : (m : Int) < n := by omega
  have H := Lib.hid h
  clear h hB hm
  unfold maxLen at hc2
  go_enter Try.func77, Try.ntmps77
  go_wp2
  go_ret
  obtain ⟨r1, r2⟩ := H.out.lacks
  exact ⟨none, 0, rfl, BytesAt.nil _ _, Nat.le_refl _, Nat.zero_le _, fun h => absurd h (by simp), r1, r2⟩
theorem rraw_goes (g : Nat) (A : Option Addr) (b : List UInt8) (s : PackM.St) (n : Int) (w : World) (h : RdAt w g A b s) (_hn : n ≤ 9223372036854775807) (_hbl : b.length ≤ 1048576) (hl : n ≤ (b.length : Int) - s.at_) :
    Calls Try.prog 77 #[.pointer (some ⟨g, 0, none⟩), .int .i64 n] w (RawPost w g A b ((b.drop s.at_).take n.toNat) ⟨s.at_ + n.toNat, s.bad⟩) := by
  have hok := h.ok
  unfold PackM.Ok at hok
  obtain ⟨k, hk⟩ : ∃ k, k = n.toNat := ⟨_, rfl⟩
  rw [← hk]
  obtain ⟨B, c, e0, hc1, hc2, hB⟩ := h.rest
  have e1 := h.bad; have f0 := h.f0; have f1 := h.f1
  have hmax : max n 0 = (k : Int) := by omega
  obtain ⟨m, hm⟩ : ∃ m, m = b.length - s.at_ := ⟨_, rfl⟩
  rw [← hm] at e0 hc1
  have hmn : ¬ ((m : Int) < (k : Int)) := by omega
  have H := Lib.hid h; have HB := Lib.hid hB; have HM := Lib.hid hm
  clear h hB hm hl hk
  unfold maxLen at hc2
  have hmk : k ≤ m := by omega
  by_cases hck : c = k
  · have hm0 : m - k = 0 := by omega
    go_enter Try.func77, Try.ntmps77
    go_wp2
    go_ret
    have hm := HM.out
    have hcm : maxLen = 9223372036854775807 := rfl
    obtain ⟨r1, r2⟩ := H.out.moves k (by omega) B 0 0 (by omega) (by omega) (Nat.zero_le _) (fun h0 => absurd h0 (by omega))
    exact raw_told H.out k (by omega) B k (by omega) (by omega) HB.out r1 r2
  · go_enter Try.func77, Try.ntmps77
    go_wp2
    go_ret
    have hm := HM.out
    have hcm : maxLen = 9223372036854775807 := rfl
    obtain ⟨r1, r2⟩ := H.out.moves k (by omega) (B.map fun x => x.add k) (c - k) (m - k) (by omega) (by omega) (by omega) (fun h0 => by
      obtain ⟨x, y, hA, hB⟩ := HB.out (by omega)
      have hadd : (⟨x, y + s.at_, none⟩ : Addr).add k = ⟨x, y + s.at_ + k, none⟩ := by
        unfold Addr.add; split <;> simp_all
      exact ⟨x, y, hA, by rw [hB, Option.map_some, hadd, Nat.add_assoc]⟩)
    exact raw_told H.out k (by omega) B k (by omega) (by omega) HB.out r1 r2
theorem rraw_any (g : Nat) (A : Option Addr) (b : List UInt8) (s : PackM.St) (n : Int) (w : World) (h : RdAt w g A b s) (hn : -9223372036854775808 ≤ n ∧ n ≤ 9223372036854775807) (hbl : b.length ≤ 1048576) :
    Calls Try.prog 77 #[.pointer (some ⟨g, 0, none⟩), .int .i64 n] w (RawPost w g A b (PackM.rawL b s n) (PackM.rawS b s n)) := by
  have hok := h.ok
  have he := h.atEnd
  unfold PackM.Ok at hok
  by_cases hl : (b.length : Int) - s.at_ < n
  · have h1 : PackM.rawL b s n = [] := by unfold PackM.rawL; rw [if_pos (by simp [hl])]
    have h2 : PackM.rawS b s n = ⟨b.length, true⟩ := by unfold PackM.rawS; rw [if_pos (by simp [hl])]
    rw [h1, h2]
    exact rraw_lacks g A b s n w h hn.2 hbl hl
  · have C := rraw_goes g A b s n w h hn.2 hbl (by omega)
    rcases hb : s.bad with _ | _
    · have h1 : PackM.rawL b s n = (b.drop s.at_).take n.toNat := by unfold PackM.rawL; rw [if_neg (by simp [hl, hb])]
      have h2 : PackM.rawS b s n = ⟨s.at_ + n.toNat, s.bad⟩ := by unfold PackM.rawS; rw [if_neg (by simp [hl, hb]), hb]
      rw [h1, h2]
      exact C
    · have hz := he hb
      have h1 : PackM.rawL b s n = (b.drop s.at_).take n.toNat := by
        unfold PackM.rawL; rw [if_pos (by simp [hb]), show n.toNat = 0 from by omega]; simp
      have h2 : PackM.rawS b s n = ⟨s.at_ + n.toNat, s.bad⟩ := by
        unfold PackM.rawS; rw [if_pos (by simp [hb]), show n.toNat = 0 from by omega, hb, hz]; rfl
      rw [h1, h2]
      exact C
/-- the number that the next bytes are -/
theorem number_any (g : Nat) (A : Option Addr) (b : List UInt8) (s : PackM.St) (k : Nat) (w : World) (h : RdAt w g A b s) (hk : k ≤ 4) (hbl : b.length ≤ 1048576) :
    Calls Try.prog 76 #[.func (.func 77) #[.pointer (some ⟨g, 0, none⟩)] #[], .int .i64 (k : Nat)] w (NumPost w g A b (PackM.val (PackM.rawL b s k)) (PackM.rawS b s k)) := by
  have hrl := PackM.rawL_len b s k
  have H := Lib.hid h
  clear h
  go_enter Try.func76, Try.ntmps76
  go_wp2_with fail
  have C := rraw_any g A b s k w H.out (by omega) hbl
  generalize PackM.rawL b s k = l at *
  generalize PackM.rawS b s k = s' at *
  refine C.mono ?_
  clear C
  rintro e w1 ⟨X, d, rfl, hX, hd1, hd2, _, hr, hg⟩
  have HX := Lib.hid hX; have HR := Lib.hid hr; have HG := Lib.hid hg
  have hl4 : l.length ≤ 4 := by omega
  clear hX hr hg hrl
  go_wp2_with fail
  go_loop [5, 12] (fun v i => ∃ t : Nat, t ≤ l.length ∧ i = .int .i64 t ∧ v = .int .i64 (PackM.val (l.take t) : Nat))
    (fun _ i => l.length - (intOf i).toNat)
  case atStart => exact ⟨0, Nat.zero_le _, rfl, rfl⟩
  case round =>
    obtain ⟨t, ht, rfl, rfl⟩ := hrel
    by_cases hlt : t < l.length
    · obtain ⟨b1, o1, hXa, e1⟩ := HX.out t hlt
      subst hXa
      have hvt := PackM.val_take l t hlt
      have hvl := PackM.val_lt (l.take t)
      have hp : 256 ^ (l.take t).length ≤ 16777216 := by
        have h3 : (l.take t).length ≤ 3 := by rw [List.length_take]; omega
        have : 256 ^ (l.take t).length ≤ 256 ^ 3 := Nat.pow_le_pow_right (by omega) h3
        exact this
      have hv1 : PackM.val (l.take t) < 16777216 := by omega
      have hb := l[t].toNat_lt
      have HV := Lib.hid hvt
      clear hvt hvl hp
      generalize l[t].toNat = y at *
      generalize PackM.val (l.take t) = v at *
      have hor := or_byte v y hv1 hb
      go_wp2
      go_round
      case rel => exact ⟨t + 1, by omega, by go_num, by rw [HV.out]; congr 1⟩
      case measure => simp [intOf] <;> omega
    · obtain rfl : t = l.length := by omega
      rw [List.take_length]
      go_wp2
      go_ret
      exact ⟨rfl, HR.out, HG.out⟩
theorem rnum_any (g : Nat) (A : Option Addr) (b : List UInt8) (s : PackM.St) (k : Int) (w : World) (h : RdAt w g A b s) (hbl : b.length ≤ 1048576) :
    Calls Try.prog 63 #[.pointer (some ⟨g, 0, none⟩), .int .i64 k] w (NumPost w g A b (PackM.numV b s k) (PackM.numS b s k)) := by
  have hw4 := (PackM.wid_range k).2
  have C := fun w' h => number_any g A b s (PackM.wid k) w' h hw4 hbl
  have hv : PackM.numV b s k = PackM.val (PackM.rawL b s (PackM.wid k)) := rfl
  have hs : PackM.numS b s k = PackM.rawS b s (PackM.wid k) := rfl
  rw [← hv, ← hs] at C
  have HC := Lib.hid C; have H := Lib.hid h
  clear C h hv hs
  go_enter Try.func63, Try.ntmps63
  go_wp2_with fail
  refine (width_any k w).mono ?_
  rintro e w' ⟨rfl, rfl⟩
  rename World => w0
  go_wp2_with fail
  refine (HC.out w0 H.out).mono ?_
  rintro e w1 ⟨rfl, hr, hg⟩
  have HR := Lib.hid hr; have HG := Lib.hid hg
  clear hr hg
  go_wp2
  go_ret
  exact ⟨rfl, HR.out, HG.out⟩
theorem rtext_any (g : Nat) (A : Option Addr) (b : List UInt8) (s : PackM.St) (w : World) (h : RdAt w g A b s) (hbl : b.length ≤ 1048576) :
    Calls Try.prog 64 #[.pointer (some ⟨g, 0, none⟩)] w (RawPost w g A b (PackM.textL b s) (PackM.textS b s)) := by
  have hnv := PackM.numV_lt b s 1
  have hl : PackM.textL b s = PackM.rawL b (PackM.numS b s 1) (PackM.numV b s 1) := rfl
  have hs : PackM.textS b s = PackM.rawS b (PackM.numS b s 1) (PackM.numV b s 1) := rfl
  have C := number_any g A b s 1 w h (by omega) hbl
  have h1 : PackM.numV b s 1 = PackM.val (PackM.rawL b s (1 : Nat)) := rfl
  have h2 : PackM.numS b s 1 = PackM.rawS b s (1 : Nat) := rfl
  rw [hl, hs]
  rw [← h1, ← h2] at C
  have HC := Lib.hid C
  clear C h hl hs h1 h2
  generalize PackM.numV b s 1 = v at *
  generalize PackM.numS b s 1 = s1 at *
  go_enter Try.func64, Try.ntmps64
  go_wp2_with fail
  refine HC.out.mono ?_
  rintro e w1 ⟨rfl, hr, hg⟩
  have HR := Lib.hid hr; have HG := Lib.hid hg
  clear hr hg
  go_wp2_with fail
  refine (rraw_any g A b s1 v w1 HR.out (by omega) hbl).mono ?_
  rintro e w2 ⟨X, d, rfl, hX, hd1, hd2, hn, hr, hg2⟩
  have HX := Lib.hid hX; have HR := Lib.hid hr; have HG2 := Lib.hid hg2; have HN := Lib.hid hn
  clear hX hr hg2 hn
  go_wp2
  go_ret
  refine ⟨X, d, rfl, HX.out, hd1, hd2, fun h0 a e => ?_, HR.out, grow_trans HG.out HG2.out⟩
  rcases HN.out h0 a e with h | h
  · exact .inl h
  · exact .inr (Nat.le_trans HG.out.size h)
/-! of a reader that is none -/
theorem rraw_nil (k : Int) (w : World) : Calls Try.prog 77 #[.pointer none, .int .i64 k] w fun e w' => (∃ c, e = .returned (.slice none 0 c)) ∧ ∃ n, w' = w.drewN n := by
  go_enter Try.func77, Try.ntmps77
  go_wp2
  go_ret
  exact ⟨⟨0, rfl⟩, 0, rfl⟩
theorem number_nil (k : Int) (w : World) : Calls Try.prog 76 #[.func (.func 77) #[.pointer none] #[], .int .i64 k] w fun e w' => e = .returned (.int .i64 0) ∧ ∃ n, w' = w.drewN n := by
  go_enter Try.func76, Try.ntmps76
  go_wp2_with fail
  refine (rraw_nil k w).mono ?_
  rintro e w1 ⟨⟨c, rfl⟩, n, rfl⟩
  go_wp2_with fail
  go_loop [5, 12] (fun v i => i = .int .i64 0 ∧ v = .int .i64 0) (fun _ i => 0)
  case atStart => exact ⟨rfl, rfl⟩
  case round =>
    obtain ⟨rfl, rfl⟩ := hrel
    go_wp2
    go_ret
    exact ⟨rfl, n, rfl⟩
theorem rnum_nil (k : Int) (w : World) : Calls Try.prog 63 #[.pointer none, .int .i64 k] w fun e w' => e = .returned (.int .i64 0) ∧ ∃ n, w' = w.drewN n := by
  go_enter Try.func63, Try.ntmps63
  go_wp2_with fail
  refine (width_any k w).mono ?_
  rintro e w' ⟨rfl, rfl⟩
  rename World => w0
  go_wp2_with fail
  refine (number_nil _ w0).mono ?_
  rintro e w1 ⟨rfl, n, rfl⟩
  go_wp2
  go_ret
  exact ⟨rfl, n, rfl⟩
end Go.Proofs.Ytjoocjkakgjgmaa.Pack
