/- package disk: Write, Rot -/
import Derived.Test.YteiemkaeeghhhaaDiskB
import Derived.Test.YteiemkaeeghhhaaMSE
set_option maxRecDepth 100000
namespace Go.Proofs.Yteiemkaeeghhhaa.Disk
open Go.RowKit DiskM CrcM

theorem run_neq_slice_nil (w : World) (t e : TypeId) (a : Option Addr) (n c n' c' : Nat) (h : Try.prog.underlying t = some (.slice e)) :
    (binOp .neq t (.slice a n c) (.slice none n' c')).run Try.prog w = .ok (.bool (!a.isNone)) w := by
  simp only [binOp]
  simp [Op.equal, Op.maxDepth, Lib.run_equalIn_slice_nil w 9999 t e a n c n' c' h]
/-- a sector copied in -/
theorem copied {w : World} {p g c : Nat} {m : Dk} (h : DAt w p g c m) {i : Nat} (hi : 64 * i + 64 ≤ m.b.length) {l : List UInt8} (hl : l.length = 64) {cur : Array Value} (hg : w.heap[g]? = some (.cells cur 5 (0, 0))) (hs : cur.size = c) (ht : cur.toList.take m.b.length = vals m.b) :
    DAt (w.setRow g (cur.toList.take (64 * i) ++ (vals l ++ cur.toList.drop (64 * i + (vals l).length))).toArray) p g c ⟨setS m.b i l, m.left, m.dead⟩ ∧ Keeps (fun k => k = g) w (w.setRow g (cur.toList.take (64 * i) ++ (vals l ++ cur.toList.drop (64 * i + (vals l).length))).toArray) := by
  have hcap := h.cap
  have hk : Keeps (fun k => k = g) w (w.setRow g (cur.toList.take (64 * i) ++ (vals l ++ cur.toList.drop (64 * i + (vals l).length))).toArray) :=
    ⟨rfl, rfl, rfl, by simp, fun k _ hn => setRow_other w g k _ hn⟩
  have hsl := setS_len m.b i l hi hl
  have hvl : (vals l).length = 64 := by rw [vals_len, hl]
  refine ⟨h.turned hk hsl ⟨by rw [vals_len, hsl, Nat.mul_one], .inr ⟨g, c, _, by rw [hsl], Nat.zero_le _, setRow_heap w g _ _ _ _ hg, by rw [hsl]; exact hcap.1, hcap.2, ?_, ?_⟩⟩, hk⟩
  · rw [List.size_toArray, List.length_append, List.length_append, List.length_take, List.length_drop, hvl, Array.length_toList, hs]; omega
  · rw [hsl, Nat.mul_one]
    show (cur.toList.take (64 * i) ++ (vals l ++ cur.toList.drop (64 * i + (vals l).length))).take m.b.length = vals (setS m.b i l)
    have e1 : vals (setS m.b i l) = (vals m.b).take (64 * i) ++ (vals l ++ (vals m.b).drop (64 * i + 64)) := by
      unfold setS vals
      rw [List.map_append, List.map_append, List.map_take, List.map_drop]
    have hcl : cur.toList.length = c := by rw [Array.length_toList, hs]
    rw [e1, ← ht, hvl, List.take_take, List.drop_take, Nat.min_eq_left (by omega)]
    rw [List.take_append, List.take_append, List.length_take, hcl, hvl, List.take_take, Nat.min_eq_left (by omega : 64 * i ≤ c), Nat.min_eq_right (by omega : 64 * i ≤ m.b.length)]
    rw [List.take_of_length_le (by rw [hvl]; omega : (vals l).length ≤ m.b.length - 64 * i), show m.b.length - 64 * i - 64 = m.b.length - (64 * i + 64) from by omega]
theorem wpList_copy_sect {ops : Array Oper} {rest : List Oper} {o : Oper} {a : Act} {w : World} {Q : Exit → Act → World → Prop} (hgd : o.guard = none) (d s : Operand)
    (ho : o.op = .call { callee := .builtin .copy, args := #[d, s], argTypes := #[30, 30] })
    (p g c : Nat) (m : Dk) (i : Nat) (h : DAt w p g c m) (hi : 64 * i + 64 ≤ m.b.length) (A : Option Addr) (l : List UInt8) (n c2 : Nat) (hd : a.eval d = .slice (some ⟨g, 64 * i, none⟩) 64 64) (hs : a.eval s = .slice A n c2) (hn : n = 64) (hl : l.length = 64) (hA : BytesAt w A l)
    (K : ∀ w', DAt w' p g c ⟨setS m.b i l, m.left, m.dead⟩ → Keeps (fun k => k = g) w w' → wpList Try.prog ops Q rest (a.put o.dst (goInt 64)) w') : wpList Try.prog ops Q (o :: rest) a w := by
  subst hn
  rcases h.own.2 with ⟨e, _⟩ | ⟨g', cap, cur, e, hbg, hg, hnc, hcm, hcs, htake⟩
  · cases e
  · injection e with e1 _ e3
    injection e1 with e1; injection e1 with e1
    subst e1
    subst e3
    obtain ⟨b, o', rfl, _⟩ := hA 0 (by omega)
    have hvl : (vals l).length = 64 := by rw [vals_len, hl]
    have hsrc : ∀ j v, (vals l)[j]? = some v → w.cell? ((⟨b, o', none⟩ : Addr).add j) = some v := by
      intro j v hv
      have hj : j < l.length := by
        rcases Nat.lt_or_ge j l.length with hlt | hge
        · exact hlt
        · rw [List.getElem?_eq_none (by rw [vals_len]; exact hge)] at hv; cases hv
      obtain ⟨b2, o2, hA2, hc⟩ := hA j hj
      obtain ⟨rfl, rfl⟩ : b = b2 ∧ o' = o2 := by injection hA2 with hA2; injection hA2 with h1 h2; exact ⟨h1, h2⟩
      rw [vals_get l j hj] at hv
      injection hv with hv
      subst hv
      have hadd : (⟨b, o', none⟩ : Addr).add j = ⟨b, o' + j, none⟩ := by unfold Addr.add; split <;> simp_all
      rw [hadd]; exact hc
    have hone : ∀ v ∈ vals l, v.oneCell' = true := by
      intro u hu
      simp only [vals, List.mem_map] at hu
      obtain ⟨b, _, rfl⟩ := hu
      rfl
    have hcs' : cur.size = c := by rw [hcs, Nat.mul_one]
    have hcap := h.cap
    refine wpList_copy_own hgd d s 30 30 ho 5 Try.underlying30 u8_size g (64 * i) 64 64 ⟨b, o', none⟩ 64 c2 hd hs cur 5 hg (vals l) (by rw [hvl]; rfl) hsrc (by rw [hvl, hcs']; omega) hone ?_
    rw [hvl] 
    obtain ⟨q1, q2⟩ := copied h hi hl hg hcs' (by rw [Nat.mul_one] at htake; exact htake)
    rw [hvl] at q1 q2
    exact K _ q1 q2
theorem write_no {m : Dk} {i : Int} {d : List UInt8} (h : isS m.b i = false) : m.write i d = (m, false) := by
  unfold Dk.write Dk.may; rw [h]; rfl
theorem write_short {m : Dk} {i : Int} {d : List UInt8} (h : okD d = false) : m.write i d = (m, false) := by
  unfold Dk.write Dk.may; rw [h, Bool.and_false]; rfl
theorem okD_no {d : List UInt8} (h : d ≠ []) (h2 : d.length ≠ 64) : okD d = false := by
  refine decide_eq_false fun e => ?_
  rcases e with e | e
  · exact h (List.eq_nil_of_length_eq_zero e)
  · exact h2 e
theorem write_off {m : Dk} {i : Int} {d : List UInt8} (h : isS m.b i = true) (hd : d.length = 64) (hz : m.left = 0) : m.write i d = (⟨m.b, m.left, true⟩, false) := by
  have ho : okD d = true := decide_eq_true (.inr hd)
  have hf : m.off = true := by unfold Dk.off; rw [decide_eq_true hz]; rfl
  unfold Dk.write Dk.may; rw [h, ho, hf]; rfl
theorem write_on {m : Dk} {i : Int} {d : List UInt8} (h : isS m.b i = true) (hd : d.length = 64) (hz : m.left ≠ 0) (hwf : m.dead = true → m.left = 0) : m.write i d = (⟨setS m.b i.toNat d, if 0 < m.left then m.left - 1 else m.left, false⟩, true) := by
  have ho : okD d = true := decide_eq_true (.inr hd)
  have hdd : m.dead = false := by
    rcases hq : m.dead with _ | _
    · rfl
    · exact absurd (hwf hq) hz
  have hf : m.off = false := by unfold Dk.off; rw [decide_eq_false hz, hdd]; rfl
  have hfull : DiskM.full d = d := by
    unfold DiskM.full
    rw [if_neg (fun e => by rw [e] at hd; cases hd)]
  unfold Dk.write Dk.may; rw [h, ho, hf, hfull]; rfl
theorem write_nil (m : Dk) (i : Int) : m.write i [] = m.write i (SecM.noughts 64) := by
  have h1 : okD [] = true := by decide
  have h2 : okD (SecM.noughts 64) = true := decide_eq_true (.inr (SecM.noughts_len _))
  have h3 : DiskM.full [] = SecM.noughts 64 := rfl
  have h4 : DiskM.full (SecM.noughts 64) = SecM.noughts 64 := by
    unfold DiskM.full
    rw [if_neg (fun e => by have := congrArg List.length e; rw [SecM.noughts_len] at this; cases this)]
  unfold Dk.write Dk.may
  rw [h1, h2, h3, h4]

/-- what is done to a sector's own bytes by Write -/
theorem write1_any (p g c x y : Nat) (m : Dk) (i : Nat) (A : Option Addr) (l : List UInt8) (cl : Nat) (w : World) (h : DAt w p g c m) (hi : 64 * i + 64 ≤ m.b.length) (_hl : m.b.length ≤ 32768) (hwf : m.dead = true → m.left = 0) (hz : -9223372036854775808 ≤ m.left ∧ m.left ≤ 9223372036854775807)
    (hx : w.cell? ⟨x, 0, none⟩ = some (.slice A l.length cl)) (hy : w.cell? ⟨y, 0, none⟩ = some (.pointer (some ⟨p, 0, none⟩))) (hxp : x ≠ p) (hA : BytesAt w A l) (hAp : ∀ a, A = some a → a.block ≠ p) (hne : l ≠ []) (_hll : l.length ≤ maxLen) :
    Calls Try.prog 27 #[.slice (some ⟨g, 64 * i, none⟩) 64 64, .pointer (some ⟨x, 0, none⟩), .pointer (some ⟨y, 0, none⟩)] w fun e w' =>
      e = .returned (.bool (m.write (i : Int) l).2) ∧ DAt w' p g c (m.write (i : Int) l).1 ∧ Keeps (PG p g) w w' := by
  have hS : isS m.b (i : Int) = true := isS_nat hi
  have HD := Lib.hid h
  by_cases h64 : l.length = 64
  · have H6 := Lib.hid h64
    rw [h64] at hx
    have C := lasts_any p g c m w h hz
    have HH := Lib.hid hA
    clear hA
    by_cases hz0 : m.left = 0
    · have he := write_off hS h64 hz0
      have hd : (!decide (m.left = 0)) = false := by rw [decide_eq_true hz0]; rfl
      have hd2 : decide (m.left = 0) = true := decide_eq_true hz0
      rw [hd, hd2, if_neg (by omega)] at C
      rw [he]
      clear h64 he hd hd2 hz0 h HD
      go_enter Try.func27, Try.ntmps27
      go_wp2_with fail
      refine C.mono ?_
      rintro e w1 ⟨rfl, hd, hq⟩
      have HD := Lib.hid hd; have HQ := Lib.hid hq
      clear hd hq
      go_wp2
      go_ret
      exact ⟨rfl, HD.out, HQ.out.mono fun k _ h => .inl h⟩
    · have he := write_on hS h64 hz0 hwf
      have hd : (!decide (m.left = 0)) = true := by rw [decide_eq_false hz0]; rfl
      have hd2 : decide (m.left = 0) = false := decide_eq_false hz0
      rw [hd, hd2] at C
      rw [he, Int.toNat_natCast]
      generalize (if 0 < m.left then m.left - 1 else m.left) = Z at *
      clear h64 he hd hd2 hz0 h HD
      go_enter Try.func27, Try.ntmps27
      go_wp2_with fail
      refine C.mono ?_
      rintro e w1 ⟨rfl, hd, hq⟩
      have HD := Lib.hid hd; have HQ := Lib.hid hq
      have hx1 := hq.cell hx hxp
      have HA := Lib.hid (hq.bytes' HH.out (fun _ a e => hAp a e))
      clear hd hq hx
      go_wp2_with (first
        | (with_reducible refine wpList_copy_sect rfl (.tmp 15) (.tmp 16) rfl p g c _ i HD.out hi A l 64 cl rfl rfl rfl H6.out HA.out ?_; intro w2 hd2 hq2; have HD2 := Lib.hid hd2; have HQ2 := Lib.hid hq2; clear hd2 hq2)
        | fail)
      go_ret
      exact ⟨rfl, HD2.out, (HQ.out.mono fun k _ h => .inl h).trans (HQ2.out.mono fun k _ h => .inr h)⟩
  · have he : m.write (i : Int) l = (m, false) := write_short (okD_no hne h64)
    rw [he]
    have q : ((l.length : Int) != 64) = true := by rw [bne_iff_ne]; omega
    unfold maxLen at _hll
    clear h he h64
    go_enter Try.func27, Try.ntmps27
    go_wp2
    go_ret
    exact ⟨rfl, HD.out, .refl _ _⟩
end Go.Proofs.Yteiemkaeeghhhaa.Disk
