/- the document's own answers of layer 25: what Get's loops read into a field; what bytes are a message's -/
import Derived.Test.YtjoocjkakgjgmaaR25A
import Derived.Test.YtjoocjkakgjgmaaMsgH
import Derived.Test.YtjoocjkakgjgmaaR05
import Derived.Test.YtjoocjkakgjgmaaR06
import Derived.Test.YtjoocjkakgjgmaaHeldS
set_option maxRecDepth 100000
set_option maxHeartbeats 20000000
namespace Go.Proofs.Ytjoocjkakgjgmaa.MsgM
open PackM CrcM
theorem num1_lt (b : List UInt8) (s : St) : numV b s 1 < 256 := by
  have h3 := val_lt (rawL b s (wid 1))
  have h4 := rawL_len b s (wid 1)
  rw [wid1] at h3 h4
  have h5 : 256 ^ (rawL b s (1 : Nat)).length ≤ 256 ^ 1 := Nat.pow_le_pow_right (by omega) (by omega)
  unfold numV
  rw [wid1]
  omega
theorem at_rawS {b : List UInt8} {s : St} (_h : s.at_ ≤ b.length) (n : Nat) : (rawS b s n).at_ ≤ b.length := by
  unfold rawS
  split
  · exact Nat.le_refl _
  · rename_i k
    simp only [Bool.or_eq_true, decide_eq_true_eq, not_or] at k
    show s.at_ + (n : Int).toNat ≤ _
    omega
theorem seal_inj {l m : List UInt8} (h : seal_ l = seal_ m) : l = m := by
  have hl := congrArg List.length h
  rw [seal_len, seal_len] at hl
  unfold seal_ at h
  exact (List.append_inj h (by omega)).1
theorem numsTo_eq {b : List UInt8} {s : St} {k n : Nat} (hk : k ≤ n) (hb : k < n → (numsTo b s k).2.bad = true) : ((numsTo b s k).2.bad = true ∧ (numsTo b s n).2.bad = true) ∨ (numsTo b s k = numsTo b s n) := by
  by_cases h : k = n
  · subst h; exact .inr rfl
  · have h1 := hb (by omega)
    exact .inl ⟨h1, numsTo_bad h1 n hk⟩
theorem textsTo_eq {b : List UInt8} {s : St} {k n : Nat} (hk : k ≤ n) (hb : k < n → (textsTo b s k).2.bad = true) : ((textsTo b s k).2.bad = true ∧ (textsTo b s n).2.bad = true) ∨ (textsTo b s k = textsTo b s n) := by
  by_cases h : k = n
  · subst h; exact .inr rfl
  · have h1 := hb (by omega)
    exact .inl ⟨h1, textsTo_bad h1 n hk⟩
theorem bad_text {b : List UInt8} {s : St} (h : (textS b s).bad = false) : s.bad = false := by
  rcases hs : s.bad with _ | _
  · rfl
  · rw [textS_bad hs] at h; cases h
theorem bad_num {b : List UInt8} {s : St} {k : Int} (h : (numS b s k).bad = false) : s.bad = false := by
  rcases hs : s.bad with _ | _
  · rfl
  · rw [numS_bad hs] at h; cases h
theorem o16_bad {b : List UInt8} (h : (o16 b).bad = false) : (o13 b).bad = false ∧ (o15 b).bad = false := by
  have h15 : (o15 b).bad = false := bad_text h
  have h14 : (o14 b).bad = false := by
    rcases hs : (o14 b).bad with _ | _
    · rfl
    · have := textsTo_bad (b := b) (s := o14 b) (j := 0) hs (namesN b) (Nat.zero_le _); rw [show (textsTo b (o14 b) (namesN b)).2 = o15 b from rfl, h15] at this; cases this
  exact ⟨bad_num h14, h15⟩
/-- what the document's Get has read when it is through: whether it is all, and what it says -/
structure Endg (b : List UInt8) (j k : Nat) (m : Ms) (s : St) : Prop where
  hj : j ≤ whoN b
  hjb : j < whoN b → (numsTo b (o12 b) j).2.bad = true
  hk : k ≤ numV b (numsTo b (o12 b) j).2 1
  hkb : k < numV b (numsTo b (o12 b) j).2 1 → (textsTo b (numS b (numsTo b (o12 b) j).2 1) k).2.bad = true
  hm : m = ⟨(numV b (o1 b) 1 : Nat), (numV b (o2 b) 2 : Nat), (numV b (o3 b) 2 : Nat), (numV b (o4 b) 4 : Nat), txt (textL b (o5 b)), (numV b (o6 b) 4 : Nat), (numV b (o7 b) 4 : Nat), (numV b (o8 b) 4 : Nat), (numV b (o9 b) 2 : Nat), (numV b (o10 b) 1 : Nat),
    (numsTo b (o12 b) j).1, (textsTo b (numS b (numsTo b (o12 b) j).2 1) k).1, textL b (textsTo b (numS b (numsTo b (o12 b) j).2 1) k).2⟩
  hs : s = textS b (textsTo b (numS b (numsTo b (o12 b) j).2 1) k).2
theorem Endg.exact {b : List UInt8} {j k : Nat} {m : Ms} {s : St} (h : Endg b j k m s) (hg : s.bad = false ∨ (o16 b).bad = false) : m = said b ∧ s = o16 b := by
  have h1 := numsTo_eq h.hj h.hjb
  have e13 : numsTo b (o12 b) j = numsTo b (o12 b) (whoN b) := by
    rcases h1 with ⟨q1, q2⟩ | e
    · exfalso
      rcases hg with hg | hg
      · rw [h.hs] at hg
        have g1 := bad_text hg
        have g2 : (textsTo b (numS b (numsTo b (o12 b) j).2 1) k).2.bad = true := textsTo_bad (j := 0) (numS_bad q1) k (Nat.zero_le _)
        rw [g2] at g1; cases g1
      · have := (o16_bad hg).1
        rw [show (numsTo b (o12 b) (whoN b)).2 = o13 b from rfl, this] at q2; cases q2
    · exact e
  have hk := h.hk; have hkb := h.hkb; have hm := h.hm; have hs := h.hs
  rw [e13] at hk hkb hm hs
  have e14 : numS b (numsTo b (o12 b) (whoN b)).2 1 = o14 b := rfl
  have en : numV b (numsTo b (o12 b) (whoN b)).2 1 = namesN b := rfl
  rw [e14] at hkb hm hs
  rw [en] at hk hkb
  have h2 := textsTo_eq hk hkb
  have e15 : textsTo b (o14 b) k = textsTo b (o14 b) (namesN b) := by
    rcases h2 with ⟨q1, q2⟩ | e
    · exfalso
      rcases hg with hg | hg
      · rw [hs] at hg
        have g1 := bad_text hg
        rw [q1] at g1; cases g1
      · have := (o16_bad hg).2
        rw [show (textsTo b (o14 b) (namesN b)).2 = o15 b from rfl, this] at q2; cases q2
    · exact e
  rw [e15] at hm hs
  exact ⟨hm, hs⟩
theorem Endg.yes {b bb : List UInt8} {j k : Nat} {m : Ms} {s : St} (h : Endg b j k m s) (hbb : bb = seal_ b) (h0 : numV b o0 1 = 77) (hb : s.bad = false) (he : s.at_ = b.length) (hr : m.right = true) : getV bb = m ∧ getE bb = 0 := by
  obtain ⟨rfl, rfl⟩ := h.exact (.inl hb)
  have h1 := text_said h0 hb he
  have h2 : (said b).put = bb := by rw [hbb]; show seal_ (said b).text = _; rw [h1]
  have h3 := get_put ((right_iff _).1 hr)
  rw [h2] at h3
  exact h3
theorem Endg.no {b bb : List UInt8} {j k : Nat} {m : Ms} {s : St} (h : Endg b j k m s) (hbb : bb = seal_ b) (hn : ¬ (numV b o0 1 = 77 ∧ s.bad = false ∧ s.at_ = b.length ∧ m.right = true)) : getV bb = ms0 ∧ getE bb = 3 := by
  refine get_not (by rw [hbb]; exact seal_good _) fun x hx e => hn ?_
  have ht : x.text = b := seal_inj (e.trans hbb)
  obtain ⟨h1, h2, h3⟩ := said_text hx []
  rw [List.append_nil, ht] at h1 h2 h3
  obtain ⟨rfl, rfl⟩ := h.exact (.inr h3.1)
  refine ⟨h2, h3.1, ?_, by rw [h1]; exact (right_iff _).2 hx⟩
  have q1 := h3.2.1
  have q2 := congrArg List.length h3.2.2
  simp only [List.length_drop, List.nil_append, List.length_nil] at q2
  omega
end Go.Proofs.Ytjoocjkakgjgmaa.MsgM
namespace Go.Proofs.Ytjoocjkakgjgmaa.R25
open Go.RowKit MsgM Msg
open R07 (StrsAt Sane OwnS AppdS)

theorem RAt.keep {F : Nat → Prop} {w w' : World} {g : Nat} {A : Option Addr} {c : Nat} {b : List UInt8} {s : PackM.St} (h : R06.RAt w g A c b s) (q : Keeps F w w') (hg : ¬ F g) (hA : 0 < b.length → ∀ a, A = some a → ¬ F a.block) : R06.RAt w' g A c b s :=
  ⟨q.cell h.cb hg, q.cell h.ca hg, q.cell h.cd hg, q.frozen h.ca hg h.f1, q.frozen h.cd hg h.f2, q.bytes' h.bytes hA, h.ne, h.ok, h.cap, h.cap2⟩
/-- an append, a single operation -/
theorem wp_append_cells {t e : TypeId} {i : TypeInfo} {z : Value} {bytes : Nat} (ht : Try.prog.underlying t = some (.slice e)) (hi : Try.prog.info? e = some i) (hz : i.zero = some z) (hsize : i.size = 1) (hby : i.bytes = bytes) (hzs : z.cells.size = 1)
    {o : Oper} {a : Act} {w : World} {K : Act → World → Prop} {Q : Exit → Act → World → Prop} (s x : Operand)
    (ho : o.op = .call { callee := .builtin .append, args := #[s, x], argTypes := #[t, t] })
    (base : Nat) (v : Value) (n : Nat) (xs : List Value) (hs : a.eval s = v) (hown : w.ownsRow base e 1 v n xs) (A : Option Addr) (m c : Nat) (ys : List Value) (hx : a.eval x = .slice A m c) (hy : ys.length = m) (hA : CellsAt w A ys) (hone : ∀ u ∈ ys, u.oneCell' = true)
    (hl : n + m < 1099511627776) (hb : bytes ≤ 64) (hbase : base ≤ w.heap.size)
    (h : ∀ v' w', AppdV w base e v (n + m) (xs ++ ys) v' w' → K (a.put o.dst v') w') : o.wp Try.prog a w K Q := by
  obtain ⟨v', w', hrun, k2⟩ := run_append_cells (ty := o.type) ht hi hz hsize hby hzs hown hy hA hone hl hb hbase (c := c)
  unfold Oper.wp execOp
  simp only [ho, resolve, invoke, builtin, Sem.run_bind, Sem.run_pure, Result.andThen_ok, List.map_toArray, List.map_cons, List.map_nil, hs, hx, hrun]
  exact h v' w' k2
theorem wp_append_ints {o : Oper} {a : Act} {w : World} {K : Act → World → Prop} {Q : Exit → Act → World → Prop} (s x : Operand)
    (ho : o.op = .call { callee := .builtin .append, args := #[s, x], argTypes := #[22, 22] })
    (base : Nat) (v : Value) (xs : List Int) (hs : a.eval s = v) (hown : OwnI w base v xs) (A : Option Addr) (y : Int) (hx : a.eval x = .slice A 1 1) (hA : IntsAt w A [y])
    (hl : xs.length + 1 < 1099511627776) (hbase : base ≤ w.heap.size)
    (h : ∀ v' w', AppdI w base v (xs ++ [y]) v' w' → K (a.put o.dst v') w') : o.wp Try.prog a w K Q := by
  obtain ⟨i0, hi, hz, hs1, hb1⟩ := int_info'
  refine wp_append_cells Try.underlying22 hi hz hs1 hb1 rfl s x ho base v xs.length (intV xs) hs hown A 1 1 (intV [y]) hx rfl hA (intV_one [y]) hl (by omega) hbase ?_
  intro v' w' ha
  refine h v' w' ⟨?_, ha.grow, ha.place⟩
  have := ha.own
  unfold OwnI
  rw [List.length_append, show intV (xs ++ [y]) = intV xs ++ intV [y] from by simp [intV]]
  exact this
theorem wp_append_strs {o : Oper} {a : Act} {w : World} {K : Act → World → Prop} {Q : Exit → Act → World → Prop} (s x : Operand)
    (ho : o.op = .call { callee := .builtin .append, args := #[s, x], argTypes := #[23, 23] })
    (base : Nat) (v : Value) (xs : List ByteArray) (hs : a.eval s = v) (hown : OwnS w base v xs) (A : Option Addr) (y : ByteArray) (hx : a.eval x = .slice A 1 1) (hA : StrsAt w A [y])
    (hl : xs.length + 1 < 1099511627776) (hbase : base ≤ w.heap.size)
    (h : ∀ v' w', AppdS w base v (xs ++ [y]) v' w' → K (a.put o.dst v') w') : o.wp Try.prog a w K Q := by
  obtain ⟨i0, hi, hz, hs1, hb1⟩ := R07.str_info'
  refine wp_append_cells Try.underlying23 hi hz hs1 hb1 rfl s x ho base v xs.length (LabM.strV xs) hs hown A 1 1 (LabM.strV [y]) hx rfl hA (LabM.strV_one [y]) hl (by omega) hbase ?_
  intro v' w' ha
  refine h v' w' ⟨?_, ha.grow, ha.place⟩
  have := ha.own
  unfold OwnS
  rw [List.length_append, show LabM.strV (xs ++ [y]) = LabM.strV xs ++ LabM.strV [y] from by simp [LabM.strV]]
  exact this
/-- what holds while 'm.F = append(m.F, read())' goes, in whatever order: c the call, bd the literal, ap the append -/
structure RdF (W0 : World) (c ec bd ap g : Nat) (v : Value) (RD RD' : World → Prop) (O O' R L : World → Value → Prop) (K : Nat → Option Value) (f : Nat → Bool) (xs : Nat → Value) (w : World) : Prop where
  keep : Keeps (fun k => k = g ∨ v.ownBlock = some k) W0 w
  rd0 : f c = false → RD w
  rd1 : f c = true → RD' w
  res : f c = true → f ec = false → R w (xs c)
  lit : f bd = true → f ap = false → L w (xs bd)
  own0 : f ap = false → O w v
  own1 : f ap = true → O' w (xs ap)
  o1 : f ap = true → f bd = true
  o2 : f bd = true → f c = true
  o3 : f bd = true → f ec = true
  o4 : f ec = true → f c = true
  vals : ∀ i u, K i = some u → f i = true → xs i = u
section
variable {W0 w w' : World} {c ec bd ap g : Nat} {v : Value} {RD RD' : World → Prop} {O O' R L : World → Value → Prop} {K : Nat → Option Value} {f : Nat → Bool} {xs : Nat → Value}
theorem RdF.begin {n : Nat} (hc : c < n) (he : ec < n) (hb : bd < n) (ha : ap < n) (hK : ∀ i u, K i = some u → i < n) (h : ∀ i, i < n → f i = false) (h1 : RD W0.drew) (h2 : O W0.drew v) : RdF W0 c ec bd ap g v RD RD' O O' R L K f xs W0.drew :=
  ⟨.of_below _ (bdraw W0 1), fun _ => h1, fun e => (by rw [h c hc] at e; cases e), fun e _ => (by rw [h c hc] at e; cases e), fun e _ => (by rw [h bd hb] at e; cases e), fun _ => h2, fun e => (by rw [h ap ha] at e; cases e), fun e => (by rw [h ap ha] at e; cases e), fun e => (by rw [h bd hb] at e; cases e), fun e => (by rw [h bd hb] at e; cases e), fun e => (by rw [h ec he] at e; cases e), fun i u hi e => (by rw [h i (hK i u hi)] at e; cases e)⟩
theorem getD_lt {l : List (Option Value)} {n : Nat} (hn : l.length = n) : ∀ i u, l.getD i none = some u → i < n := fun i u h => by
  rcases Nat.lt_or_ge i n with q | q
  · exact q
  · rw [List.getD_eq_getElem?_getD, List.getElem?_eq_none (by omega)] at h; cases h
theorem upd_true {f : Nat → Bool} {i j : Nat} (h : f j = true) : Drawn.upd f i j = true := by unfold Drawn.upd; rw [h]; rfl
theorem RdF.noB (h : RdF W0 c ec bd ap g v RD RD' O O' R L K f xs w) (e : f c = false) : f bd = false := by
  rcases hb : f bd with _ | _
  · rfl
  · rw [h.o2 hb] at e; cases e
theorem RdF.noA (h : RdF W0 c ec bd ap g v RD RD' O O' R L K f xs w) (e : f bd = false) : f ap = false := by
  rcases hb : f ap with _ | _
  · rfl
  · rw [h.o1 hb] at e; cases e
theorem RdF.pure_ (h : RdF W0 c ec bd ap g v RD RD' O O' R L K f xs w) {i : Nat} {u : Value} (h1 : i ≠ c) (h2 : i ≠ bd) (h3 : i ≠ ap) (hu : ∀ u', K i = some u' → u = u') (h4 : i = ec → f c = true) : RdF W0 c ec bd ap g v RD RD' O O' R L K (Drawn.upd f i) (Drawn.updV xs i u) w := by
  have e1 : Drawn.upd f i c = f c := Drawn.upd_ne (Ne.symm h1)
  have e2 : Drawn.upd f i bd = f bd := Drawn.upd_ne (Ne.symm h2)
  have e3 : Drawn.upd f i ap = f ap := Drawn.upd_ne (Ne.symm h3)
  have x1 : Drawn.updV xs i u c = xs c := Drawn.updV_ne (Ne.symm h1)
  have x2 : Drawn.updV xs i u bd = xs bd := Drawn.updV_ne (Ne.symm h2)
  have x3 : Drawn.updV xs i u ap = xs ap := Drawn.updV_ne (Ne.symm h3)
  refine ⟨h.keep, ?_, ?_, ?_, ?_, ?_, ?_, ?_, ?_, ?_, ?_, fun j u' hj hf => ?_⟩
  · rw [e1]; exact h.rd0
  · rw [e1]; exact h.rd1
  · rw [e1, x1]
    intro q1 q2
    refine h.res q1 ?_
    rcases hq : f ec with _ | _
    · rfl
    · rw [upd_true hq] at q2; cases q2
  · rw [e2, e3, x2]; exact h.lit
  · rw [e3]; exact h.own0
  · rw [e3, x3]; exact h.own1
  · rw [e3, e2]; exact h.o1
  · rw [e2, e1]; exact h.o2
  · rw [e2]; exact fun q => upd_true (h.o3 q)
  · rw [e1]
    intro q
    by_cases q2 : i = ec
    · exact h4 q2
    · rw [Drawn.upd_ne (Ne.symm q2)] at q; exact h.o4 q
  · by_cases q : j = i
    · subst q; rw [Drawn.updV_self]; exact hu u' hj
    · rw [Drawn.upd_ne q] at hf; rw [Drawn.updV_ne q]; exact h.vals j u' hj hf
theorem RdF.call (h : RdF W0 c ec bd ap g v RD RD' O O' R L K f xs w) {u : Value} (hd : c ≠ bd ∧ c ≠ ap ∧ bd ≠ ap) (hK : K c = none) (hf : f c = false) (hk : Keeps (fun k => k = g ∨ v.ownBlock = some k) W0 w') (h1 : RD' w') (h2 : O w' v) (h3 : R w' u) : RdF W0 c ec bd ap g v RD RD' O O' R L K (Drawn.upd f c) (Drawn.updV xs c u) w' := by
  have nb := h.noB hf
  have na := h.noA nb
  have e1 : Drawn.upd f c c = true := Drawn.upd_self
  have e2 : Drawn.upd f c bd = false := by rw [Drawn.upd_ne (Ne.symm hd.1)]; exact nb
  have e3 : Drawn.upd f c ap = false := by rw [Drawn.upd_ne (Ne.symm hd.2.1)]; exact na
  refine ⟨hk, fun e => (by rw [e1] at e; cases e), fun _ => h1, fun _ _ => by rw [Drawn.updV_self]; exact h3, fun e => (by rw [e2] at e; cases e), fun _ => h2, fun e => (by rw [e3] at e; cases e), fun e => (by rw [e3] at e; cases e), fun _ => e1, fun e => (by rw [e2] at e; cases e), fun _ => e1, fun j u' hj hfj => ?_⟩
  by_cases q : j = c
  · subst q; rw [hK] at hj; cases hj
  · rw [Drawn.upd_ne q] at hfj; rw [Drawn.updV_ne q]; exact h.vals j u' hj hfj
theorem RdF.build (h : RdF W0 c ec bd ap g v RD RD' O O' R L K f xs w) {u : Value} (hd : c ≠ bd ∧ c ≠ ap ∧ bd ≠ ap) (he : ec = bd ∨ f ec = true) (hK : K bd = none) (hf : f bd = false) (hc : f c = true) (hk : Keeps (fun k => k = g ∨ v.ownBlock = some k) W0 w') (h1 : RD' w') (h2 : O w' v) (h3 : L w' u) : RdF W0 c ec bd ap g v RD RD' O O' R L K (Drawn.upd f bd) (Drawn.updV xs bd u) w' := by
  have na := h.noA hf
  have e1 : Drawn.upd f bd c = true := by rw [Drawn.upd_ne hd.1]; exact hc
  have e2 : Drawn.upd f bd bd = true := Drawn.upd_self
  have e4 : Drawn.upd f bd ec = true := by
    rcases he with he | he
    · rw [he]; exact Drawn.upd_self
    · exact upd_true he
  have e3 : Drawn.upd f bd ap = false := by rw [Drawn.upd_ne (Ne.symm hd.2.2)]; exact na
  refine ⟨hk, fun e => (by rw [e1] at e; cases e), fun _ => h1, fun _ e => (by rw [e4] at e; cases e), fun _ _ => by rw [Drawn.updV_self]; exact h3, fun _ => h2, fun e => (by rw [e3] at e; cases e), fun _ => e2, fun _ => e1, fun _ => e4, fun _ => e1, fun j u' hj hfj => ?_⟩
  by_cases q : j = bd
  · subst q; rw [hK] at hj; cases hj
  · rw [Drawn.upd_ne q] at hfj; rw [Drawn.updV_ne q]; exact h.vals j u' hj hfj
theorem RdF.app (h : RdF W0 c ec bd ap g v RD RD' O O' R L K f xs w) {u : Value} (hd : c ≠ bd ∧ c ≠ ap ∧ bd ≠ ap) (hK : K ap = none) (hb : f bd = true) (hk : Keeps (fun k => k = g ∨ v.ownBlock = some k) W0 w') (h1 : RD' w') (h2 : O' w' u) : RdF W0 c ec bd ap g v RD RD' O O' R L K (Drawn.upd f ap) (Drawn.updV xs ap u) w' := by
  have e1 : Drawn.upd f ap c = true := by rw [Drawn.upd_ne hd.2.1]; exact h.o2 hb
  have e2 : Drawn.upd f ap bd = true := by rw [Drawn.upd_ne hd.2.2]; exact hb
  have e4 : Drawn.upd f ap ec = true := upd_true (h.o3 hb)
  have e3 : Drawn.upd f ap ap = true := Drawn.upd_self
  refine ⟨hk, fun e => (by rw [e1] at e; cases e), fun _ => h1, fun _ e => (by rw [e4] at e; cases e), fun _ e => (by rw [e3] at e; cases e), fun e => (by rw [e3] at e; cases e), fun _ => by rw [Drawn.updV_self]; exact h2, fun _ => e2, fun _ => e1, fun _ => e4, fun _ => e1, fun j u' hj hfj => ?_⟩
  by_cases q : j = ap
  · subst q; rw [hK] at hj; cases hj
  · rw [Drawn.upd_ne q] at hfj; rw [Drawn.updV_ne q]; exact h.vals j u' hj hfj
end
/-- between a reader's calls: where it is, what has been told, and the result's block -/
structure Rdg (w0 w : World) (r q p : Nat) (A : Option Addr) (c : Nat) (b : List UInt8) (s : PackM.St) (x : Mv) : Prop where
  rd : R06.RAt w r A c b s
  below : Below w0.heap.size w0 w
  n0 : w0.heap.size ≤ q
  n1 : q < r
  n2 : r < p
  nb : 0 < b.length → ∀ a, A = some a → a.block < w0.heap.size
  rc : MsB w p x
  rs : MsB w q mv0
section
variable {w0 w w' : World} {r q p : Nat} {A : Option Addr} {c : Nat} {b : List UInt8} {s s' : PackM.St} {x x' : Mv}
theorem Rdg.kept {F : Nat → Prop} (k : Rdg w0 w r q p A c b s x) (h : R06.RAt w' r A c b s') (q1 : Keeps F w w') (hF : ∀ i, F i → i = r ∨ p < i) : Rdg w0 w' r q p A c b s' x := by
  have h0 := k.n0; have h1 := k.n1; have h2 := k.n2
  exact ⟨h, below_keeps k.below q1 (fun i e => by have := hF i e; omega) k.below.size, h0, h1, h2, k.nb, k.rc.keep q1 (fun e => by have := hF _ e; omega), k.rs.keep q1 (fun e => by have := hF _ e; omega)⟩
theorem Rdg.grown (k : Rdg w0 w r q p A c b s x) (h : R06.RAt w' r A c b s') (kg : w.grownBy w' (some r)) : Rdg w0 w' r q p A c b s' x := k.kept h (.grow (F := fun i => i = r) kg rfl) (fun _ e => .inl e)
theorem Rdg.stored (k : Rdg w0 w r q p A c b s x) (q1 : Keeps (fun i => i = p) w w') (h : MsB w' p x') : Rdg w0 w' r q p A c b s x' := by
  have h0 := k.n0; have h1 := k.n1; have h2 := k.n2
  exact ⟨RAt.keep k.rd q1 (by omega) (fun h0 a e => by have := k.nb h0 a e; omega), below_keeps k.below q1 (fun i e => by omega) k.below.size, h0, h1, h2, k.nb, h, k.rs.keep q1 (by omega)⟩
end
end Go.Proofs.Ytjoocjkakgjgmaa.R25
