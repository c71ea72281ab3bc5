/- the document's own answers of layer 17: what a sector says -/
import Derived.Test.YtmpkcnbphlfdcaaR17
set_option maxRecDepth 100000
namespace Go.Proofs.Ytmpkcnbphlfdcaa.R17
open Go.RowKit SupM Super

theorem bytes_block {w : World} {A : Option Addr} {l : List UInt8} (h : BytesAt w A l) (h0 : 0 < l.length) : ∃ b o, A = some ⟨b, o, none⟩ ∧ ∀ i, (hi : i < l.length) → w.cell? ⟨b, o + i, none⟩ = some (.int .u8 (l[i].toNat : Nat)) := by
  obtain ⟨b, o, rfl, _⟩ := h 0 h0
  refine ⟨b, o, rfl, fun i hi => ?_⟩
  obtain ⟨b', o', e, hc⟩ := h i hi
  injection e with e; injection e with e1 e2 _
  rw [e1, e2]; exact hc
theorem keep_ra {F : Nat → Prop} {w w' : World} {g : Nat} {A : Option Addr} {c : Nat} {b : List UInt8} {s : PackM.St} (h : R06.RAt w g A c b s) (q : Keeps F w w') (hg : ¬ F g) (hA : 0 < b.length → ∀ a, A = some a → ¬ F a.block) : R06.RAt w' g A c b s :=
  ⟨q.cell h.cb hg, q.cell h.ca hg, q.cell h.cd hg, q.frozen h.ca hg h.f1, q.frozen h.cd hg h.f2, q.bytes' h.bytes hA, h.ne, h.ok, h.cap, h.cap2⟩
/-- between the calls of the document's reader: where it is, what has been told, and the result's block -/
structure Rdd (w0 w : World) (g p q : Nat) (A : Option Addr) (c : Nat) (b : List UInt8) (s : PackM.St) (F D S : Int) : Prop where
  ra : R06.RAt w g A c b s
  below : Below w0.heap.size w0 w
  first : w0.heap.size ≤ q
  ne : q < g
  ne2 : g < p
  nb : 0 < b.length → ∀ a, A = some a → a.block < g
  sp : SpW w p F D S
  rs : SpW w q 0 0 0
theorem Rdd.grown {w0 w w' : World} {g p q c : Nat} {A : Option Addr} {b : List UInt8} {s s' : PackM.St} {F D S : Int} (h : Rdd w0 w g p q A c b s F D S) (r : R06.RAt w' g A c b s') (k : w.grownBy w' (some g)) : Rdd w0 w' g p q A c b s' F D S := by
  have hn := h.ne; have hn2 := h.ne2; have hf := h.first
  have q1 : Keeps (fun x => x = g) w w' := .grow k rfl
  exact ⟨r, below_keeps h.below q1 (fun x e => by omega) h.below.size, hf, hn, hn2, h.nb, h.sp.keep q1 (by omega), h.rs.keep q1 (by omega)⟩
theorem Rdd.stored {w0 w w' : World} {g p q c : Nat} {A : Option Addr} {b : List UInt8} {s : PackM.St} {F D S F' D' S' : Int} (h : Rdd w0 w g p q A c b s F D S) (k : Keeps (fun x => x = p) w w') (r : SpW w' p F' D' S') : Rdd w0 w' g p q A c b s F' D' S' := by
  have hn := h.ne; have hn2 := h.ne2; have hf := h.first
  exact ⟨keep_ra h.ra k (by omega) (fun h0 a e => by have := h.nb h0 a e; omega), below_keeps h.below k (fun x e => by omega) h.below.size, hf, hn, hn2, h.nb, r, h.rs.keep k (by omega)⟩
theorem Rdd.start {w0 w : World} {q bx ox d : Nat} {P : List UInt8} (h60 : P.length = 60) (hd : 60 ≤ d) (hd2 : d ≤ maxLen) (hX : BytesAt w (some ⟨bx, ox, none⟩) P) (hb : Below w0.heap.size w0 w) (hf : w0.heap.size ≤ q) (hq : SpW w q 0 0 0) (S : Int) (t u : TypeId) :
    Rdd w0 ((w.alloc (.cells #[.slice (some ⟨bx, ox, none⟩) 60 d, .int .i64 2, .bool false] t)).alloc (.cells #[.int .i64 0, .int .i64 0, .int .i64 S] u)) w.heap.size (w.heap.size + 1) q (some ⟨bx, ox, none⟩) d P ⟨2, false⟩ 0 0 S := by
  have hlt := cell_lt hq.sp.c0
  have hxl := hX.lt (by omega) _ rfl
  have hb1 := balloc w (.cells #[.slice (some ⟨bx, ox, none⟩) 60 d, .int .i64 2, .bool false] t)
  have ra : R06.RAt (w.alloc (.cells #[.slice (some ⟨bx, ox, none⟩) 60 d, .int .i64 2, .bool false] t)) w.heap.size (some ⟨bx, ox, none⟩) d P ⟨2, false⟩ :=
    ⟨by simp [h60], by simp, by simp, by simp, by simp, hX.alloc _, fun _ a e => by injection e with e; subst e; exact Nat.ne_of_lt hxl, by show 2 ≤ P.length; omega, by omega, hd2⟩
  have e : (w.alloc (.cells #[.slice (some ⟨bx, ox, none⟩) 60 d, .int .i64 2, .bool false] t)).heap.size = w.heap.size + 1 := by simp
  have hp := SpW.new (w.alloc (.cells #[.slice (some ⟨bx, ox, none⟩) 60 d, .int .i64 2, .bool false] t)) 0 0 S u
  have hb2 := balloc (w.alloc (.cells #[.slice (some ⟨bx, ox, none⟩) 60 d, .int .i64 2, .bool false] t)) (.cells #[.int .i64 0, .int .i64 0, .int .i64 S] u)
  rw [e] at hp
  exact ⟨ra.below hb2, bstep (bstep hb hb1) hb2, hf, hlt, by omega, fun _ a e => by injection e with e; subst e; exact hxl, hp, (hq.below hb1).below hb2⟩
set_option maxHeartbeats 2000000 in
theorem get_any (A : Option Addr) (l : List UInt8) (c : Nat) (w : World) (h : BytesAt w A l) (hc : l.length ≤ c) (hl : l.length ≤ 1048576) (hc2 : c ≤ maxLen) :
    Calls Try.prog 14 #[.slice A l.length c] w (Told w (get_ l) (gets l)) := by
  have CC := Lib.hid (fun W h => R15.clear_any A l c W h (by omega))
  have CO := Lib.hid (fun W h => R15.open_any A l c W h hc (by omega) hc2)
  have H := Lib.hid h
  clear h
  unfold gets get_
  by_cases hcl : SecM.clear_ l = true
  · rw [hcl] at CC
    rw [hcl]
    rw [if_pos rfl, Bool.true_or]
    have hq := SpW.new w 0 0 0 23
    have hb0 := balloc w (.cells #[.int .i64 0, .int .i64 0, .int .i64 0] 23)
    clear hcl CO
    go_enter Try.func14, Try.ntmps14
    go_wp2_with fail
    generalize w.alloc (.cells #[.int .i64 0, .int .i64 0, .int .i64 0] 23) = w1 at *
    obtain ⟨q, hq0⟩ : ∃ q, q = w.heap.size := ⟨_, rfl⟩
    rw [← hq0] at hq ⊢
    have HQ0 := Lib.hid hq0; have HQ := Lib.hid hq; have HB0 := Lib.hid hb0
    clear hq0 hq hb0
    refine (CC.out _ (H.out.below HB0.out)).mono ?_
    rintro e w2 ⟨rfl, hb2⟩
    have HQ2 := Lib.hid (HQ.out.below hb2)
    have HB2 := Lib.hid (bstep HB0.out hb2)
    have c0 := HQ2.out.sp.c0; have c1 := HQ2.out.sp.c1; have c2 := HQ2.out.sp.c2; have f0 := HQ2.out.f0; have f1 := HQ2.out.f1; have f2 := HQ2.out.f2
    clear hb2 HQ
    go_wp2
    exact Go.bodyPost_ret (results_sup2 rfl _ _ q 0 0 0 rfl (HQ2.out.set 0 0 0).sp _ rfl) rfl ⟨rfl, below_keeps HB2.out (put3_keeps _ q 0 0 0) (fun x e => by have := HQ0.out; omega) HB2.out.size⟩
  · have hcl : SecM.clear_ l = false := by simpa using hcl
    rw [hcl] at CC
    rw [hcl]
    rw [if_neg (by decide), Bool.false_or]
    by_cases ho : SecM.opens l = true
    · have hO : R15.openOf l = l.take 60 := if_pos ho
      have h64 : l.length = 64 := by unfold SecM.opens at ho; revert ho; cases hd : decide (l.length = 64) <;> simp; intro _; exact of_decide_eq_true hd
      have h60 : (l.take 60).length = 60 := by rw [List.length_take, h64]; rfl
      rw [hO, ho, h60] at CO
      rw [ho, Bool.true_and]
      generalize l.take 60 = P at *
      have HS0 := Lib.hid (says_no P)
      have HD0 := Lib.hid (drop_noughts P h60)
      have HD1 := Lib.hid (drop_noughts_at P)
      obtain ⟨G, hG⟩ : ∃ G, G = says P := ⟨_, rfl⟩
      rw [← hG] at HS0 ⊢
      obtain ⟨R, hR⟩ : ∃ R, R = if G = true then ofP P else ⟨0, 0, 0⟩ := ⟨_, rfl⟩
      rw [← hR]
      have HR := Lib.hid hR; have HG := Lib.hid hG
      clear hG
      have H60 := Lib.hid h60
      clear hR h60 ho hO hcl h64
      have hq := SpW.new w 0 0 0 23
      have hb0 := balloc w (.cells #[.int .i64 0, .int .i64 0, .int .i64 0] 23)
      go_enter Try.func14, Try.ntmps14
      go_wp2_with fail
      generalize w.alloc (.cells #[.int .i64 0, .int .i64 0, .int .i64 0] 23) = w1 at *
      obtain ⟨q, hq0⟩ : ∃ q, q = w.heap.size := ⟨_, rfl⟩
      rw [← hq0] at hq ⊢
      have HQ0 := Lib.hid hq0; have HQ := Lib.hid hq; have HB0 := Lib.hid hb0
      clear hq0 hq hb0
      refine (CC.out _ (H.out.below HB0.out)).mono ?_
      rintro e w2 ⟨rfl, hb2⟩
      have HQ2 := Lib.hid (HQ.out.below hb2)
      have HB2 := Lib.hid (bstep HB0.out hb2)
      clear hb2 HQ HB0 CC
      go_wp2_with fail
      refine (CO.out _ (H.out.below HB2.out)).mono ?_
      rintro e w3 ⟨X, d, rfl, g1, g2, g3, hb3⟩
      have HQ3 := Lib.hid (HQ2.out.below hb3)
      have HB3 := Lib.hid (bstep HB2.out hb3)
      have HX := Lib.hid g3
      clear hb3 HQ2 HB2 CO g3
      have c0 := HQ3.out.sp.c0; have c1 := HQ3.out.sp.c1; have c2 := HQ3.out.sp.c2; have f0 := HQ3.out.f0; have f1 := HQ3.out.f1; have f2 := HQ3.out.f2
      obtain ⟨bx, ox, hxa, hcx⟩ := bytes_block HX.out (by have := H60.out; omega)
      subst hxa
      have e0 := hcx 0 (by have := H60.out; omega)
      have e1 := hcx 1 (by have := H60.out; omega)
      have HC := Lib.hid hcx
      rw [Nat.add_zero] at e0
      clear hcx
      have HG0 : Hid (∀ hh : 0 < P.length, P.getD 0 0 = P[0]) := Lib.hid (fun hh => by rw [List.getD_eq_getElem?_getD, List.getElem?_eq_getElem hh]; rfl)
      have HG1 : Hid (∀ hh : 1 < P.length, P.getD 1 0 = P[1]) := Lib.hid (fun hh => by rw [List.getD_eq_getElem?_getD, List.getElem?_eq_getElem hh]; rfl)
      have hg0 := HG0.out (by have := H60.out; omega)
      have hg1 := HG1.out (by have := H60.out; omega)
      have HF := Lib.hid (fun (h : G = false) => show R = ⟨0, 0, 0⟩ from by rw [HR.out, h]; rfl)
      have HZ := Lib.hid (HQ3.out.set 0 0 0).sp
      have HZB := Lib.hid (below_keeps HB3.out (put3_keeps _ q 0 0 0) (fun x e => by have := HQ0.out; omega) HB3.out.size)
      by_cases k0 : P[0]'(by have := H60.out; omega) = 83
      · have q0 : (((P[0]'(by have := H60.out; omega)).toNat : Int) != 83) = false := by rw [k0]; rfl
        by_cases k1 : (P[1]'(by have := H60.out; omega)).toNat < 1
        · have hs := HS0.out (fun h => by have := h.2.1; rw [hg1] at this; omega)
          have hr := HF.out hs
          subst hr
          subst hs
          clear hg0 hg1 k0
          generalize P[0]'(by have := H60.out; omega) = x0 at *
          generalize (P[1]'(by have := H60.out; omega)).toNat = x1 at *
          go_wp2
          exact Go.bodyPost_ret (results_sup2 rfl _ _ q 0 0 0 rfl HZ.out _ rfl) rfl ⟨rfl, HZB.out⟩
        by_cases k2 : 2 < (P[1]'(by have := H60.out; omega)).toNat
        · have hs := HS0.out (fun h => by have := h.2.2.1; rw [hg1] at this; omega)
          have hr := HF.out hs
          subst hr
          subst hs
          clear hg0 hg1 k0
          generalize P[0]'(by have := H60.out; omega) = x0 at *
          generalize (P[1]'(by have := H60.out; omega)).toNat = x1 at *
          go_wp2
          exact Go.bodyPost_ret (results_sup2 rfl _ _ q 0 0 0 rfl HZ.out _ rfl) rfl ⟨rfl, HZB.out⟩
        have HK : Hid (P.getD 0 0 = 83 ∧ 1 ≤ (P.getD 1 0).toNat ∧ (P.getD 1 0).toNat ≤ 2) := Lib.hid ⟨by rw [hg0]; exact k0, by rw [hg1]; omega, by rw [hg1]; omega⟩
        have HX1 : Hid ((P.getD 1 0).toNat = (P[1]'(by have := H60.out; omega)).toNat) := Lib.hid (by rw [hg1])
        clear hg0 hg1 k0
        generalize P[0]'(by have := H60.out; omega) = x0 at *
        generalize (P[1]'(by have := H60.out; omega)).toNat = x1 at *
        go_wp2_with fail
        go_loopw [6] (fun i wr => ∃ k n : Nat, 10 ≤ k ∧ k ≤ 60 ∧ i = .int .i64 k ∧ (∀ j, (hj : j < P.length) → 10 ≤ j → j < k → P[j] = 0) ∧ wr = w3.drewN n)
          (fun i _ => 60 - (intOf i).toNat)
        case atStart => exact ⟨10, 0, Nat.le_refl _, by omega, rfl, fun j _ h1 h2 => absurd h1 (by omega), rfl⟩
        case round =>
          obtain ⟨k, n, hk1, hk2, rfl, ht, hwr⟩ := hrel
          have HT := Lib.hid ht; have HW := Lib.hid hwr
          have hb3 : Below w.heap.size w wr := by rw [hwr]; exact bstep HB3.out (bdraw _ _)
          have HB4 := Lib.hid hb3
          have hq4 : SpW wr q 0 0 0 := by rw [hwr]; exact HQ3.out.below (bdraw _ _)
          have HQ4 := Lib.hid hq4
          have c0 := hq4.sp.c0; have c1 := hq4.sp.c1; have c2 := hq4.sp.c2; have f0 := hq4.f0; have f1 := hq4.f1; have f2 := hq4.f2
          have HX4 : Hid (BytesAt wr (some ⟨bx, ox, none⟩) P) := Lib.hid (by rw [hwr]; exact HX.out.drewN n)
          clear ht hwr hb3 hq4 HZB HZ HX HB3 HQ3
          have HZ := Lib.hid (HQ4.out.set 0 0 0).sp
          have HZB := Lib.hid (below_keeps HB4.out (put3_keeps _ q 0 0 0) (fun x e => by have := HQ0.out; omega) HB4.out.size)
          by_cases hlt : k < 60
          · have hk : k < P.length := by have := H60.out; omega
            obtain ⟨b9, o9, hxa, ek⟩ := HX4.out k hk
            injection hxa with hxa; injection hxa with hxa1 hxa2 _
            rw [← hxa1, ← hxa2] at ek
            have hq := toNat_eq0 P[k]
            have g1 : P[k] = 0 → ∀ j, (hj : j < P.length) → 10 ≤ j → j < k + 1 → P[j] = 0 := fun e j hj h1 h => by
              by_cases e2 : j = k
              · subst e2; exact e
              · exact HT.out j hj h1 (by omega)
            have g2 : P[k] ≠ 0 → G = false := fun hne => HS0.out (fun h => hne (HD1.out h.2.2.2.1 k hk hk1))
            have G1 := Lib.hid g1; have G2 := Lib.hid g2
            clear g1 g2 hxa1 hxa2
            generalize P[k] = x at *
            by_cases hx : x = 0
            · have q : ((x.toNat : Int) != 0) = false := by unfold bne; rw [hq, hx]; rfl
              have hf := G1.out hx
              have HFF := Lib.hid hf
              clear hq hx hf
              go_wp2
              go_roundw
              case rel => exact ⟨k + 1, n, by omega, by omega, by go_num, HFF.out, HW.out⟩
              case measure => simp [intOf] <;> omega
            · have q1 : ((x.toNat : Int) != 0) = true := by unfold bne; rw [hq]; simpa using hx
              have hf := G2.out hx
              have hr := HF.out hf
              subst hf
              subst hr
              clear hq hx
              go_wp2
              exact Go.bodyPost_ret (results_sup2 rfl _ _ q 0 0 0 rfl HZ.out _ rfl) rfl ⟨rfl, HZB.out⟩
          · have hk3 : k = 60 := by omega
            subst hk3
            have hd := HD0.out (fun j hj h1 => HT.out j hj h1 (by have := H60.out; omega))
            have HD := Lib.hid hd
            have hx1 : wr.cell? ⟨bx, ox + 1, none⟩ = some (.int .u8 (x1 : Nat)) := by
              obtain ⟨b9, o9, hxa, ek⟩ := HX4.out 1 (by have := H60.out; omega)
              injection hxa with hxa; injection hxa with hxa1 hxa2 _
              rw [hxa1, hxa2, ek, ← HX1.out, HG1.out (by have := H60.out; omega)]
            have hx1 := ((balloc wr (.cells #[.slice (some ⟨bx, ox, none⟩) 60 d, .int .i64 2, .bool false] 52)).cell (p := ⟨bx, ox + 1, none⟩) (cell_lt hx1)).trans hx1
            have i1 : IntKind.i64.wrap (x1 : Int) = x1 := IntWalk.i64_in _ (by omega)
            clear hd
            have hst := Rdd.start H60.out g1 g2 HX4.out HB4.out (by have := HQ0.out; omega) HQ4.out (x1 : Int) 52 23
            have HST := Lib.hid hst
            have C1 := Lib.hid (fun W g h => R06.rnum_any g (some ⟨bx, ox, none⟩) d P ⟨2, false⟩ 4 W h (by have := H60.out; omega))
            have C2 := Lib.hid (fun W g h => R06.rnum_any g (some ⟨bx, ox, none⟩) d P ⟨6, false⟩ 4 W h (by have := H60.out; omega))
            have s2 : PackM.numS P ⟨2, false⟩ 4 = ⟨6, false⟩ := by unfold PackM.numS; rw [wid4]; exact rawS_in P 2 4 (by have := H60.out; omega)
            have v1 : PackM.numV P ⟨2, false⟩ 4 = PackM.val ((P.drop 2).take 4) := by unfold PackM.numV; rw [wid4, rawL_in P 2 4 (by have := H60.out; omega)]
            have v2 : PackM.numV P ⟨6, false⟩ 4 = PackM.val ((P.drop 6).take 4) := by unfold PackM.numV; rw [wid4, rawL_in P 6 4 (by have := H60.out; omega)]
            rw [s2, v1] at C1
            rw [v2] at C2
            have HSY : Hid (PackM.val ((P.drop 6).take 4) ≤ PackM.val ((P.drop 2).take 4) → G = true ∧ R = ⟨(PackM.val ((P.drop 2).take 4) : Nat), (PackM.val ((P.drop 6).take 4) : Nat), (x1 : Nat)⟩) := Lib.hid (fun h => by
              have hg : G = true := by rw [HG.out]; exact decide_eq_true ⟨HK.out.1, HK.out.2.1, HK.out.2.2, HD.out, h⟩
              refine ⟨hg, ?_⟩
              rw [HR.out, if_pos hg]; unfold ofP; rw [HX1.out])
            have HSN : Hid (¬ PackM.val ((P.drop 6).take 4) ≤ PackM.val ((P.drop 2).take 4) → G = false) := Lib.hid (fun h => HS0.out (fun k => h k.2.2.2.2))
            clear hst s2 v1 v2
            generalize PackM.val ((P.drop 2).take 4) = vf at *
            generalize PackM.val ((P.drop 6).take 4) = vd at *
            generalize PackM.numS P ⟨6, false⟩ 4 = s4 at *
            clear HK HX1 HD HT HW HD0 HD1 HR HG HS0 HC HG0 HG1
            go_wp2_with fail
            obtain ⟨g, hg⟩ : ∃ g, g = wr.heap.size := ⟨_, rfl⟩
            obtain ⟨p, hp⟩ : ∃ p, p = wr.heap.size + 1 := ⟨_, rfl⟩
            rw [← hp] at HST ⊢
            rw [← hg] at HST ⊢
            clear hg hp
            generalize (wr.alloc (.cells #[.slice (some ⟨bx, ox, none⟩) 60 d, .int .i64 2, .bool false] 52)).alloc (.cells #[.int .i64 0, .int .i64 0, .int .i64 (x1 : Nat)] 23) = w5 at *
            refine (C1.out w5 g HST.out.ra).mono ?_
            rintro e w6 ⟨rfl, k1, k2⟩
            have R6 := Lib.hid (HST.out.grown k1 k2)
            clear k1 k2 HST C1 c0 c1 c2 f0 f1 f2 HZ HZB HQ4 HX4
            have c0 := R6.out.sp.sp.c0; have f0 := R6.out.sp.f0
            have R7 := Lib.hid (R6.out.stored (.set (fun x => x = p) _ ⟨p, 0, none⟩ (.int .i64 vf) rfl) (R6.out.sp.set0 vf))
            clear R6
            go_wp2_with fail
            refine (C2.out _ g R7.out.ra).mono ?_
            rintro e w8 ⟨rfl, k1, k2⟩
            have R8 := Lib.hid (R7.out.grown k1 k2)
            clear k1 k2 R7 C2 c0 f0
            have c0 := R8.out.sp.sp.c0; have c1 := R8.out.sp.sp.c1; have c2 := R8.out.sp.sp.c2; have f1 := R8.out.sp.f1
            have d0 := R8.out.rs.sp.c0; have d1 := R8.out.rs.sp.c1; have d2 := R8.out.rs.sp.c2; have g0 := R8.out.rs.f0; have g1 := R8.out.rs.f1; have g2 := R8.out.rs.f2
            have n1 : ¬ p = q := by have := R8.out.ne; have := R8.out.ne2; omega
            have n2 : ¬ q = p := fun e => n1 e.symm
            have R9 := Lib.hid (R8.out.stored (.set (fun x => x = p) _ ⟨p, 1, none⟩ (.int .i64 vd) rfl) (R8.out.sp.set1 vd))
            clear R8
            by_cases hle : vd ≤ vf
            · obtain ⟨rfl, rfl⟩ := HSY.out hle
              have HZ := Lib.hid (R9.out.rs.set vf vd x1).sp
              have HZB := Lib.hid (below_keeps R9.out.below (put3_keeps _ q vf vd x1) (fun x e => by have := HQ0.out; omega) R9.out.below.size)
              have q1 : ¬ (vf : Int) < (vd : Int) := by omega
              clear HF HSY HSN
              go_wp2
              exact Go.bodyPost_ret (results_sup2 rfl _ _ q vf vd x1 rfl HZ.out _ rfl) rfl ⟨rfl, HZB.out⟩
            · have hs := HSN.out hle
              have hr := HF.out hs
              subst hs
              subst hr
              have HZ := Lib.hid (R9.out.rs.set 0 0 0).sp
              have HZB := Lib.hid (below_keeps R9.out.below (put3_keeps _ q 0 0 0) (fun x e => by have := HQ0.out; omega) R9.out.below.size)
              have q1 : (vf : Int) < (vd : Int) := by omega
              clear HF HSY HSN
              go_wp2
              exact Go.bodyPost_ret (results_sup2 rfl _ _ q 0 0 0 rfl HZ.out _ rfl) rfl ⟨rfl, HZB.out⟩
      · have hs := HS0.out (fun h => k0 (by rw [← hg0]; exact h.1))
        have hr := HF.out hs
        subst hr
        subst hs
        have q0 : (((P[0]'(by have := H60.out; omega)).toNat : Int) != 83) = true := by
          rw [bne_iff_ne]; intro e; apply k0; apply UInt8.toNat_inj.1; show _ = 83; omega
        clear hg0 hg1 k0
        generalize P[0]'(by have := H60.out; omega) = x0 at *
        go_wp2
        exact Go.bodyPost_ret (results_sup2 rfl _ _ q 0 0 0 rfl HZ.out _ rfl) rfl ⟨rfl, HZB.out⟩
    · have ho : SecM.opens l = false := by simpa using ho
      rw [ho] at CO
      rw [ho, Bool.false_and]
      rw [if_neg (by decide)]
      have hO : R15.openOf l = [] := by unfold R15.openOf; rw [ho]; exact if_neg (by decide)
      rw [hO] at CO
      have hq := SpW.new w 0 0 0 23
      have hb0 := balloc w (.cells #[.int .i64 0, .int .i64 0, .int .i64 0] 23)
      clear hO ho hcl
      go_enter Try.func14, Try.ntmps14
      go_wp2_with fail
      generalize w.alloc (.cells #[.int .i64 0, .int .i64 0, .int .i64 0] 23) = w1 at *
      obtain ⟨q, hq0⟩ : ∃ q, q = w.heap.size := ⟨_, rfl⟩
      rw [← hq0] at hq ⊢
      have HQ0 := Lib.hid hq0; have HQ := Lib.hid hq; have HB0 := Lib.hid hb0
      clear hq0 hq hb0
      refine (CC.out _ (H.out.below HB0.out)).mono ?_
      rintro e w2 ⟨rfl, hb2⟩
      have HQ2 := Lib.hid (HQ.out.below hb2)
      have HB2 := Lib.hid (bstep HB0.out hb2)
      clear hb2 HQ HB0 CC
      go_wp2_with fail
      refine (CO.out _ (H.out.below HB2.out)).mono ?_
      rintro e w3 ⟨X, d, rfl, -, -, -, hb3⟩
      have HQ3 := Lib.hid (HQ2.out.below hb3)
      have HB3 := Lib.hid (bstep HB2.out hb3)
      clear hb3 HQ2 HB2 CO
      have c0 := HQ3.out.sp.c0; have c1 := HQ3.out.sp.c1; have c2 := HQ3.out.sp.c2; have f0 := HQ3.out.f0; have f1 := HQ3.out.f1; have f2 := HQ3.out.f2
      go_wp2
      exact Go.bodyPost_ret (results_sup2 rfl _ _ q 0 0 0 rfl (HQ3.out.set 0 0 0).sp _ rfl) rfl ⟨rfl, below_keeps HB3.out (put3_keeps _ q 0 0 0) (fun x e => by have := HQ0.out; omega) HB3.out.size⟩
end Go.Proofs.Ytmpkcnbphlfdcaa.R17
