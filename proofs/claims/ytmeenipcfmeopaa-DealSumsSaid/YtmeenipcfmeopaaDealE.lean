/- package deal: Cost, and the shares of some custodians -/
import Derived.Test.YtmeenipcfmeopaaDealD
set_option maxRecDepth 100000
namespace Go.Proofs.Ytmeenipcfmeopaa.Deal
open Go.RowKit PlanM StripeM DealM Plan Stripe

set_option maxHeartbeats 1000000 in
theorem cost_any (p : P) (size : Int) (w : World) (hp : p.In) (hs : In64 size) : Calls Try.prog 12 #[p.val, .int .i64 size] w (Says w (.int .i64 (costA p size))) := by
  have hT := fun V => Plan.stripes_any p size V hp hs
  have hc : IntKind.i64.wrap (p.T * p.stripesA size) = costA p size := by
    unfold costA P.stripesA
    by_cases hM : p.May
    · rw [P.right_yes hM, if_pos rfl, if_pos rfl]
      have hM' := hM
      unfold P.May at hM'
      have hn := stripes_le p size hM'.2.1
      have h1 : p.T * (p.stripes size : Nat) ≤ 256 * 240 := Int.mul_le_mul (by omega) (by omega) (by omega) (by omega)
      have h0 : 0 ≤ p.T * (p.stripes size : Nat) := Int.mul_nonneg (by omega) (by omega)
      exact IntWalk.i64_in _ (by omega)
    · rw [P.right_no hM, if_neg (by simp), if_neg (by simp), Int.mul_zero]; rfl
  have HS := Lib.hid (Six.new w p)
  have hb0 := Lib.hid (balloc w (.cells #[.int .i64 p.N, .int .i64 p.T, .int .i64 p.L, .int .i64 p.W, .int .i64 p.S, .int .i64 p.R] 23))
  generalize costA p size = ans at *
  generalize p.stripesA size = n at *
  clear hp hs
  obtain ⟨pN, pT, pL, pW, pS, pR⟩ := p
  unfold P.val at hT ⊢
  simp only at hc HS hb0 ⊢
  have HT := Lib.hid hT
  clear hT
  go_enter Try.func12, Try.ntmps12
  go_wp2_with fail
  generalize w.alloc (.cells #[.int .i64 pN, .int .i64 pT, .int .i64 pL, .int .i64 pW, .int .i64 pS, .int .i64 pR] 23) = w0 at *
  have s0 := HS.out
  have c0 := s0.c0; have c1 := s0.c1; have c2 := s0.c2; have c3 := s0.c3; have c4 := s0.c4; have c5 := s0.c5
  simp only at c0 c1 c2 c3 c4 c5
  clear s0
  go_region_held3 (fun w' => w'.cell? ⟨w.heap.size, 0, none⟩ = some (.int .i64 pN) ∧ w'.cell? ⟨w.heap.size, 1, none⟩ = some (.int .i64 pT) ∧ w'.cell? ⟨w.heap.size, 2, none⟩ = some (.int .i64 pL) ∧ w'.cell? ⟨w.heap.size, 3, none⟩ = some (.int .i64 pW) ∧ w'.cell? ⟨w.heap.size, 4, none⟩ = some (.int .i64 pS) ∧ w'.cell? ⟨w.heap.size, 5, none⟩ = some (.int .i64 pR)) (first | (exact ⟨c0, c1, c2, c3, c4, c5⟩) | (exact ⟨HA.out.c0, HA.out.c1, HA.out.c2, HA.out.c3, HA.out.c4, HA.out.c5⟩) | go_keep) ((first
    | (go_simp; go_at_call 24; refine (HT.out _).mono ?_; rintro e w1 ⟨rfl, hb1⟩; have hb1 : Below w0.heap.size w0 w1 := (by first | (exact hb1) | (exact bstep (bdraw w0 _) hb1)); have HA := Lib.hid (HS.out.below hb1))))
  clear c0 c1 c2 c3 c4 c5
  all_goals
    go_wp2
    go_ret
    exact ⟨rfl, bstep hb0.out hb1⟩

/-- rows of the call's own, each of them new -/
def RowsNew (w w' : World) (v : Value) (m : List (List UInt8)) : Prop := ∀ A c, v = .slice A m.length c → ∀ i, (h : i < m.length) → ∃ b o B d, A = some ⟨b, o, none⟩ ∧ w'.cell? ⟨b, o + i, none⟩ = some (.slice B m[i].length d) ∧ m[i].length ≤ d ∧ d ≤ maxLen ∧ BytesAt w' B m[i] ∧ New w B
def RetOwnE (w : World) (m : List (List UInt8)) (err : Int) (e : Ending) (w' : World) : Prop :=
  ∃ v, e = .returned (.tuple #[v, .int .i64 err]) ∧ OwnM w' w.heap.size v m ∧ RowsNew w w' v m ∧ Below w.heap.size w w'
theorem RetOwnE.rows {w w' : World} {m : List (List UInt8)} {err : Int} {e : Ending} (h : RetOwnE w m err e w') : RetRowsE w m err e w' := by
  obtain ⟨v, rfl, h1, _, h3⟩ := h
  obtain ⟨A, c, rfl, k1, k2, k3, k4⟩ := h1.rows
  exact ⟨A, c, rfl, k1, k2, k3, h3, k4⟩
theorem RowsNew.nil (w w' : World) (v : Value) : RowsNew w w' v [] := fun _ _ _ i hi => absurd hi (by simp)
theorem Gat.own {w w' : World} {G Rb R cap c : Nat} {B : Option Addr} {ps : List UInt8} {m : Nat → List UInt8} {l : List (List UInt8)} (h : Gat w' G Rb R cap B c ps m) (ha : GA G Rb R B) (hcap : cap ≤ 1048576) (hps : ps.length ≤ 1048576) (h1 : w.heap.size ≤ Rb) (h2 : w.heap.size ≤ R)
    (hl : l.length = ps.length) (hm : ∀ i, (h : i < l.length) → m i = l[i] ∧ (m i).length = cap) : OwnM w' w.heap.size (.slice (some ⟨Rb, 0, none⟩) ps.length ps.length) l ∧ RowsNew w w' (.slice (some ⟨Rb, 0, none⟩) ps.length ps.length) l := by
  have hrb := ha.rb
  have hrow : ∀ i, (hi : i < l.length) → Row w' (R + i) l[i] := fun i hi => by
    obtain ⟨e1, e2⟩ := hm i hi
    have := h.row i (by omega)
    rw [← e2, pad_full, e1] at this
    exact this
  refine ⟨⟨heads R cap ps.length m, ⟨?_, .inr ⟨Rb, ps.length, _, by rw [hl], h1, h.hds, ?_, ?_, ?_, ?_⟩⟩, fun i hi => ?_⟩, fun A c' e i hi => ?_⟩
  · rw [heads_len, hl, Nat.mul_one]
  · omega
  · unfold maxLen; omega
  · simp [heads_len]
  · rw [hl, Nat.mul_one]
    simp only [List.toList_toArray]
    exact List.take_of_length_le (by rw [heads_len]; exact Nat.le_refl _)
  · obtain ⟨e1, e2⟩ := hm i hi
    refine ⟨_, some ⟨R + i, 0, none⟩, cap, heads_get _ _ _ _ _ (by omega), by show Value.slice (some ⟨R + i, 0, none⟩) (m i).length cap = _; rw [e1], by rw [← e1, e2]; exact Nat.le_refl _, by unfold maxLen; omega, (hrow i hi).bytes, fun _ a e => ?_⟩
    injection e with e; subst e
    intro e
    simp only [Value.ownBlock] at e
    injection e with e
    omega
  · injection e with e _ _
    subst e
    obtain ⟨e1, e2⟩ := hm i hi
    refine ⟨Rb, 0, some ⟨R + i, 0, none⟩, cap, rfl, ?_, by rw [← e1, e2]; exact Nat.le_refl _, by unfold maxLen; omega, (hrow i hi).bytes, New.at w (by omega)⟩
    rw [Nat.zero_add, h.head (by omega), e1]

theorem sharesOf_err (b0 : Nat) (p : P) (A1 A2 A3 : Option Addr) (blob : List UInt8) (tn n3 c1 c2 c3 : Nat) (w : World) (er : Int) (hp : p.In) (h1 : BytesAt w A1 blob) (k1 : blob.length ≤ c1) (z1 : c1 ≤ maxLen) (hl1 : blob.length ≤ 1048576) (he : cutE p blob = er) (h0 : (er != 0) = true) :
    Calls Try.prog 19 #[.pointer (some ⟨b0, 0, none⟩), p.val, .slice A1 blob.length c1, .slice A2 tn c2, .slice A3 n3 c3] w (RetOwnE w [] er) := by
  have HS := Lib.hid (Six.new w p)
  have hb0 := Lib.hid (balloc w (.cells #[.int .i64 p.N, .int .i64 p.T, .int .i64 p.L, .int .i64 p.W, .int .i64 p.S, .int .i64 p.R] 23))
  have hC := fun V h => Stripe.cut_any p A1 blob c1 V hp h k1 z1 hl1
  rw [show cutA p blob = [] from by unfold cutA; rw [he, if_neg (by simpa using h0)], he] at hC
  have H1 := Lib.hid h1
  obtain ⟨bl, hbl⟩ : ∃ bl, bl = blob.length := ⟨_, rfl⟩
  rw [← hbl] at hC ⊢
  clear he hp h1 hl1 hbl k1
  obtain ⟨pN, pT, pL, pW, pS, pR⟩ := p
  unfold P.val at hC ⊢
  simp only at HS hb0 hC ⊢
  have HC := Lib.hid hC
  clear hC
  go_enter Try.func19, Try.ntmps19
  go_wp2_with fail
  generalize w.alloc (.cells #[.int .i64 pN, .int .i64 pT, .int .i64 pL, .int .i64 pW, .int .i64 pS, .int .i64 pR] 23) = w0 at *
  have s0 := HS.out
  have c0 := s0.c0; have c1 := s0.c1; have c2 := s0.c2; have c3 := s0.c3; have c4 := s0.c4; have c5 := s0.c5
  simp only at c0 c1 c2 c3 c4 c5
  clear s0
  go_wp2_with fail
  refine (HC.out _ (H1.out.below hb0.out)).mono ?_
  rintro e w1 ⟨X, d, rfl, _, _, _, hb1, _⟩
  clear c0 c1 c2 c3 c4 c5
  have HB := Lib.hid (bstep hb0.out hb1)
  clear hb1
  go_wp2
  go_ret2
  exact ⟨_, rfl, OwnM.nil _ _, RowsNew.nil _ _ _, HB.out⟩

set_option maxHeartbeats 1000000 in
theorem sharesOf_empty (b0 : Nat) (p : P) (A1 A2 A3 : Option Addr) (blob : List UInt8) (tn n3 c1 c2 c3 : Nat) (w : World) (hp : p.In) (h1 : BytesAt w A1 blob) (k1 : blob.length ≤ c1) (z1 : c1 ≤ maxLen) (hl1 : blob.length ≤ 1048576) (he : cutE p blob = 0) (h0 : (tn : Int) < costA p blob.length) (z2 : tn ≤ c2 ∧ c2 ≤ maxLen) :
    Calls Try.prog 19 #[.pointer (some ⟨b0, 0, none⟩), p.val, .slice A1 blob.length c1, .slice A2 tn c2, .slice A3 n3 c3] w (RetOwnE w [] 12) := by
  have HS := Lib.hid (Six.new w p)
  have hb0 := Lib.hid (balloc w (.cells #[.int .i64 p.N, .int .i64 p.T, .int .i64 p.L, .int .i64 p.W, .int .i64 p.S, .int .i64 p.R] 23))
  have hC := fun V h => Stripe.cut_any p A1 blob c1 V hp h k1 z1 hl1
  rw [he] at hC
  have hK := fun V => cost_any p blob.length V hp (by unfold In64; omega)
  have H1 := Lib.hid h1
  have hlt : decide ((tn : Int) < costA p blob.length) = true := decide_eq_true h0
  generalize costA p blob.length = co at *
  obtain ⟨bl, hbl⟩ : ∃ bl, bl = blob.length := ⟨_, rfl⟩
  rw [← hbl] at hC hK ⊢
  clear he hp h1 hl1 hbl k1
  obtain ⟨pN, pT, pL, pW, pS, pR⟩ := p
  unfold P.val at hC hK ⊢
  simp only at HS hb0 hC hK ⊢
  have HC := Lib.hid hC; have HK := Lib.hid hK
  clear hC hK
  go_enter Try.func19, Try.ntmps19
  go_wp2_with fail
  generalize w.alloc (.cells #[.int .i64 pN, .int .i64 pT, .int .i64 pL, .int .i64 pW, .int .i64 pS, .int .i64 pR] 23) = w0 at *
  have s0 := HS.out
  have c0 := s0.c0; have c1 := s0.c1; have c2 := s0.c2; have c3 := s0.c3; have c4 := s0.c4; have c5 := s0.c5
  simp only at c0 c1 c2 c3 c4 c5
  clear s0
  go_wp2_with fail
  refine (HC.out _ (H1.out.below hb0.out)).mono ?_
  rintro e w1 ⟨X, d, rfl, _, _, _, hb1, _⟩
  clear c0 c1 c2 c3 c4 c5
  have HB := Lib.hid (bstep hb0.out hb1)
  have s0 := HS.out.below hb1
  have c0 := s0.c0; have c1 := s0.c1; have c2 := s0.c2; have c3 := s0.c3; have c4 := s0.c4; have c5 := s0.c5
  simp only at c0 c1 c2 c3 c4 c5
  clear hb1 s0
  go_wp2_with fail
  refine (HK.out _).mono ?_
  rintro e w2 ⟨rfl, hb2⟩
  clear c0 c1 c2 c3 c4 c5
  have HB2 := Lib.hid (bstep HB.out hb2)
  clear hb2
  go_wp2
  go_ret2
  exact ⟨_, rfl, OwnM.nil _ _, RowsNew.nil _ _ _, HB2.out⟩

set_option maxHeartbeats 2000000 in
theorem sharesOf_ok (b0 : Nat) (p : P) (A1 A2 A3 : Option Addr) (blob tape : List UInt8) (who : List Int) (c1 c2 c3 : Nat) (w : World) (hp : p.In) (hM : p.May) (ht : Gf.Tab w b0) (h1 : BytesAt w A1 blob) (k1 : blob.length ≤ c1) (z1 : c1 ≤ maxLen) (hl1 : blob.length ≤ 240)
    (h2 : BytesAt w A2 tape) (k2 : tape.length ≤ c2) (z2 : c2 ≤ maxLen) (h3 : IntsAt w A3 who) (k3 : who.length ≤ c3) (z3 : c3 ≤ maxLen) (hw : who.length ≤ 1048576) (hi : ∀ x ∈ who, In64 x) (h0 : ¬ (tape.length : Int) < costA p blob.length) :
    Calls Try.prog 19 #[.pointer (some ⟨b0, 0, none⟩), p.val, .slice A1 blob.length c1, .slice A2 tape.length c2, .slice A3 who.length c3] w (RetOwnE w (who.map (share (polys p blob tape))) 0) := by
  have HS := Lib.hid (Six.new w p)
  have hb0 := Lib.hid (balloc w (.cells #[.int .i64 p.N, .int .i64 p.T, .int .i64 p.L, .int .i64 p.W, .int .i64 p.S, .int .i64 p.R] 23))
  have he : cutE p blob = 0 := by unfold cutE; rw [P.right_yes hM, if_pos rfl, if_neg (by omega)]
  have hC := fun V h => Stripe.cut_any p A1 blob c1 V hp h k1 z1 (by omega)
  rw [show cutA p blob = cut p blob from by unfold cutA; rw [he]; rfl, he] at hC
  have hcl : (cut p blob).length = p.stripes blob.length := by unfold cut; exact cutTo_len _ _ _
  have hK := fun V => cost_any p blob.length V hp (by unfold In64; omega)
  have hlt : decide ((tape.length : Int) < costA p blob.length) = false := decide_eq_false h0
  have hcost : p.T.toNat * p.stripes blob.length ≤ tape.length := by
    have hM' := hM
    unfold P.May at hM'
    unfold costA cost at h0
    rw [P.right_yes hM, if_pos rfl] at h0
    have e : ((p.T.toNat : Nat) : Int) = p.T := by omega
    rw [← e, ← Int.natCast_mul] at h0
    omega
  have hn240 := stripes_le p blob.length (by unfold P.May at hM; omega)
  have hql : (polys p blob tape).length = p.stripes blob.length := polysTo_len _ _ _ _
  have hG := fun V h => gather_any A3 who c3 (p.stripes blob.length) V h hw k3 z3 hi (by omega)
  have hE := fun G Rb R c B X d w00 V ht hs htp hb hg ha hRb hR => each_any b0 G Rb R c B (points who) p X A2 blob tape d c2 w00 V hp hM ht hs htp k2 z2 hb hcost hg ha hRb hR (by rw [points_len]; exact hw)
  have hpl : (points who).length = who.length := points_len who
  have hres : ∀ i, (h : i < (who.map (share (polys p blob tape))).length) → valsAt (polys p blob tape) (PolyM.co (points who) i) = (who.map (share (polys p blob tape)))[i] ∧ (valsAt (polys p blob tape) (PolyM.co (points who) i)).length = p.stripes blob.length := fun i h => by
    refine ⟨?_, by rw [valsAt_len, hql]⟩
    have hi' : i < (points who).length := by rw [hpl]; simpa using h
    rw [PolyM.co_get _ _ hi', List.getElem_map]
    have : (points who)[i] = point (who[i]'(by rw [← hpl]; exact hi')) := by simp [points]
    rw [this]; rfl
  have hrl : (who.map (share (polys p blob tape))).length = (points who).length := by rw [List.length_map, hpl]
  generalize who.map (share (polys p blob tape)) = res at *
  generalize valsAt (polys p blob tape) = va at *
  generalize costA p blob.length = co at *
  generalize cut p blob = m at *
  generalize p.stripes blob.length = n at *
  subst hcl
  have H1 := Lib.hid h1; have H2 := Lib.hid h2; have H3 := Lib.hid h3; have HT := Lib.hid ht
  obtain ⟨bl, hbl⟩ : ∃ bl, bl = blob.length := ⟨_, rfl⟩
  rw [← hbl] at hC hK ⊢
  obtain ⟨pp, hpp⟩ : ∃ pp, pp = points who := ⟨_, rfl⟩
  rw [← hpp] at hG hE hpl hrl hres
  clear he hp h1 h2 h3 ht hl1 hbl k1 hpp h0 hcost hM hql hi
  obtain ⟨pN, pT, pL, pW, pS, pR⟩ := p
  unfold P.val at hC hK hE ⊢
  simp only at HS hb0 hC hK hE ⊢
  have HC := Lib.hid hC; have HK := Lib.hid hK; have HGA := Lib.hid hG; have HEA := Lib.hid hE; have HR := Lib.hid hres; have HRL := Lib.hid hrl; have HPL := Lib.hid hpl
  clear hC hK hG hE hres hrl hpl
  go_enter Try.func19, Try.ntmps19
  go_wp2_with fail
  generalize w.alloc (.cells #[.int .i64 pN, .int .i64 pT, .int .i64 pL, .int .i64 pW, .int .i64 pS, .int .i64 pR] 23) = w0 at *
  have s0 := HS.out
  have c0 := s0.c0; have c1 := s0.c1; have c2 := s0.c2; have c3 := s0.c3; have c4 := s0.c4; have c5 := s0.c5
  simp only at c0 c1 c2 c3 c4 c5
  clear s0
  go_wp2_with fail
  refine (HC.out _ (H1.out.below hb0.out)).mono ?_
  rintro e w1 ⟨X, d, rfl, _, _, hX, hb1, _⟩
  clear c0 c1 c2 c3 c4 c5
  have HX := Lib.hid hX
  have HB := Lib.hid (bstep hb0.out hb1)
  have s0 := HS.out.below hb1
  have HS1 := Lib.hid s0
  have c0 := s0.c0; have c1 := s0.c1; have c2 := s0.c2; have c3 := s0.c3; have c4 := s0.c4; have c5 := s0.c5
  simp only at c0 c1 c2 c3 c4 c5
  clear hb1 s0 hX
  go_wp2_with fail
  refine (HK.out _).mono ?_
  rintro e w2 ⟨rfl, hb2⟩
  clear c0 c1 c2 c3 c4 c5
  have HB2 := Lib.hid (bstep HB.out hb2)
  have HX2 := Lib.hid (HX.out.below hb2)
  have HS2 := Lib.hid (HS1.out.below hb2)
  clear hb2
  go_wp2_with fail
  refine (HGA.out w2 (H3.out.below HB2.out)).mono ?_
  rintro e w3 ⟨G, Rb, R, B, c, rfl, hg, ha, hb3, z4, z5, z6⟩
  have s0 := HS2.out.below hb3
  have c0 := s0.c0; have c1 := s0.c1; have c2 := s0.c2; have c3 := s0.c3; have c4 := s0.c4; have c5 := s0.c5
  simp only at c0 c1 c2 c3 c4 c5
  have HG := Lib.hid hg; have HA := Lib.hid ha; have HB3 := Lib.hid hb3
  clear hg ha hb3 s0
  go_wp2_with fail
  refine (HEA.out G Rb R c B X d w2 w3 (HT.out.below HB2.out) HX2.out (H2.out.below HB2.out) HB3.out HG.out HA.out z5 z6).mono ?_
  rintro e w4 ⟨rfl, hg4, hb4⟩
  have cg := hg4.g1
  clear c0 c1 c2 c3 c4 c5
  have HB4 := Lib.hid (HB2.out.trans (hb4.mono HB2.out.size))
  have HG4 := Lib.hid hg4
  have hs2 := HB2.out.size
  clear hg4 hb4
  go_wp2
  go_ret2
  obtain ⟨o1, o2⟩ := HG4.out.own HA.out (w := w) (by omega) (by rw [HPL.out]; exact hw) (by omega) (by omega) HRL.out HR.out
  exact ⟨_, rfl, o1, o2, HB4.out⟩
end Go.Proofs.Ytmeenipcfmeopaa.Deal
