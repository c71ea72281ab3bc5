/- package deal: eachPolynomial -/
import Derived.Test.YtmeenipcfmeopaaDealB
import Derived.Test.YtmeenipcfmeopaaDealC
import Derived.Test.YtmeenipcfmeopaaSumMath
set_option maxRecDepth 100000
namespace Go.Proofs.Ytmeenipcfmeopaa.Deal
open Go.RowKit PlanM StripeM DealM Plan Stripe

/-- what eachPolynomial reads, in each round -/
structure EP (W : World) (b0 gf gp : Nat) (p : P) (X Y A1 A2 : Option Addr) (sec rt tape : List UInt8) (m : List (List UInt8)) : Prop where
  tab : Gf.Tab W b0
  f : W.cell? ⟨gf, 0, none⟩ = some (.pointer (some ⟨b0, 0, none⟩))
  six : Six W gp p
  xs : BytesAt W X sec
  ys : BytesAt W Y rt
  tape : BytesAt W A2 tape
  rows : RowsAt W A1 m
section
variable {W W' : World} {b0 gf gp : Nat} {p : P} {X Y A1 A2 : Option Addr} {sec rt tape : List UInt8} {m : List (List UInt8)}
theorem EP.below (h : EP W b0 gf gp p X Y A1 A2 sec rt tape m) (hb : Below W.heap.size W W') : EP W' b0 gf gp p X Y A1 A2 sec rt tape m :=
  ⟨h.tab.below hb, (hb.cell (p := ⟨gf, 0, none⟩) (cell_lt h.f)).trans h.f, h.six.below hb, h.xs.below hb, h.ys.below hb, h.tape.below hb, h.rows.below hb⟩
theorem six_keep {F : Nat → Prop} {w w' : World} {g : Nat} {p : P} (h : Six w g p) (q : Keeps F w w') (hg : ¬ F g) : Six w' g p :=
  ⟨q.cell h.c0 hg, q.cell h.c1 hg, q.cell h.c2 hg, q.cell h.c3 hg, q.cell h.c4 hg, q.cell h.c5 hg⟩
theorem EP.keep {F : Nat → Prop} (h : EP W b0 gf gp p X Y A1 A2 sec rt tape m) (q : Keeps F W W') (hf : ¬ F gf) (hp : ¬ F gp) (hx : ∀ a, X = some a → ¬ F a.block) (hy : ∀ a, Y = some a → ¬ F a.block)
    (ht : Gf.Tab W' b0) (htp : BytesAt W' A2 tape) (hr : RowsAt W' A1 m) : EP W' b0 gf gp p X Y A1 A2 sec rt tape m :=
  ⟨ht, q.cell h.f hf, six_keep h.six q hp, q.bytes h.xs hx, q.bytes h.ys hy, htp, hr⟩
end
/-- the polynomials' values at a point -/
def valsAt (q : List (List UInt8)) (x : UInt8) : List UInt8 := q.map fun r => PolyM.ev r x
theorem valsAt_len (q : List (List UInt8)) (x : UInt8) : (valsAt q x).length = q.length := by unfold valsAt; simp

set_option maxHeartbeats 4000000 in
theorem each_any (b0 G Rb R c : Nat) (B : Option Addr) (ps : List UInt8) (p : P) (A1 A2 : Option Addr) (blob tape : List UInt8) (c1 c2 : Nat) (w00 w : World) (hp : p.In) (hM : p.May)
    (ht : Gf.Tab w00 b0) (hs : RowsAt w00 A1 (cut p blob)) (htp : BytesAt w00 A2 tape) (k2 : tape.length ≤ c2) (z2 : c2 ≤ maxLen) (hb : Below w00.heap.size w00 w) (hcost : p.T.toNat * p.stripes blob.length ≤ tape.length)
    (hg : Gat w G Rb R (p.stripes blob.length) B c ps (fun _ => [])) (ha : GA G Rb R B) (hRb : w00.heap.size ≤ Rb) (hR : w00.heap.size ≤ R) (hps : ps.length ≤ 1048576) :
    Calls Try.prog 32 #[.pointer (some ⟨b0, 0, none⟩), p.val, .slice A1 (p.stripes blob.length) c1, .slice A2 tape.length c2, .func (.func 33) #[.pointer (some ⟨G, 0, none⟩)] #[]] w fun e w' =>
      e = .returned (.tuple #[]) ∧ Gat w' G Rb R (p.stripes blob.length) B c ps (fun i => valsAt (polys p blob tape) (PolyM.co ps i)) ∧ Below w00.heap.size w00 w' := by
  have hM' := hM
  unfold P.May at hM'
  obtain ⟨m1, m2, m3, m4, m5, _, _, _, _⟩ := hM'
  obtain ⟨l, hl⟩ : ∃ l : Nat, p.L = (l : Int) := ⟨p.L.toNat, by omega⟩
  obtain ⟨t0, ht0⟩ : ∃ t0 : Nat, p.T = (t0 : Int) := ⟨p.T.toNat, by omega⟩
  have hlN : p.L.toNat = l := by omega
  have htN : p.T.toNat = t0 := by omega
  have hn240 := stripes_le p blob.length m2
  have hcut : cut p blob = cutTo l blob (p.stripes blob.length) := by unfold cut; rw [hlN]
  have hpo : polys p blob tape = polysTo p blob tape (p.stripes blob.length) := rfl
  have hpt := fun k => polysTo_succ p blob tape k
  have hpl := fun k => polysTo_len p blob tape k
  have hp0 : polysTo p blob tape 0 = [] := rfl
  have hpoly : ∀ k, poly p (row p.L.toNat blob k) (take_ p.T.toNat tape k) = PolyM.padd (LagrM.thr p.secrets (row l blob k)) (PolyM.pmul (PolyM.proot p.secrets) (take_ t0 tape k)) := fun k => by rw [hlN, htN]; rfl
  have hsl : p.secrets.length = l := by rw [secrets_len, hlN]
  have hsec : p.secretsA = p.secrets := by unfold P.secretsA; rw [P.right_yes hM]; rfl
  have hunl : LagrM.unl p.secrets = true := (LagrM.unl_iff _).2 (DealM.May.secrets hM)
  have KS := fun V => Plan.secrets_any p V hp
  rw [hsec] at KS
  rw [hcut] at hs
  rw [hpo]
  rw [htN] at hcost
  generalize p.stripes blob.length = n at *
  simp only [hpoly] at hpt
  generalize polysTo p blob tape = PT at *
  generalize p.secrets = sec at *
  obtain ⟨rt, hrt⟩ : ∃ rt, rt = PolyM.proot sec := ⟨_, rfl⟩
  have hrl : rt.length = l + 1 := by rw [hrt, PolyM.proot_len, hsl]
  have KR := fun X d V (h1 : Gf.Tab V b0) (h2 : BytesAt V X sec) => Poly.root_new b0 X sec d V h1 h2 (by omega)
  rw [← hrt] at KR
  simp only [← hrt] at hpt
  have KT := fun X d Y dy r V (h1 : Gf.Tab V b0) (h2 : BytesAt V X sec) (h3 : BytesAt V Y r) (h4 : r.length = l) => Lagr.through_yes b0 X Y sec r d dy V h1 h2 h3 (by omega) (by omega) hunl
  have KM := fun Y d Z dz q V (h1 : Gf.Tab V b0) (h2 : BytesAt V Y rt) (h3 : BytesAt V Z q) (h4 : q.length = t0) => Poly.mul_new b0 Y Z rt q d dz V h1 h2 h3 (by omega) (by omega)
  rw [hsl] at KT
  rw [hrl] at KM
  have H1 := Lib.hid KS; have H2 := Lib.hid KR; have H3 := Lib.hid KT; have H4 := Lib.hid KM; have HT := Lib.hid ht; have HS := Lib.hid hs; have HTP := Lib.hid htp; have HB := Lib.hid hb; have HG := Lib.hid hg; have HA := Lib.hid ha; have HPT := Lib.hid hpt; have HPL := Lib.hid hpl; have HP0 := Lib.hid hp0; have HSL := Lib.hid hsl; have HRL := Lib.hid hrl
  clear KS KR KT KM ht hs htp hb hg ha hpt hpl hp0 hsl hrl hpo hpoly hcut hlN htN hunl hsec hrt hM hp
  obtain ⟨pN, pT, pL, pW, pS, pR⟩ := p
  simp only at hl ht0 m1 m2 m3 m4 m5
  subst hl ht0
  unfold P.val at H1 ⊢
  have HX := Lib.hid (Six.new (w.alloc (.cells #[.pointer (some ⟨b0, 0, none⟩)] 27)) ⟨pN, (t0 : Int), (l : Int), pW, pS, pR⟩)
  simp only at HX
  go_enter Try.func32, Try.ntmps32
  go_wp2_with fail
  have hbw : Below w.heap.size w ((w.alloc (.cells #[.pointer (some ⟨b0, 0, none⟩)] 27)).alloc (.cells #[.int .i64 pN, .int .i64 t0, .int .i64 l, .int .i64 pW, .int .i64 pS, .int .i64 pR] 23)) := bstep (balloc _ _) (balloc _ _)
  have cf : ((w.alloc (.cells #[.pointer (some ⟨b0, 0, none⟩)] 27)).alloc (.cells #[.int .i64 pN, .int .i64 t0, .int .i64 l, .int .i64 pW, .int .i64 pS, .int .i64 pR] 23)).cell? ⟨w.heap.size, 0, none⟩ = some (.pointer (some ⟨b0, 0, none⟩)) := by
    refine ((balloc _ _).cell (p := ⟨w.heap.size, 0, none⟩) (by simp)).trans ?_
    simp
  rw [show (w.alloc (.cells #[.pointer (some ⟨b0, 0, none⟩)] 27)).heap.size = w.heap.size + 1 from by simp] at HX
  have hsz0 : ((w.alloc (.cells #[.pointer (some ⟨b0, 0, none⟩)] 27)).alloc (.cells #[.int .i64 pN, .int .i64 t0, .int .i64 l, .int .i64 pW, .int .i64 pS, .int .i64 pR] 23)).heap.size = w.heap.size + 2 := by simp
  generalize (w.alloc (.cells #[.pointer (some ⟨b0, 0, none⟩)] 27)).alloc (.cells #[.int .i64 pN, .int .i64 t0, .int .i64 l, .int .i64 pW, .int .i64 pS, .int .i64 pR] 23) = w0 at *
  have HF := Lib.hid cf; have HB0 := Lib.hid hbw
  clear cf hbw
  refine (H1.out w0).mono ?_
  rintro e w1 ⟨X, dX, rfl, _, _, hX, hb1, hnX⟩
  have cf := (hb1.cell (p := ⟨w.heap.size, 0, none⟩) (cell_lt HF.out)).trans HF.out
  have HX1 := Lib.hid (HX.out.below hb1)
  have HXS := Lib.hid hX
  have HB1 := Lib.hid (bstep HB0.out hb1)
  have HNX := Lib.hid (hnX.mono HB0.out.size)
  have hs1 := hb1.size
  clear hX hb1 hnX HX
  rw [HSL.out]
  go_wp2_with fail
  have C := H2.out X dX w1 (HT.out.below (HB.out.trans (HB1.out.mono HB.out.size))) HXS.out
  rw [HSL.out] at C
  refine C.mono ?_
  clear C
  rintro e w2 ⟨Y, dY, rfl, _, _, hY, hb2, hnY⟩
  have hbw2 := bstep HB1.out hb2
  have HNY := Lib.hid (hnY.mono HB1.out.size)
  have HB2 := Lib.hid (HB.out.trans (hbw2.mono HB.out.size))
  have he : EP w2 b0 w.heap.size (w.heap.size + 1) ⟨pN, (t0 : Int), (l : Int), pW, pS, pR⟩ X Y A1 A2 sec rt tape (cutTo l blob n) :=
    ⟨HT.out.below HB2.out, (hb2.cell (p := ⟨w.heap.size, 0, none⟩) (cell_lt cf)).trans cf, HX1.out.below hb2, HXS.out.below hb2, hY, HTP.out.below HB2.out, HS.out.below HB2.out⟩
  have HE := Lib.hid he
  have HG2 := Lib.hid (HG.out.below hbw2)
  have hwG := HG.out.lt
  have hGF : ∀ i, GF Rb R ps.length i → w00.heap.size ≤ i ∧ i < w.heap.size := fun i hi => by
    rcases hi with rfl | ⟨h1, h2⟩
    · exact ⟨hRb, hwG.2.1⟩
    · refine ⟨by omega, ?_⟩
      have := hwG.2.2 (i - R) (by omega)
      omega
  have HGF := Lib.hid hGF
  have hs2 := hb2.size
  clear he hY hb2 hnY hbw2 cf hGF hwG HB1 HX1 HXS HB0 HF
  rw [HRL.out]
  go_wp2_with fail
  go_loopw [25] (fun i wr => ∃ k : Nat, k ≤ n ∧ i = .int .i64 k ∧ Gat wr G Rb R n B c ps (fun i => valsAt (PT k) (PolyM.co ps i)) ∧ Keeps (GF Rb R ps.length) w2 wr)
    (fun i _ => n - (intOf i).toNat)
  case atStart => exact ⟨0, Nat.zero_le _, rfl, HG2.out.congr (fun i _ => by rw [HP0.out]; rfl), Keeps.refl _ _⟩
  case round =>
    obtain ⟨k, hk, rfl, hg, hq⟩ := hrel
    rename World => wr
    have hb00 : Below w00.heap.size w00 wr := below_keeps HB2.out hq (fun i hi => (HGF.out i hi).1) HB2.out.size
    have HG3 := Lib.hid hg; have HQ := Lib.hid hq; have HB3 := Lib.hid hb00
    have nf : ∀ j, w.heap.size ≤ j → ¬ GF Rb R ps.length j := fun j hj h => by have := (HGF.out j h).2; omega
    have he := HE.out.keep hq (nf _ (Nat.le_refl _)) (nf _ (by omega)) (fun a e => nf _ (HNX.out a e)) (fun a e => nf _ (HNY.out a e)) (HT.out.below hb00) (HTP.out.below hb00) (HS.out.below hb00)
    have HE3 := Lib.hid he; have HNF := Lib.hid nf
    have hz3 := hq.size
    clear hg hq hb00 he nf
    by_cases hlt : k < n
    · obtain ⟨b1, o1, P, cr, rfl, f1, g1, g2, hP⟩ := HE3.out.rows.row (i := k) (by rw [cutTo_len]; exact hlt)
      rw [cutTo_get] at f1 g1 hP
      have rl := row_len l blob k
      rw [rl] at f1 g1
      have hpt := HPT.out k
      obtain ⟨r, hr⟩ : ∃ r, r = row l blob k := ⟨_, rfl⟩
      rw [← hr] at hP rl hpt
      have cf := HE3.out.f
      have HP := Lib.hid hP; have HRW := Lib.hid rl; have HPK := Lib.hid hpt
      clear hr hP rl hpt
      go_wp2_with fail
      have C := H3.out X dX P cr r wr HE3.out.tab HE3.out.xs HP.out HRW.out
      rw [HRW.out] at C
      refine C.mono ?_
      clear C
      rintro e w3 ⟨Q, dQ, rfl, hQ, hb3, hnQ, _⟩
      have HE4 := Lib.hid (HE3.out.below hb3)
      have HPK2 := Lib.hid HPK.out
      obtain ⟨th, hth⟩ : ∃ th, th = LagrM.thr sec r := ⟨_, rfl⟩
      have hthl : th.length = l := by rw [hth, LagrM.thr_len, HSL.out]
      rw [← hth] at hQ ⊢
      have HTH := Lib.hid hth; have HTL := Lib.hid hthl; have HQ3 := Lib.hid hQ; have HBQ := Lib.hid hb3
      have hs3 := hb3.size
      clear hth hthl hQ hb3 hnQ cf f1
      have ce := HE4.out.six.c1
      have cf := HE4.out.f
      simp only at ce
      have hkn : (k + 1) * t0 ≤ tape.length := Nat.le_trans (Nat.mul_le_mul_right t0 hlt) (by rw [Nat.mul_comm]; exact hcost)
      obtain ⟨x, hx⟩ : ∃ x, x = k * t0 := ⟨_, rfl⟩
      obtain ⟨z, hz⟩ : ∃ z, z = x + t0 := ⟨_, rfl⟩
      have hzz : (k + 1) * t0 = z := by rw [Nat.succ_mul, hz, hx]
      rw [hzz] at hkn
      have hkt : k * t0 ≤ 240 * 256 := Nat.mul_le_mul (by omega) (by omega)
      have htk := take_len t0 tape k (by rw [hzz]; exact hkn)
      have hB2 : BytesAt w3 A2 tape := HE4.out.tape
      obtain ⟨b2, o2, rfl, hc0⟩ := hB2 0 (by omega)
      clear hc0
      have hdr : BytesAt w3 (some ⟨b2, o2 + x, none⟩) (take_ t0 tape k) := by unfold take_; rw [← hx]; exact (hB2.drop x).take t0
      have i1 : ((k : Int) * (t0 : Int)) = (x : Int) := by rw [← Int.natCast_mul, ← hx]
      have i2 : IntKind.i64.wrap (x : Int) = (x : Int) := IntWalk.i64_in _ (by omega)
      have i3 : IntKind.i64.wrap ((k : Int) + 1) = (k : Int) + 1 := IntWalk.i64_in _ (by omega)
      have i4 : (((k : Int) + 1) * (t0 : Int)) = (z : Int) := by rw [← hzz, Int.natCast_mul]; rfl
      have i5 : IntKind.i64.wrap (z : Int) = (z : Int) := IntWalk.i64_in _ (by omega)
      have j1 : x ≤ z := by omega
      have j2 : z ≤ tape.length := hkn
      have j3 : z ≤ c2 := by omega
      have j4 : ¬ c2 = x := by omega
      have j5 : z - x = t0 := by omega
      have HDR := Lib.hid hdr; have HTK := Lib.hid htk
      clear hdr htk hx hz hzz hkt hB2
      go_wp2_with fail
      have C := H4.out Y dY (some ⟨b2, o2 + x, none⟩) (c2 - x) (take_ t0 tape k) w3 HE4.out.tab HE4.out.ys HDR.out HTK.out
      rw [HTK.out] at C
      refine C.mono ?_
      clear C
      rintro e w4 ⟨M, dM, rfl, _, _, hMb, hb4, _⟩
      obtain ⟨pm, hpm⟩ : ∃ pm, pm = PolyM.pmul rt (take_ t0 tape k) := ⟨_, rfl⟩
      have hpml : pm.length ≤ 1048576 := by rw [hpm, PolyM.pmul_len, HRL.out, HTK.out]; split <;> omega
      rw [← hpm] at hMb ⊢
      have HE5 := Lib.hid (HE4.out.below hb4)
      have HMB := Lib.hid hMb; have HPM := Lib.hid hpm
      have hs4 := hb4.size
      have hb34 := bstep HBQ.out hb4
      have HB34 := Lib.hid hb34
      have HQ4 := Lib.hid (HQ3.out.below hb4)
      clear hMb hpm hb4 hb34 ce cf i1 i2 i3 i4 i5 j1 j2 j3 j4 j5
      go_wp2_with fail
      refine (Poly.sum_new Q M th pm dQ dM w4 HQ4.out HMB.out (by rw [HTL.out]; omega) (by omega)).mono ?_
      rintro e w5 ⟨Z, dZ, rfl, _, _, hZ, hb5, hnZ⟩
      obtain ⟨q, hqq⟩ : ∃ q, q = PolyM.padd th pm := ⟨_, rfl⟩
      have hql : q.length ≤ 1099511627776 := by rw [hqq, LagrM.padd_len, HTL.out]; omega
      rw [← hqq] at hZ ⊢
      have HZ := Lib.hid hZ; have HQQ := Lib.hid hqq; have HNZ := Lib.hid hnZ
      have HE6 := Lib.hid (HE5.out.below hb5)
      have HB35 := Lib.hid (bstep HB34.out hb5)
      have hs5 := hb5.size
      clear hZ hqq hnZ hb5
      go_wp2_with fail
      have hcw : (w5.alloc (.cells #[.slice Z q.length dZ] 24)).cell? ⟨w5.heap.size, 0, none⟩ = some (.slice Z q.length dZ) := by simp
      have hb6 := balloc w5 (.cells #[.slice Z q.length dZ] 24)
      generalize w5.alloc (.cells #[.slice Z q.length dZ] 24) = w6 at *
      have HBR := Lib.hid (bstep HB35.out hb6)
      have HE7 := Lib.hid (HE6.out.below hb6)
      have HZ7 := Lib.hid (HZ.out.below hb6)
      have HCW := Lib.hid hcw
      have HB0 := Lib.hid (HB3.out.trans (HBR.out.mono HB3.out.size))
      clear hcw hb6
      have hv : ∀ (x : UInt8) (V : World), Keeps (GF Rb R ps.length) w6 V → Calls Try.prog 55 #[.int .u8 (x.toNat : Nat), .pointer (some ⟨w.heap.size, 0, none⟩), .pointer (some ⟨w5.heap.size, 0, none⟩)] V fun e V' => e = .returned (.int .u8 ((PolyM.ev q x).toNat : Nat)) ∧ ∃ n, V' = V.drewN n := fun x V hV =>
        val_any b0 w.heap.size w5.heap.size Z q dZ x V (HT.out.below (below_keeps HB0.out hV (fun i hi => (HGF.out i hi).1) HB0.out.size)) (hV.cell HE7.out.f (HNF.out _ (Nat.le_refl _))) (hV.cell HCW.out (HNF.out _ (by show w.heap.size ≤ w5.heap.size; omega))) (hV.bytes HZ7.out (fun a e => HNF.out _ (by have := HNZ.out a e; omega))) hql
      refine (add_any G Rb R n c w.heap.size w5.heap.size B ps (fun i => valsAt (PT k) (PolyM.co ps i)) (fun x => PolyM.ev q x) w6 (HG3.out.below HBR.out) HA.out hps (fun i _ => by rw [valsAt_len, HPL.out]; exact hlt) (by omega) hv).mono ?_
      rintro e w7 ⟨rfl, hg7, hq7⟩
      have HG7 := Lib.hid hg7; have HQ7 := Lib.hid hq7
      clear hg7 hq7 hv
      go_wp2_with fail
      go_roundw
      case rel =>
        refine ⟨k + 1, by omega, by go_num, HG7.out.congr fun i _ => ?_, (HQ.out.trans (Keeps.of_below _ HBR.out)).trans HQ7.out⟩
        rw [HPK.out, ← HTH.out, ← HPM.out, ← HQQ.out]
        unfold valsAt
        rw [List.map_append]; rfl
      case measure => simp [intOf] <;> omega
    · obtain rfl : k = n := by omega
      go_wp2_with fail
      go_end0
      exact ⟨rfl, HG3.out, HB3.out⟩
end Go.Proofs.Ytmeenipcfmeopaa.Deal
