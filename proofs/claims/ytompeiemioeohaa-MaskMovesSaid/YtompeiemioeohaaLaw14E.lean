/- the walk of MaskMoves: the main case -/
import Derived.Test.YtompeiemioeohaaLaw14D
import Derived.Test.YtompeiemioeohaaMoveMath
set_option maxRecDepth 100000
namespace Go.Proofs.Ytompeiemioeohaa.Law14
open Go.RowKit PlanM StripeM LagrM DealM RebM ZeroM MaskM Law08 Law10

set_option maxHeartbeats 16000000 in
theorem moves_main (W S R : Int) (n0 t0 l0 : Nat) (A1 A2 A3 A4 : Option Addr) (delta tape : List UInt8) (z0 z1 : List Int) (c1 c2 c3 c4 : Nat) (w : World) (hp : (⟨n0, t0, l0, W, S, R⟩ : P).In) (h1 : BytesAt w A1 delta) (h2 : BytesAt w A2 tape) (k2 : tape.length ≤ c2) (x2 : c2 ≤ maxLen) (hrc : tape.length ≤ 140737488351232)
    (h3 : IntsAt w A3 z0) (hi0 : ∀ x ∈ z0, In64 x) (h4 : IntsAt w A4 z1) (hi1 : ∀ x ∈ z1, In64 x) (hl : (n0 : Int) ≤ 12 ∧ (l0 : Int) ≤ 12 ∧ (t0 : Int) ≤ 12) (ok0 : MOk ⟨n0, t0, l0, W, S, R⟩ delta z0) (ok1 : MOk ⟨n0, t0, l0, W, S, R⟩ delta z1) (hs : t0 + l0 - 1 ≤ tape.length) :
    Calls Try.prog 6 #[.agg #[.int .i64 (n0 : Nat), .int .i64 (t0 : Nat), .int .i64 (l0 : Nat), .int .i64 W, .int .i64 S, .int .i64 R], .agg #[.slice A1 delta.length c1, .slice A2 tape.length c2], .agg #[.slice A3 z0.length c3, .slice A4 z1.length c4]] w fun e w' => e = .returned (.bool true) ∧ Below w.heap.size w w' := by
  have hM := ok0.may
  have hM' := hM
  unfold P.May at hM'
  simp only at hM'
  have K0 := fun w => Law10.light_any n0 t0 l0 W S R w
  rw [decide_eq_true hl] at K0
  have KR := fun V => R08.right_any ⟨n0, t0, l0, W, S, R⟩ V hp
  rw [P.right_yes hM] at KR
  have hz0 : z0.length ≤ 12 := by have := ok0.few; simp only [Int.toNat_natCast] at this; omega
  have hz1 : z1.length ≤ 12 := by have := ok1.few; simp only [Int.toNat_natCast] at this; omega
  have KC0 := fun V h => check_all n0 t0 l0 W S R A1 A3 delta z0 c1 c3 V hp h hl.2.2
  have KC1 := fun V h => check_all n0 t0 l0 W S R A1 A4 delta z1 c1 c4 V hp h hl.2.2
  rw [mcheck_of ok0] at KC0
  rw [mcheck_of ok1] at KC1
  have KW := fun V => R13.width_any n0 t0 l0 W S R V (by omega) (by omega)
  obtain ⟨wd, hwd⟩ : ∃ wd : Nat, (t0 : Int) + l0 - 1 = wd := ⟨t0 + l0 - 1, by omega⟩
  have hww : (width ⟨n0, t0, l0, W, S, R⟩) = wd := by unfold width; simp only; omega
  rw [hwd] at KW
  have KS0 := fun bf V ht h1 h => Mask.shift_any bf ⟨n0, t0, l0, W, S, R⟩ A1 A3 delta c1 z0 c3 V hp ht h1 h (by omega) hi0
  have KS1 := fun bf V ht h1 h => Mask.shift_any bf ⟨n0, t0, l0, W, S, R⟩ A1 A4 delta c1 z1 c4 V hp ht h1 h (by omega) hi1
  have es0 : Mask.shiftA ⟨n0, t0, l0, W, S, R⟩ delta z0 = shift ⟨n0, t0, l0, W, S, R⟩ delta z0 := by unfold Mask.shiftA; rw [if_pos (mcheck_of ok0)]
  have es1 : Mask.shiftA ⟨n0, t0, l0, W, S, R⟩ delta z1 = shift ⟨n0, t0, l0, W, S, R⟩ delta z1 := by unfold Mask.shiftA; rw [if_pos (mcheck_of ok1)]
  rw [es0, mcheck_of ok0] at KS0
  rw [es1, mcheck_of ok1] at KS1
  have hsl0 := shift_len ok0
  have hsl1 := shift_len ok1
  have hdfl := diff_len ok0 ok1
  have hmz := fun (x : UInt8) => moves_zero (tape := tape) ok0 ok1 (by show (t0 : Int).toNat ≤ _; omega) x
  have hmb := fun t (hz : t ∈ z0) (x : UInt8) => moves_blind (tape := tape) ok0 hz (by rw [hww]; omega) x
  have hmzl : (mzero ⟨n0, t0, l0, W, S, R⟩ (PolyM.padd (shift ⟨n0, t0, l0, W, S, R⟩ delta z0) (shift ⟨n0, t0, l0, W, S, R⟩ delta z1))).length = t0 := sized_len _ _
  have hmbl : ∀ t, (mblind ⟨n0, t0, l0, W, S, R⟩ (shift ⟨n0, t0, l0, W, S, R⟩ delta z0) t).length = wd := fun t => by unfold mblind; rw [sized_len, hww]; rfl
  have his := ok0.is
  have KMZ := fun bf X d V ht (h : BytesAt V X (PolyM.padd (shift ⟨n0, t0, l0, W, S, R⟩ delta z0) (shift ⟨n0, t0, l0, W, S, R⟩ delta z1))) => Mask.zero_any bf ⟨n0, t0, l0, W, S, R⟩ X _ d V hp ht h (by rw [hdfl]; simp only [Int.toNat_natCast]; omega)
  have emz : Mask.zeroA ⟨n0, t0, l0, W, S, R⟩ (PolyM.padd (shift ⟨n0, t0, l0, W, S, R⟩ delta z0) (shift ⟨n0, t0, l0, W, S, R⟩ delta z1)) = mzero ⟨n0, t0, l0, W, S, R⟩ (PolyM.padd (shift ⟨n0, t0, l0, W, S, R⟩ delta z0) (shift ⟨n0, t0, l0, W, S, R⟩ delta z1)) := by unfold Mask.zeroA; rw [P.right_yes hM, if_pos rfl]
  rw [emz] at KMZ
  have KMB := fun t (hz : t ∈ z0) bf X d V ht (h : BytesAt V X (shift ⟨n0, t0, l0, W, S, R⟩ delta z0)) => Mask.blind_any bf ⟨n0, t0, l0, W, S, R⟩ X _ d t V hp (hi0 t hz) ht h (by rw [hsl0]; simp only [Int.toNat_natCast]; omega)
  have emb : ∀ t, t ∈ z0 → Mask.blindA ⟨n0, t0, l0, W, S, R⟩ (shift ⟨n0, t0, l0, W, S, R⟩ delta z0) t = mblind ⟨n0, t0, l0, W, S, R⟩ (shift ⟨n0, t0, l0, W, S, R⟩ delta z0) t := fun t hz => by unfold Mask.blindA P.isA; rw [P.right_yes hM, his t hz]; rfl
  have KMB2 := fun t (hz : t ∈ z0) bf X d V ht h => (emb t hz) ▸ KMB t hz bf X d V ht h
  -- the rows
  obtain ⟨ez, lz, rz⟩ := zero_rows hM (tape := tape) (by show (t0 : Int) ≤ _; omega)
  obtain ⟨ez2, lz2, rz2⟩ := zero_rows hM (tape := apply tape 0 (mzero ⟨n0, t0, l0, W, S, R⟩ (PolyM.padd (shift ⟨n0, t0, l0, W, S, R⟩ delta z0) (shift ⟨n0, t0, l0, W, S, R⟩ delta z1)))) (by rw [apply_len]; show (t0 : Int) ≤ _; omega)
  have KZ := fun bf V ht h2 => Zero.zero_any bf ⟨n0, t0, l0, W, S, R⟩ 1 A2 tape c2 V hp (by unfold In64; omega) ht h2 k2 x2
  have KZ2 := fun bf X d V ht h k z => Zero.zero_any bf ⟨n0, t0, l0, W, S, R⟩ 1 X (apply tape 0 (mzero ⟨n0, t0, l0, W, S, R⟩ (PolyM.padd (shift ⟨n0, t0, l0, W, S, R⟩ delta z0) (shift ⟨n0, t0, l0, W, S, R⟩ delta z1)))) d V hp (by unfold In64; omega) ht h k z
  rw [ez] at KZ
  rw [ez2] at KZ2
  have KB := fun t (hz : t ∈ z0) bf V ht h2 => Blind.blind_any bf ⟨n0, t0, l0, W, S, R⟩ 1 t A2 tape c2 V hp (by unfold In64; omega) (hi0 t hz) ht h2 k2 x2
  have KB2 := fun t (hz : t ∈ z0) bf X d V ht h k z => Blind.blind_any bf ⟨n0, t0, l0, W, S, R⟩ 1 t X (apply tape 0 (mblind ⟨n0, t0, l0, W, S, R⟩ (shift ⟨n0, t0, l0, W, S, R⟩ delta z0) t)) d V hp (by unfold In64; omega) (hi0 t hz) ht h k z
  have hbr := fun t (hz : t ∈ z0) => blind_rows hM (his t hz) (tape := tape) (by rw [hww]; omega)
  have hbr2 := fun t (hz : t ∈ z0) => blind_rows hM (his t hz) (tape := apply tape 0 (mblind ⟨n0, t0, l0, W, S, R⟩ (shift ⟨n0, t0, l0, W, S, R⟩ delta z0) t)) (by rw [apply_len, hww]; omega)
  have KA := fun m (hm : m.length ≤ 1048576) X d V h2 h => Mask.apply_big A2 X tape m 0 c2 d V h2 h hrc hm (by unfold In64; omega)
  simp only [P.val] at KR KS0 KS1 KMZ KMB2 KZ KZ2 KB KB2
  unfold Mask.RetSE at KS0 KS1
  unfold Mask.RetB at KMZ KMB2
  unfold Stripe.RetRowsE at KZ KZ2 KB KB2
  unfold RetNew at KA
  rw [lz] at KZ
  rw [lz2] at KZ2
  have lzn : (P.N ⟨n0, t0, l0, W, S, R⟩).toNat = n0 := Int.toNat_natCast _
  rw [lzn] at KZ KZ2 lz lz2
  simp only [apply_len] at KZ2 KB2 KA
  rw [hmzl] at KMZ
  obtain ⟨xf, hxf⟩ : ∃ xf : Nat → UInt8, xf = fun k : Nat => PolyM.ev (zpoly ⟨n0, t0, l0, W, S, R⟩ (take_ (P.T ⟨n0, t0, l0, W, S, R⟩).toNat tape 0)) (point ((k : Int) + 1)) := ⟨_, rfl⟩
  obtain ⟨yf, hyf⟩ : ∃ yf : Nat → UInt8, yf = fun k : Nat => PolyM.ev (zpoly ⟨n0, t0, l0, W, S, R⟩ (take_ (P.T ⟨n0, t0, l0, W, S, R⟩).toNat (apply tape 0 (mzero ⟨n0, t0, l0, W, S, R⟩ (PolyM.padd (shift ⟨n0, t0, l0, W, S, R⟩ delta z0) (shift ⟨n0, t0, l0, W, S, R⟩ delta z1)))) 0)) (point ((k : Int) + 1)) := ⟨_, rfl⟩
  have HRA := Lib.hid (fun k h => (rz k h).trans (show _ = [xf k] from by rw [hxf]))
  have HRB := Lib.hid (fun k h => (rz2 k h).trans (show _ = [yf k] from by rw [hyf]))
  have hxy : ∀ k : Nat, PolyM.ev (PolyM.padd (shift ⟨n0, t0, l0, W, S, R⟩ delta z0) (shift ⟨n0, t0, l0, W, S, R⟩ delta z1)) (point ((k : Int) + 1)) = GfM.add (xf k) (yf k) := fun k => by rw [← hmz, hxf, hyf]
  have hbl := fun t (hz : t ∈ z0) => (show (blindA ⟨n0, t0, l0, W, S, R⟩ 1 t tape).length = n0 from (hbr t hz).2.1.trans lzn)
  have hbl2 := fun t (hz : t ∈ z0) => (show (blindA ⟨n0, t0, l0, W, S, R⟩ 1 t (apply tape 0 (mblind ⟨n0, t0, l0, W, S, R⟩ (shift ⟨n0, t0, l0, W, S, R⟩ delta z0) t))).length = n0 from (hbr2 t hz).2.1.trans lzn)
  have HT2 : Hid (∀ t, t ∈ z0 → ∃ (ma mb : List (List UInt8)) (mk : List UInt8) (xg yg : Nat → UInt8), ma.length = n0 ∧ mb.length = n0 ∧ mk.length = wd ∧ (∀ k, (h : k < ma.length) → ma[k] = [xg k]) ∧ (∀ k, (h : k < mb.length) → mb[k] = [yg k]) ∧
      (∀ k : Nat, PolyM.ev (shift ⟨n0, t0, l0, W, S, R⟩ delta z0) (point ((k : Int) + 1)) = GfM.add (xg k) (yg k)) ∧
      (∀ bf V, Gf.Tab V bf → BytesAt V A2 tape → Calls Try.prog 34 #[.pointer (some ⟨bf, 0, none⟩), .agg #[.int .i64 (n0 : Nat), .int .i64 (t0 : Nat), .int .i64 (l0 : Nat), .int .i64 W, .int .i64 S, .int .i64 R], .int .i64 1, .int .i64 t, .slice A2 tape.length c2] V fun e w' => ∃ X d, e = .returned (.tuple #[.slice X n0 d, .int .i64 0]) ∧ RowsAt w' X ma ∧ Below V.heap.size V w') ∧
      (∀ bf X d V, Gf.Tab V bf → BytesAt V X (shift ⟨n0, t0, l0, W, S, R⟩ delta z0) → Calls Try.prog 20 #[.pointer (some ⟨bf, 0, none⟩), .agg #[.int .i64 (n0 : Nat), .int .i64 (t0 : Nat), .int .i64 (l0 : Nat), .int .i64 W, .int .i64 S, .int .i64 R], .slice X (shift ⟨n0, t0, l0, W, S, R⟩ delta z0).length d, .int .i64 t] V fun e w' => ∃ X d, e = .returned (.slice X wd d) ∧ BytesAt w' X mk ∧ Below V.heap.size V w') ∧
      (∀ bf X d V, Gf.Tab V bf → BytesAt V X (apply tape 0 mk) → tape.length ≤ d → d ≤ maxLen → Calls Try.prog 34 #[.pointer (some ⟨bf, 0, none⟩), .agg #[.int .i64 (n0 : Nat), .int .i64 (t0 : Nat), .int .i64 (l0 : Nat), .int .i64 W, .int .i64 S, .int .i64 R], .int .i64 1, .int .i64 t, .slice X tape.length d] V fun e w' => ∃ X d, e = .returned (.tuple #[.slice X n0 d, .int .i64 0]) ∧ RowsAt w' X mb ∧ Below V.heap.size V w')) := Lib.hid (fun t hz => by
    refine ⟨blindA ⟨n0, t0, l0, W, S, R⟩ 1 t tape, blindA ⟨n0, t0, l0, W, S, R⟩ 1 t (apply tape 0 (mblind ⟨n0, t0, l0, W, S, R⟩ (shift ⟨n0, t0, l0, W, S, R⟩ delta z0) t)), mblind ⟨n0, t0, l0, W, S, R⟩ (shift ⟨n0, t0, l0, W, S, R⟩ delta z0) t, fun k => PolyM.ev (bpoly t (take_ (width ⟨n0, t0, l0, W, S, R⟩).toNat tape 0)) (point ((k : Int) + 1)), fun k => PolyM.ev (bpoly t (take_ (width ⟨n0, t0, l0, W, S, R⟩).toNat (apply tape 0 (mblind ⟨n0, t0, l0, W, S, R⟩ (shift ⟨n0, t0, l0, W, S, R⟩ delta z0) t)) 0)) (point ((k : Int) + 1)),
      hbl t hz, hbl2 t hz, hmbl t, (hbr t hz).2.2, (hbr2 t hz).2.2, fun k => (hmb t hz _).symm, fun bf V ht h2 => ?_, fun bf X d V ht h => ?_, fun bf X d V ht h k z => ?_⟩
    · refine (KB t hz bf V ht h2).mono fun e w' ⟨X, d, g1, _, _, g2, g3, _⟩ => ⟨X, d, ?_, g2, g3⟩
      rw [g1, (hbr t hz).1, hbl t hz]
    · refine (KMB2 t hz bf X d V ht h).mono fun e w' ⟨X, d, g1, g2, g3⟩ => ⟨X, d, ?_, g2, g3⟩
      rw [g1, hmbl t]
    · refine (KB2 t hz bf X d V ht h k z).mono fun e w' ⟨X, d, g1, _, _, g2, g3, _⟩ => ⟨X, d, ?_, g2, g3⟩
      rw [g1, (hbr2 t hz).1, hbl2 t hz])
  clear hbl hbl2 hbr hbr2 hmb hmz hmbl KB KB2 KMB KMB2 emb emz rz rz2 hxf hyf his
  generalize ZeroM.zeroA ⟨n0, t0, l0, W, S, R⟩ 1 tape = za at *
  generalize ZeroM.zeroA ⟨n0, t0, l0, W, S, R⟩ 1 (apply tape 0 (mzero ⟨n0, t0, l0, W, S, R⟩ (PolyM.padd (shift ⟨n0, t0, l0, W, S, R⟩ delta z0) (shift ⟨n0, t0, l0, W, S, R⟩ delta z1)))) = zb at *
  generalize mzero ⟨n0, t0, l0, W, S, R⟩ (PolyM.padd (shift ⟨n0, t0, l0, W, S, R⟩ delta z0) (shift ⟨n0, t0, l0, W, S, R⟩ delta z1)) = mz at *
  have KSUM := fun X d Y f V (g1 : BytesAt V X (shift ⟨n0, t0, l0, W, S, R⟩ delta z0)) (g2 : BytesAt V Y (shift ⟨n0, t0, l0, W, S, R⟩ delta z1)) => R02.sum_new X Y (shift ⟨n0, t0, l0, W, S, R⟩ delta z0) (shift ⟨n0, t0, l0, W, S, R⟩ delta z1) d f V g1 g2 (by rw [hsl0]; simp only [Int.toNat_natCast]; omega) (by rw [hsl1]; simp only [Int.toNat_natCast]; omega)
  unfold RetNew at KSUM
  generalize PolyM.padd (shift ⟨n0, t0, l0, W, S, R⟩ delta z0) (shift ⟨n0, t0, l0, W, S, R⟩ delta z1) = df at *
  generalize shift ⟨n0, t0, l0, W, S, R⟩ delta z0 = s at *
  generalize shift ⟨n0, t0, l0, W, S, R⟩ delta z1 = u at *
  simp only [Int.toNat_natCast] at hsl0 hsl1 hdfl
  have KEV := fun (k : Nat) X d V (h : BytesAt V X df) => R02.eval_any X df d (point ((k : Int) + 1)) V h (by omega)
  have KEV2 := fun (x : UInt8) X d V (h : BytesAt V X s) => R02.eval_any X s d x V h (by omega)
  have KEVX := fun k X d V h => (hxy k) ▸ KEV k X d V h
  have hmzl2 : mz.length ≤ 1048576 := by omega
  have hwl : wd ≤ 1048576 := by omega
  have KA1 := fun X d V h2 h => KA mz hmzl2 X d V h2 h
  have HA2' := Lib.hid (fun (mk : List UInt8) (hk : mk.length = wd) X d V h2 h => hk ▸ KA mk (by omega) X d V h2 h)
  rw [hmzl] at KA1
  obtain ⟨sn, hsn⟩ : ∃ sn, sn = s.length := ⟨_, rfl⟩
  obtain ⟨un, hun⟩ : ∃ un, un = u.length := ⟨_, rfl⟩
  obtain ⟨dfn, hdn⟩ : ∃ dfn, dfn = df.length := ⟨_, rfl⟩
  rw [← hsn] at KS0 KSUM KEV2 HT2
  rw [← hun] at KS1 KSUM
  rw [← hdn] at KSUM KMZ KEVX
  obtain ⟨dn, hdd⟩ : ∃ dn, dn = delta.length := ⟨_, rfl⟩
  obtain ⟨tn, htn⟩ : ∃ tn, tn = tape.length := ⟨_, rfl⟩
  obtain ⟨z0n, hz0n⟩ : ∃ n, n = z0.length := ⟨_, rfl⟩
  obtain ⟨z1n, hz1n⟩ : ∃ n, n = z1.length := ⟨_, rfl⟩
  rw [← hdd, ← hz0n] at KC0 KS0
  rw [← hdd, ← hz1n] at KC1 KS1
  rw [← htn] at KZ KZ2 KA1 HT2 hs HA2'
  rw [← hdd, ← htn, ← hz0n, ← hz1n]
  have HZN := Lib.hid hz0n; have HLA := Lib.hid lz; have HLB := Lib.hid lz2
  have hsw : ¬ (tn : Int) < (wd : Int) := by omega
  have H0 := Lib.hid K0; have HR := Lib.hid KR; have HC0 := Lib.hid KC0; have HC1 := Lib.hid KC1; have HW := Lib.hid KW; have HS0 := Lib.hid KS0; have HS1 := Lib.hid KS1
  have HSUM := Lib.hid KSUM; have HZ := Lib.hid KZ; have HZ2 := Lib.hid KZ2; have HMZ := Lib.hid KMZ; have HAP := Lib.hid KA1; have HXYA := Lib.hid KEVX; have HEV2 := Lib.hid KEV2
  have D := Lib.hid h1; have TP := Lib.hid h2; have Z0 := Lib.hid h3; have Z1 := Lib.hid h4; have HZL := Lib.hid hz0
  have hn0 : n0 ≤ 12 := by omega
  clear K0 KR KC0 KC1 KW KS0 KS1 KSUM KZ KZ2 KMZ KA KA1 KEV KEV2 KEVX h1 h2 h3 h4 hp k2 x2 hrc hi0 hi1 hl ok0 ok1 hs hM hM' hz0 hz1 hww hwd es0 es1 hsl0 hsl1 hdfl hmzl ez lz ez2 lz2 lzn hxy hmzl2 hwl hsn hun hdn hdd htn hz0n hz1n
  have HA := Lib.hid (LiesV.new w n0 t0 l0 W S R (.slice A1 dn c1) (.slice A2 tn c2) (.slice A3 z0n c3) (.slice A4 z1n c4) 58 59)
  have HB0 := Lib.hid (show Below w.heap.size w (((w.alloc (.cells #[.int .i64 (n0 : Nat), .int .i64 (t0 : Nat), .int .i64 (l0 : Nat), .int .i64 W, .int .i64 S, .int .i64 R] 23)).alloc (.cells #[.slice A1 dn c1, .slice A2 tn c2] 58)).alloc (.cells #[.slice A3 z0n c3, .slice A4 z1n c4] 59)) from bstep (bstep (balloc _ _) (balloc _ _)) (balloc _ _))
  go_enter Try.func6, Try.ntmps6
  go_wp2_with fail
  generalize ((w.alloc (.cells #[.int .i64 (n0 : Nat), .int .i64 (t0 : Nat), .int .i64 (l0 : Nat), .int .i64 W, .int .i64 S, .int .i64 R] 23)).alloc (.cells #[.slice A1 dn c1, .slice A2 tn c2] 58)).alloc (.cells #[.slice A3 z0n c3, .slice A4 z1n c4] 59) = w0 at *
  refine Drawn.wp_region_flowL 6 [Drawn.SP.is (.pointer (some ⟨w.heap.size + 1, 0, none⟩)), Drawn.SP.is (.slice A1 dn c1), Drawn.SP.is (.pointer (some ⟨w.heap.size + 1, 1, none⟩)), Drawn.SP.is (.slice A2 tn c2), Drawn.SP.is (.slice A1 dn c1), Drawn.SP.is (.slice A2 tn c2)] (by kernel_rfl) (by kernel_rfl) ?_ ?_
  · intro i hi a w1 hb hev hdep
    rcases (show i = 0 ∨ i = 1 ∨ i = 2 ∨ i = 3 ∨ i = 4 ∨ i = 5 by omega) with rfl | rfl | rfl | rfl | rfl | rfl
    · have e4 : a.tmps[4]?.getD undef = .pointer (some ⟨w.heap.size + 1, 0, none⟩) := hev 4 rfl
      refine Drawn.wpOp_flow 27 rfl rfl rfl ?_
      clear hev hdep hb
      go_simp
      exact ⟨_, rfl, rfl, Below.refl _ _⟩
    · have d0 : a.tmps[27]?.getD undef = .pointer (some ⟨w.heap.size + 1, 0, none⟩) := hdep 0 rfl
      refine Drawn.wpOp_flow 28 rfl rfl rfl ?_
      have a0 := (HA.out.below hb).a0; have a1 := (HA.out.below hb).a1
      clear hev hdep hb
      go_simp
      exact ⟨_, rfl, rfl, Below.refl _ _⟩
    · have e4 : a.tmps[4]?.getD undef = .pointer (some ⟨w.heap.size + 1, 0, none⟩) := hev 4 rfl
      refine Drawn.wpOp_flow 29 rfl rfl rfl ?_
      clear hev hdep hb
      go_simp
      exact ⟨_, rfl, rfl, Below.refl _ _⟩
    · have d2 : a.tmps[29]?.getD undef = .pointer (some ⟨w.heap.size + 1, 1, none⟩) := hdep 2 rfl
      refine Drawn.wpOp_flow 30 rfl rfl rfl ?_
      have a0 := (HA.out.below hb).a0; have a1 := (HA.out.below hb).a1
      clear hev hdep hb
      go_simp
      exact ⟨_, rfl, rfl, Below.refl _ _⟩
    · have d1 : a.tmps[28]?.getD undef = .slice A1 dn c1 := hdep 1 rfl
      refine Drawn.wpOp_flow 7 rfl rfl rfl ?_
      clear hev hdep hb
      go_simp
      exact ⟨_, rfl, rfl, Below.refl _ _⟩
    · have d3 : a.tmps[30]?.getD undef = .slice A2 tn c2 := hdep 3 rfl
      refine Drawn.wpOp_flow 8 rfl rfl rfl ?_
      clear hev hdep hb
      go_simp
      exact ⟨_, rfl, rfl, Below.refl _ _⟩
  · intro xq w1 hb hxq
    have vq0 : xq 0 = .pointer (some ⟨w.heap.size + 1, 0, none⟩) := hxq 0 (by omega)
    have vq1 : xq 1 = .slice A1 dn c1 := hxq 1 (by omega)
    have vq2 : xq 2 = .pointer (some ⟨w.heap.size + 1, 1, none⟩) := hxq 2 (by omega)
    have vq3 : xq 3 = .slice A2 tn c2 := hxq 3 (by omega)
    have vq4 : xq 4 = .slice A1 dn c1 := hxq 4 (by omega)
    have vq5 : xq 5 = .slice A2 tn c2 := hxq 5 (by omega)
    show Exit.then _ _ Exit.normal (Drawn.acts _ [(8, some (xq 5)), (7, some (xq 4)), (30, some (xq 3)), (29, some (xq 2)), (28, some (xq 1)), (27, some (xq 0))]) _
    rw [vq0, vq1, vq2, vq3, vq4, vq5]
    clear hxq vq0 vq1 vq2 vq3 vq4 vq5
    clear xq
    simp only [Drawn.acts]
    go_simp
    have HB1 := Lib.hid (bstep HB0.out hb)
    have HA1 := Lib.hid (HA.out.below hb)
    clear hb HA
    go_at_K
    obtain ⟨⟨p0, p1, p2, p3, p4, p5⟩, q0, q1⟩ := HA1.out.eight
    go_wp2_with fail
    refine (H0.out _).mono ?_
    rintro e w2 ⟨rfl, hb2⟩
    clear p0 p1 p2 p3 p4 p5 q0 q1
    have HB2 := Lib.hid (bstep HB1.out hb2)
    have HA2 := Lib.hid (HA1.out.below hb2)
    clear hb2
    obtain ⟨⟨p0, p1, p2, p3, p4, p5⟩, q0, q1⟩ := HA2.out.eight
    go_wp2_with fail
    refine (HR.out _).mono ?_
    rintro e w3 ⟨rfl, hb3⟩
    clear p0 p1 p2 p3 p4 p5 q0 q1
    have HB3 := Lib.hid (bstep HB2.out hb3)
    have HA3 := Lib.hid (HA2.out.below hb3)
    clear hb3
    obtain ⟨⟨p0, p1, p2, p3, p4, p5⟩, q0, q1⟩ := HA3.out.eight
    go_wp2_with fail
    refine (HC0.out _ (Z0.out.below HB3.out)).mono ?_
    rintro e w4 ⟨rfl, hb4⟩
    clear p0 p1 p2 p3 p4 p5 q0 q1
    have HB4 := Lib.hid (bstep HB3.out hb4)
    have HA4 := Lib.hid (HA3.out.below hb4)
    clear hb4
    obtain ⟨⟨p0, p1, p2, p3, p4, p5⟩, q0, q1⟩ := HA4.out.eight
    go_wp2_with fail
    refine (HC1.out _ (Z1.out.below HB4.out)).mono ?_
    rintro e w5 ⟨rfl, hb5⟩
    clear p0 p1 p2 p3 p4 p5 q0 q1
    have HB5 := Lib.hid (bstep HB4.out hb5)
    have HA5 := Lib.hid (HA4.out.below hb5)
    clear hb5
    obtain ⟨⟨p0, p1, p2, p3, p4, p5⟩, q0, q1⟩ := HA5.out.eight
    go_wp2_with fail
    refine (HW.out _).mono ?_
    rintro e w6 ⟨rfl, hb6⟩
    clear p0 p1 p2 p3 p4 p5 q0 q1
    have HB6 := Lib.hid (bstep HB5.out hb6)
    have HA6 := Lib.hid (HA5.out.below hb6)
    clear hb6
    go_wp2_with fail
    refine (Gf.new_any _).mono ?_
    rintro e w7 ⟨rfl, ht, hb7, _⟩
    have HT := Lib.hid ht
    clear ht
    have HB7 := Lib.hid (bstep HB6.out hb7)
    have HA7 := Lib.hid (HA6.out.below hb7)
    clear hb7
    obtain ⟨⟨p0, p1, p2, p3, p4, p5⟩, q0, q1⟩ := HA7.out.eight
    go_wp2_with fail
    refine (HS0.out _ _ HT.out (D.out.below HB7.out) (Z0.out.below HB7.out)).mono ?_
    rintro e w8 ⟨Xs, ds, rfl, hx, hb8⟩
    clear p0 p1 p2 p3 p4 p5 q0 q1
    have HXS := Lib.hid hx
    clear hx
    have HB8 := Lib.hid (bstep HB7.out hb8)
    have HA8 := Lib.hid (HA7.out.below hb8)
    replace HT := Lib.hid (HT.out.below hb8)
    clear hb8
    obtain ⟨⟨p0, p1, p2, p3, p4, p5⟩, q0, q1⟩ := HA8.out.eight
    go_wp2_with fail
    refine (HS1.out _ _ HT.out (D.out.below HB8.out) (Z1.out.below HB8.out)).mono ?_
    rintro e w9 ⟨Xu, du, rfl, hx, hb9⟩
    clear p0 p1 p2 p3 p4 p5 q0 q1
    have HXU := Lib.hid hx
    clear hx
    have HB9 := Lib.hid (bstep HB8.out hb9)
    have HA9 := Lib.hid (HA8.out.below hb9)
    replace HT := Lib.hid (HT.out.below hb9)
    replace HXS := Lib.hid (HXS.out.below hb9)
    clear hb9
    go_wp2_with fail
    refine (HSUM.out _ _ _ _ _ HXS.out HXU.out).mono ?_
    rintro e w10 ⟨Xd, dd, rfl, _, _, hx, hb10, _⟩
    have HXD := Lib.hid hx
    clear hx
    have HB10 := Lib.hid (bstep HB9.out hb10)
    have HA10 := Lib.hid (HA9.out.below hb10)
    replace HT := Lib.hid (HT.out.below hb10)
    replace HXS := Lib.hid (HXS.out.below hb10)
    clear hb10
    obtain ⟨⟨p0, p1, p2, p3, p4, p5⟩, q0, q1⟩ := HA10.out.eight
    go_wp2_with fail
    refine (HZ.out _ _ HT.out (TP.out.below HB10.out)).mono ?_
    rintro e w11 ⟨Xa, ca, rfl, _, _, hx, hb11, _⟩
    clear p0 p1 p2 p3 p4 p5 q0 q1
    have HXA := Lib.hid hx
    clear hx
    have HB11 := Lib.hid (bstep HB10.out hb11)
    have HA11 := Lib.hid (HA10.out.below hb11)
    replace HT := Lib.hid (HT.out.below hb11)
    replace HXS := Lib.hid (HXS.out.below hb11)
    replace HXD := Lib.hid (HXD.out.below hb11)
    clear hb11
    go_wp2_with fail
    refine Drawn.wp_region_flowL 14 [Drawn.SP.is (.pointer (some ⟨w6.heap.size, 0, none⟩)), Drawn.SP.is (.agg #[.int .i64 (n0 : Nat), .int .i64 (t0 : Nat), .int .i64 (l0 : Nat), .int .i64 W, .int .i64 S, .int .i64 R]), Drawn.SP.is (.slice A2 tn c2), Drawn.SP.is (.pointer (some ⟨w6.heap.size, 0, none⟩)), Drawn.SP.is (.agg #[.int .i64 (n0 : Nat), .int .i64 (t0 : Nat), .int .i64 (l0 : Nat), .int .i64 W, .int .i64 S, .int .i64 R]), Drawn.SP.is (.slice Xd dfn dd), SP.bN mz t0, SP.bt (apply tape 0 mz) tn, SP.rE zb n0 0, SP.rE zb n0 0, SP.rn zb n0, Drawn.SP.is (.int .i64 0), SP.rn zb n0, Drawn.SP.is (.int .i64 0)] (by kernel_rfl) (by kernel_rfl) ?_ ?_
    · intro i hi a wq hb hev hdep
      rcases (show i = 0 ∨ i = 1 ∨ i = 2 ∨ i = 3 ∨ i = 4 ∨ i = 5 ∨ i = 6 ∨ i = 7 ∨ i = 8 ∨ i = 9 ∨ i = 10 ∨ i = 11 ∨ i = 12 ∨ i = 13 by omega) with rfl | rfl | rfl | rfl | rfl | rfl | rfl | rfl | rfl | rfl | rfl | rfl | rfl | rfl
      · have e9 : a.tmps[9]?.getD undef = .pointer (some ⟨w6.heap.size, 0, none⟩) := hev 9 rfl
        refine Drawn.wpOp_flow 93 rfl rfl rfl ?_
        clear hev hdep hb
        go_simp
        exact ⟨_, rfl, rfl, Below.refl _ _⟩
      · have e3 : a.tmps[3]?.getD undef = .pointer (some ⟨w.heap.size, 0, none⟩) := hev 3 rfl
        refine Drawn.wpOp_flow 94 rfl rfl rfl ?_
        obtain ⟨⟨p0, p1, p2, p3, p4, p5⟩, q0, q1⟩ := (HA11.out.below hb).eight
        clear hev hdep hb
        go_simp
        exact ⟨_, rfl, rfl, Below.refl _ _⟩
      · have e8 : a.tmps[8]?.getD undef = .slice A2 tn c2 := hev 8 rfl
        refine Drawn.wpOp_flow 95 rfl rfl rfl ?_
        clear hev hdep hb
        go_simp
        exact ⟨_, rfl, rfl, Below.refl _ _⟩
      · have e9 : a.tmps[9]?.getD undef = .pointer (some ⟨w6.heap.size, 0, none⟩) := hev 9 rfl
        refine Drawn.wpOp_flow 96 rfl rfl rfl ?_
        clear hev hdep hb
        go_simp
        exact ⟨_, rfl, rfl, Below.refl _ _⟩
      · have e3 : a.tmps[3]?.getD undef = .pointer (some ⟨w.heap.size, 0, none⟩) := hev 3 rfl
        refine Drawn.wpOp_flow 97 rfl rfl rfl ?_
        obtain ⟨⟨p0, p1, p2, p3, p4, p5⟩, q0, q1⟩ := (HA11.out.below hb).eight
        clear hev hdep hb
        go_simp
        exact ⟨_, rfl, rfl, Below.refl _ _⟩
      · have e14 : a.tmps[14]?.getD undef = .slice Xd dfn dd := hev 14 rfl
        refine Drawn.wpOp_flow 98 rfl rfl rfl ?_
        clear hev hdep hb
        go_simp
        exact ⟨_, rfl, rfl, Below.refl _ _⟩
      · have d3 : a.tmps[96]?.getD undef = .pointer (some ⟨w6.heap.size, 0, none⟩) := hdep 3 rfl
        have d4 : a.tmps[97]?.getD undef = .agg #[.int .i64 (n0 : Nat), .int .i64 (t0 : Nat), .int .i64 (l0 : Nat), .int .i64 W, .int .i64 S, .int .i64 R] := hdep 4 rfl
        have d5 : a.tmps[98]?.getD undef = .slice Xd dfn dd := hdep 5 rfl
        refine Drawn.wpOp_flow 99 rfl rfl rfl ?_
        clear hev hdep
        have C := HMZ.out w6.heap.size Xd dd wq (HT.out.below hb) (HXD.out.below hb)
        clear hb
        go_simp
        refine C.mono ?_
        rintro e w' ⟨X, d, rfl, g3, hb'⟩
        exact ⟨_, rfl, ⟨X, d, rfl, g3⟩, hb'⟩
      · have d2 : a.tmps[95]?.getD undef = .slice A2 tn c2 := hdep 2 rfl
        obtain ⟨Xm, dm, d6, xm⟩ : (SP.bN mz t0).p (a.tmps[99]?.getD undef) wq := hdep 6 rfl
        refine Drawn.wpOp_flow 100 rfl rfl rfl ?_
        clear hev hdep
        have C := HAP.out Xm dm wq (TP.out.below (bstep HB11.out hb)) xm
        clear xm
        clear hb
        go_simp
        refine C.mono ?_
        rintro e w' ⟨X, d, rfl, g1, g2, g3, hb', _⟩
        exact ⟨_, rfl, ⟨X, d, rfl, g1, g2, g3⟩, hb'⟩
      · have d0 : a.tmps[93]?.getD undef = .pointer (some ⟨w6.heap.size, 0, none⟩) := hdep 0 rfl
        have d1 : a.tmps[94]?.getD undef = .agg #[.int .i64 (n0 : Nat), .int .i64 (t0 : Nat), .int .i64 (l0 : Nat), .int .i64 W, .int .i64 S, .int .i64 R] := hdep 1 rfl
        obtain ⟨Xt, dt, d7, xt1, xt2, xt⟩ : (SP.bt (apply tape 0 mz) tn).p (a.tmps[100]?.getD undef) wq := hdep 7 rfl
        refine Drawn.wpOp_flow 101 rfl rfl rfl ?_
        clear hev hdep
        have C := HZ2.out _ Xt dt wq (HT.out.below hb) xt xt1 xt2
        clear xt xt1 xt2
        clear hb
        go_simp
        refine C.mono ?_
        rintro e w' ⟨X, d, rfl, _, _, g3, hb', _⟩
        exact ⟨_, rfl, ⟨X, d, rfl, g3⟩, hb'⟩
      · have d8 := hdep 8 rfl
        refine Drawn.wpOp_flow 92 rfl rfl rfl ?_
        clear hev hdep hb
        go_simp
        exact ⟨_, rfl, d8, Below.refl _ _⟩
      · obtain ⟨Xr, dr, d9, xr⟩ : (SP.rE zb n0 0).p (a.tmps[92]?.getD undef) wq := hdep 9 rfl
        refine Drawn.wpOp_flow 102 rfl rfl rfl ?_
        clear hev hdep
        clear hb
        go_simp
        exact ⟨_, rfl, ⟨Xr, dr, rfl, xr⟩, Below.refl _ _⟩
      · obtain ⟨Xr, dr, d9, xr⟩ : (SP.rE zb n0 0).p (a.tmps[92]?.getD undef) wq := hdep 9 rfl
        refine Drawn.wpOp_flow 103 rfl rfl rfl ?_
        clear hev hdep hb
        go_simp
        exact ⟨_, rfl, rfl, Below.refl _ _⟩
      · have d10 := hdep 10 rfl
        refine Drawn.wpOp_flow 17 rfl rfl rfl ?_
        clear hev hdep hb
        go_simp
        exact ⟨_, rfl, d10, Below.refl _ _⟩
      · have d11 : a.tmps[103]?.getD undef = .int .i64 0 := hdep 11 rfl
        refine Drawn.wpOp_flow 18 rfl rfl rfl ?_
        clear hev hdep hb
        go_simp
        exact ⟨_, rfl, rfl, Below.refl _ _⟩
    · intro xq wq hb hxq
      have vq0 : xq 0 = .pointer (some ⟨w6.heap.size, 0, none⟩) := hxq 0 (by omega)
      have vq1 : xq 1 = .agg #[.int .i64 (n0 : Nat), .int .i64 (t0 : Nat), .int .i64 (l0 : Nat), .int .i64 W, .int .i64 S, .int .i64 R] := hxq 1 (by omega)
      have vq2 : xq 2 = .slice A2 tn c2 := hxq 2 (by omega)
      have vq3 : xq 3 = .pointer (some ⟨w6.heap.size, 0, none⟩) := hxq 3 (by omega)
      have vq4 : xq 4 = .agg #[.int .i64 (n0 : Nat), .int .i64 (t0 : Nat), .int .i64 (l0 : Nat), .int .i64 W, .int .i64 S, .int .i64 R] := hxq 4 (by omega)
      have vq5 : xq 5 = .slice Xd dfn dd := hxq 5 (by omega)
      have vq11 : xq 11 = .int .i64 0 := hxq 11 (by omega)
      obtain ⟨Xr, dr, vq12, xr⟩ : (SP.rn zb n0).p (xq 12) wq := hxq 12 (by omega)
      have vq13 : xq 13 = .int .i64 0 := hxq 13 (by omega)
      show Exit.then _ _ Exit.normal (Drawn.acts _ [(18, some (xq 13)), (17, some (xq 12)), (103, some (xq 11)), (102, some (xq 10)), (92, some (xq 9)), (101, some (xq 8)), (100, some (xq 7)), (99, some (xq 6)), (98, some (xq 5)), (97, some (xq 4)), (96, some (xq 3)), (95, some (xq 2)), (94, some (xq 1)), (93, some (xq 0))]) _
      rw [vq0, vq1, vq2, vq3, vq4, vq5, vq11, vq12, vq13]
      clear hxq vq0 vq1 vq2 vq3 vq4 vq5 vq11 vq12 vq13
      generalize xq 6 = yq6
      generalize xq 7 = yq7
      generalize xq 8 = yq8
      generalize xq 9 = yq9
      generalize xq 10 = yq10
      clear xq
      simp only [Drawn.acts]
      go_simp
      have HB12 := Lib.hid (bstep HB11.out hb)
      have HA12 := Lib.hid (HA11.out.below hb)
      replace HT := Lib.hid (HT.out.below hb); replace HXS := Lib.hid (HXS.out.below hb); replace HXD := Lib.hid (HXD.out.below hb); replace HXA := Lib.hid (HXA.out.below hb)
      have HXR := Lib.hid xr
      clear xr hb HA1 HA2 HA3 HA4 HA5 HA6 HA7 HA8 HA9 HA10 HA11
      go_at_K
      obtain ⟨⟨p0, p1, p2, p3, p4, p5⟩, q0, q1⟩ := HA12.out.eight
      go_wp2
      clear p0 p1 p2 p3 p4 p5 q0 q1
      go_loopw [126] (fun i wr => ∃ k : Nat, k ≤ n0 ∧ i = .int .i64 k ∧ Below wq.heap.size wq wr) (fun i _ => n0 - (intOf i).toNat)
      case atStart => exact ⟨0, Nat.zero_le _, rfl, Below.refl _ _⟩
      case round =>
        obtain ⟨k, hk, rfl, hbr⟩ := hrel
        rename World => wr
        by_cases hlt : k < n0
        · have ga : k < za.length := by have := HLA.out; omega
          have gb : k < zb.length := by have := HLB.out; omega
          obtain ⟨ba, oa, ra, rx, rc, rfl, fa, rc1, fx⟩ := one_row (HXA.out.below hbr) ga (HRA.out k ga)
          obtain ⟨bb, ob, rb, ry, rd, rfl, fb, rd1, fy⟩ := one_row (HXR.out.below hbr) gb (HRB.out k gb)
          have i1 : IntKind.i64.wrap ((k : Int) + 1) = (k : Int) + 1 := IntWalk.i64_in _ (by omega)
          have hpt := fun V => R08.point_any ((k : Int) + 1) V
          have hev := fun V (h : Below wr.heap.size wr V) => HXYA.out k Xd dd V (HXD.out.below (bstep hbr h))
          generalize point ((k : Int) + 1) = pt at *
          generalize xf k = x at *
          generalize yf k = y at *
          have HPT := Lib.hid hpt; have HEV := Lib.hid hev
          clear hpt hev ga gb
          go_wp2_with fail
          refine Drawn.wp_region_flowL 35 [Drawn.SP.is (.slice (some ⟨ba, oa, none⟩) n0 ca), Drawn.SP.is (.int .i64 (k : Nat)), Drawn.SP.is (.pointer (some ⟨ba, oa + k, none⟩)), Drawn.SP.is (.slice (some ⟨ra, rx, none⟩) 1 rc), Drawn.SP.is (.int .i64 1), Drawn.SP.is (.bool false), Drawn.SP.is (.bool false), Drawn.SP.is (.slice (some ⟨bb, ob, none⟩) n0 dr), Drawn.SP.is (.int .i64 (k : Nat)), Drawn.SP.is (.pointer (some ⟨bb, ob + k, none⟩)), Drawn.SP.is (.slice (some ⟨rb, ry, none⟩) 1 rd), Drawn.SP.is (.int .i64 1), Drawn.SP.is (.bool false), Drawn.SP.is (.bool false), Drawn.SP.is (.bool false), Drawn.SP.is (.slice (some ⟨ba, oa, none⟩) n0 ca), Drawn.SP.is (.int .i64 (k : Nat)), Drawn.SP.is (.pointer (some ⟨ba, oa + k, none⟩)), Drawn.SP.is (.slice (some ⟨ra, rx, none⟩) 1 rc), Drawn.SP.is (.pointer (some ⟨ra, rx, none⟩)), Drawn.SP.is (.int .u8 (x.toNat : Nat)), Drawn.SP.is (.slice (some ⟨bb, ob, none⟩) n0 dr), Drawn.SP.is (.int .i64 (k : Nat)), Drawn.SP.is (.pointer (some ⟨bb, ob + k, none⟩)), Drawn.SP.is (.slice (some ⟨rb, ry, none⟩) 1 rd), Drawn.SP.is (.pointer (some ⟨rb, ry, none⟩)), Drawn.SP.is (.int .u8 (y.toNat : Nat)), Drawn.SP.is (.int .u8 ((GfM.add x y).toNat : Nat)), Drawn.SP.is (.slice Xd dfn dd), Drawn.SP.is (.int .i64 (k : Nat)), Drawn.SP.is (.int .i64 ((k : Int) + 1)), Drawn.SP.is (.int .u8 (pt.toNat : Nat)), Drawn.SP.is (.int .u8 ((GfM.add x y).toNat : Nat)), Drawn.SP.is (.bool false), Drawn.SP.is (.bool false)] (by kernel_rfl) (by kernel_rfl) ?_ ?_
          · intro i hi a wq hb hev hdep
            rcases (show i = 0 ∨ i = 1 ∨ i = 2 ∨ i = 3 ∨ i = 4 ∨ i = 5 ∨ i = 6 ∨ i = 7 ∨ i = 8 ∨ i = 9 ∨ i = 10 ∨ i = 11 ∨ i = 12 ∨ i = 13 ∨ i = 14 ∨ i = 15 ∨ i = 16 ∨ i = 17 ∨ i = 18 ∨ i = 19 ∨ i = 20 ∨ i = 21 ∨ i = 22 ∨ i = 23 ∨ i = 24 ∨ i = 25 ∨ i = 26 ∨ i = 27 ∨ i = 28 ∨ i = 29 ∨ i = 30 ∨ i = 31 ∨ i = 32 ∨ i = 33 ∨ i = 34 by omega) with rfl | rfl | rfl | rfl | rfl | rfl | rfl | rfl | rfl | rfl | rfl | rfl | rfl | rfl | rfl | rfl | rfl | rfl | rfl | rfl | rfl | rfl | rfl | rfl | rfl | rfl | rfl | rfl | rfl | rfl | rfl | rfl | rfl | rfl | rfl
            · have e15 : a.tmps[15]?.getD undef = .slice (some ⟨ba, oa, none⟩) n0 ca := hev 15 rfl
              refine Drawn.wpOp_flow 129 rfl rfl rfl ?_
              clear hev hdep hb
              go_simp
              exact ⟨_, rfl, rfl, Below.refl _ _⟩
            · have e19 : a.tmps[19]?.getD undef = .int .i64 (k : Nat) := hev 19 rfl
              refine Drawn.wpOp_flow 130 rfl rfl rfl ?_
              clear hev hdep hb
              go_simp
              exact ⟨_, rfl, rfl, Below.refl _ _⟩
            · have d0 : a.tmps[129]?.getD undef = .slice (some ⟨ba, oa, none⟩) n0 ca := hdep 0 rfl
              have d1 : a.tmps[130]?.getD undef = .int .i64 (k : Nat) := hdep 1 rfl
              refine Drawn.wpOp_flow 131 rfl rfl rfl ?_
              clear hev hdep hb
              go_simp
              exact ⟨_, rfl, rfl, Below.refl _ _⟩
            · have d2 : a.tmps[131]?.getD undef = .pointer (some ⟨ba, oa + k, none⟩) := hdep 2 rfl
              refine Drawn.wpOp_flow 132 rfl rfl rfl ?_
              have ga := (hb.cell (p := ⟨ba, oa + k, none⟩) (cell_lt fa)).trans fa
              have gx := (hb.cell (p := ⟨ra, rx, none⟩) (cell_lt fx)).trans fx
              have gb := (hb.cell (p := ⟨bb, ob + k, none⟩) (cell_lt fb)).trans fb
              have gy := (hb.cell (p := ⟨rb, ry, none⟩) (cell_lt fy)).trans fy
              clear hev hdep hb
              go_simp
              exact ⟨_, rfl, rfl, Below.refl _ _⟩
            · have d3 : a.tmps[132]?.getD undef = .slice (some ⟨ra, rx, none⟩) 1 rc := hdep 3 rfl
              refine Drawn.wpOp_flow 133 rfl rfl rfl ?_
              clear hev hdep hb
              go_simp
              exact ⟨_, rfl, rfl, Below.refl _ _⟩
            · have d4 : a.tmps[133]?.getD undef = .int .i64 1 := hdep 4 rfl
              refine Drawn.wpOp_flow 134 rfl rfl rfl ?_
              clear hev hdep hb
              go_simp
              exact ⟨_, rfl, rfl, Below.refl _ _⟩
            · have d5 : a.tmps[134]?.getD undef = .bool false := hdep 5 rfl
              refine Drawn.wpOp_flow 135 rfl rfl rfl ?_
              clear hev hdep hb
              go_simp
              exact ⟨_, rfl, rfl, Below.refl _ _⟩
            · have e17 : a.tmps[17]?.getD undef = .slice (some ⟨bb, ob, none⟩) n0 dr := hev 17 rfl
              have dg : a.tmps[135]?.getD undef = .bool false := hdep 6 rfl
              refine Drawn.wpOp_flow 136 rfl (Drawn.wanted_of rfl rfl rfl dg) rfl ?_
              clear dg
              clear hev hdep hb
              go_simp
              exact ⟨_, rfl, rfl, Below.refl _ _⟩
            · have e19 : a.tmps[19]?.getD undef = .int .i64 (k : Nat) := hev 19 rfl
              have dg : a.tmps[135]?.getD undef = .bool false := hdep 6 rfl
              refine Drawn.wpOp_flow 137 rfl (Drawn.wanted_of rfl rfl rfl dg) rfl ?_
              clear dg
              clear hev hdep hb
              go_simp
              exact ⟨_, rfl, rfl, Below.refl _ _⟩
            · have d7 : a.tmps[136]?.getD undef = .slice (some ⟨bb, ob, none⟩) n0 dr := hdep 7 rfl
              have d8 : a.tmps[137]?.getD undef = .int .i64 (k : Nat) := hdep 8 rfl
              have dg : a.tmps[135]?.getD undef = .bool false := hdep 6 rfl
              refine Drawn.wpOp_flow 138 rfl (Drawn.wanted_of rfl rfl rfl dg) rfl ?_
              clear dg
              clear hev hdep hb
              go_simp
              exact ⟨_, rfl, rfl, Below.refl _ _⟩
            · have d9 : a.tmps[138]?.getD undef = .pointer (some ⟨bb, ob + k, none⟩) := hdep 9 rfl
              have dg : a.tmps[135]?.getD undef = .bool false := hdep 6 rfl
              refine Drawn.wpOp_flow 139 rfl (Drawn.wanted_of rfl rfl rfl dg) rfl ?_
              have ga := (hb.cell (p := ⟨ba, oa + k, none⟩) (cell_lt fa)).trans fa
              have gx := (hb.cell (p := ⟨ra, rx, none⟩) (cell_lt fx)).trans fx
              have gb := (hb.cell (p := ⟨bb, ob + k, none⟩) (cell_lt fb)).trans fb
              have gy := (hb.cell (p := ⟨rb, ry, none⟩) (cell_lt fy)).trans fy
              clear dg
              clear hev hdep hb
              go_simp
              exact ⟨_, rfl, rfl, Below.refl _ _⟩
            · have d10 : a.tmps[139]?.getD undef = .slice (some ⟨rb, ry, none⟩) 1 rd := hdep 10 rfl
              have dg : a.tmps[135]?.getD undef = .bool false := hdep 6 rfl
              refine Drawn.wpOp_flow 140 rfl (Drawn.wanted_of rfl rfl rfl dg) rfl ?_
              clear dg
              clear hev hdep hb
              go_simp
              exact ⟨_, rfl, rfl, Below.refl _ _⟩
            · have d11 : a.tmps[140]?.getD undef = .int .i64 1 := hdep 11 rfl
              have dg : a.tmps[135]?.getD undef = .bool false := hdep 6 rfl
              refine Drawn.wpOp_flow 141 rfl (Drawn.wanted_of rfl rfl rfl dg) rfl ?_
              clear dg
              clear hev hdep hb
              go_simp
              exact ⟨_, rfl, rfl, Below.refl _ _⟩
            · have d6 : a.tmps[135]?.getD undef = .bool false := hdep 6 rfl
              have d12 : a.tmps[141]?.getD undef = .bool false := hdep 12 rfl
              refine Drawn.wpOp_flow 142 rfl rfl rfl ?_
              clear hev hdep hb
              go_simp
              exact ⟨_, rfl, rfl, Below.refl _ _⟩
            · have d13 : a.tmps[142]?.getD undef = .bool false := hdep 13 rfl
              refine Drawn.wpOp_flow 143 rfl rfl rfl ?_
              clear hev hdep hb
              go_simp
              exact ⟨_, rfl, rfl, Below.refl _ _⟩
            · have e15 : a.tmps[15]?.getD undef = .slice (some ⟨ba, oa, none⟩) n0 ca := hev 15 rfl
              have dg : a.tmps[143]?.getD undef = .bool false := hdep 14 rfl
              refine Drawn.wpOp_flow 144 rfl (Drawn.wanted_of rfl rfl rfl dg) rfl ?_
              clear dg
              clear hev hdep hb
              go_simp
              exact ⟨_, rfl, rfl, Below.refl _ _⟩
            · have e19 : a.tmps[19]?.getD undef = .int .i64 (k : Nat) := hev 19 rfl
              have dg : a.tmps[143]?.getD undef = .bool false := hdep 14 rfl
              refine Drawn.wpOp_flow 145 rfl (Drawn.wanted_of rfl rfl rfl dg) rfl ?_
              clear dg
              clear hev hdep hb
              go_simp
              exact ⟨_, rfl, rfl, Below.refl _ _⟩
            · have d15 : a.tmps[144]?.getD undef = .slice (some ⟨ba, oa, none⟩) n0 ca := hdep 15 rfl
              have d16 : a.tmps[145]?.getD undef = .int .i64 (k : Nat) := hdep 16 rfl
              have dg : a.tmps[143]?.getD undef = .bool false := hdep 14 rfl
              refine Drawn.wpOp_flow 146 rfl (Drawn.wanted_of rfl rfl rfl dg) rfl ?_
              clear dg
              clear hev hdep hb
              go_simp
              exact ⟨_, rfl, rfl, Below.refl _ _⟩
            · have d17 : a.tmps[146]?.getD undef = .pointer (some ⟨ba, oa + k, none⟩) := hdep 17 rfl
              have dg : a.tmps[143]?.getD undef = .bool false := hdep 14 rfl
              refine Drawn.wpOp_flow 147 rfl (Drawn.wanted_of rfl rfl rfl dg) rfl ?_
              have ga := (hb.cell (p := ⟨ba, oa + k, none⟩) (cell_lt fa)).trans fa
              have gx := (hb.cell (p := ⟨ra, rx, none⟩) (cell_lt fx)).trans fx
              have gb := (hb.cell (p := ⟨bb, ob + k, none⟩) (cell_lt fb)).trans fb
              have gy := (hb.cell (p := ⟨rb, ry, none⟩) (cell_lt fy)).trans fy
              clear dg
              clear hev hdep hb
              go_simp
              exact ⟨_, rfl, rfl, Below.refl _ _⟩
            · have d18 : a.tmps[147]?.getD undef = .slice (some ⟨ra, rx, none⟩) 1 rc := hdep 18 rfl
              have dg : a.tmps[143]?.getD undef = .bool false := hdep 14 rfl
              refine Drawn.wpOp_flow 148 rfl (Drawn.wanted_of rfl rfl rfl dg) rfl ?_
              clear dg
              clear hev hdep hb
              go_simp
              exact ⟨_, rfl, rfl, Below.refl _ _⟩
            · have d19 : a.tmps[148]?.getD undef = .pointer (some ⟨ra, rx, none⟩) := hdep 19 rfl
              have dg : a.tmps[143]?.getD undef = .bool false := hdep 14 rfl
              refine Drawn.wpOp_flow 149 rfl (Drawn.wanted_of rfl rfl rfl dg) rfl ?_
              have ga := (hb.cell (p := ⟨ba, oa + k, none⟩) (cell_lt fa)).trans fa
              have gx := (hb.cell (p := ⟨ra, rx, none⟩) (cell_lt fx)).trans fx
              have gb := (hb.cell (p := ⟨bb, ob + k, none⟩) (cell_lt fb)).trans fb
              have gy := (hb.cell (p := ⟨rb, ry, none⟩) (cell_lt fy)).trans fy
              clear dg
              clear hev hdep hb
              go_simp
              exact ⟨_, rfl, rfl, Below.refl _ _⟩
            · have e17 : a.tmps[17]?.getD undef = .slice (some ⟨bb, ob, none⟩) n0 dr := hev 17 rfl
              have dg : a.tmps[143]?.getD undef = .bool false := hdep 14 rfl
              refine Drawn.wpOp_flow 150 rfl (Drawn.wanted_of rfl rfl rfl dg) rfl ?_
              clear dg
              clear hev hdep hb
              go_simp
              exact ⟨_, rfl, rfl, Below.refl _ _⟩
            · have e19 : a.tmps[19]?.getD undef = .int .i64 (k : Nat) := hev 19 rfl
              have dg : a.tmps[143]?.getD undef = .bool false := hdep 14 rfl
              refine Drawn.wpOp_flow 151 rfl (Drawn.wanted_of rfl rfl rfl dg) rfl ?_
              clear dg
              clear hev hdep hb
              go_simp
              exact ⟨_, rfl, rfl, Below.refl _ _⟩
            · have d21 : a.tmps[150]?.getD undef = .slice (some ⟨bb, ob, none⟩) n0 dr := hdep 21 rfl
              have d22 : a.tmps[151]?.getD undef = .int .i64 (k : Nat) := hdep 22 rfl
              have dg : a.tmps[143]?.getD undef = .bool false := hdep 14 rfl
              refine Drawn.wpOp_flow 152 rfl (Drawn.wanted_of rfl rfl rfl dg) rfl ?_
              clear dg
              clear hev hdep hb
              go_simp
              exact ⟨_, rfl, rfl, Below.refl _ _⟩
            · have d23 : a.tmps[152]?.getD undef = .pointer (some ⟨bb, ob + k, none⟩) := hdep 23 rfl
              have dg : a.tmps[143]?.getD undef = .bool false := hdep 14 rfl
              refine Drawn.wpOp_flow 153 rfl (Drawn.wanted_of rfl rfl rfl dg) rfl ?_
              have ga := (hb.cell (p := ⟨ba, oa + k, none⟩) (cell_lt fa)).trans fa
              have gx := (hb.cell (p := ⟨ra, rx, none⟩) (cell_lt fx)).trans fx
              have gb := (hb.cell (p := ⟨bb, ob + k, none⟩) (cell_lt fb)).trans fb
              have gy := (hb.cell (p := ⟨rb, ry, none⟩) (cell_lt fy)).trans fy
              clear dg
              clear hev hdep hb
              go_simp
              exact ⟨_, rfl, rfl, Below.refl _ _⟩
            · have d24 : a.tmps[153]?.getD undef = .slice (some ⟨rb, ry, none⟩) 1 rd := hdep 24 rfl
              have dg : a.tmps[143]?.getD undef = .bool false := hdep 14 rfl
              refine Drawn.wpOp_flow 154 rfl (Drawn.wanted_of rfl rfl rfl dg) rfl ?_
              clear dg
              clear hev hdep hb
              go_simp
              exact ⟨_, rfl, rfl, Below.refl _ _⟩
            · have d25 : a.tmps[154]?.getD undef = .pointer (some ⟨rb, ry, none⟩) := hdep 25 rfl
              have dg : a.tmps[143]?.getD undef = .bool false := hdep 14 rfl
              refine Drawn.wpOp_flow 155 rfl (Drawn.wanted_of rfl rfl rfl dg) rfl ?_
              have ga := (hb.cell (p := ⟨ba, oa + k, none⟩) (cell_lt fa)).trans fa
              have gx := (hb.cell (p := ⟨ra, rx, none⟩) (cell_lt fx)).trans fx
              have gb := (hb.cell (p := ⟨bb, ob + k, none⟩) (cell_lt fb)).trans fb
              have gy := (hb.cell (p := ⟨rb, ry, none⟩) (cell_lt fy)).trans fy
              clear dg
              clear hev hdep hb
              go_simp
              exact ⟨_, rfl, rfl, Below.refl _ _⟩
            · have d20 : a.tmps[149]?.getD undef = .int .u8 (x.toNat : Nat) := hdep 20 rfl
              have d26 : a.tmps[155]?.getD undef = .int .u8 (y.toNat : Nat) := hdep 26 rfl
              have dg : a.tmps[143]?.getD undef = .bool false := hdep 14 rfl
              refine Drawn.wpOp_flow 156 rfl (Drawn.wanted_of rfl rfl rfl dg) rfl ?_
              clear dg
              clear hev hdep hb
              go_simp
              exact ⟨_, rfl, rfl, Below.refl _ _⟩
            · have e14 : a.tmps[14]?.getD undef = .slice Xd dfn dd := hev 14 rfl
              have dg : a.tmps[143]?.getD undef = .bool false := hdep 14 rfl
              refine Drawn.wpOp_flow 157 rfl (Drawn.wanted_of rfl rfl rfl dg) rfl ?_
              clear dg
              clear hev hdep hb
              go_simp
              exact ⟨_, rfl, rfl, Below.refl _ _⟩
            · have e19 : a.tmps[19]?.getD undef = .int .i64 (k : Nat) := hev 19 rfl
              have dg : a.tmps[143]?.getD undef = .bool false := hdep 14 rfl
              refine Drawn.wpOp_flow 158 rfl (Drawn.wanted_of rfl rfl rfl dg) rfl ?_
              clear dg
              clear hev hdep hb
              go_simp
              exact ⟨_, rfl, rfl, Below.refl _ _⟩
            · have d29 : a.tmps[158]?.getD undef = .int .i64 (k : Nat) := hdep 29 rfl
              have dg : a.tmps[143]?.getD undef = .bool false := hdep 14 rfl
              refine Drawn.wpOp_flow 159 rfl (Drawn.wanted_of rfl rfl rfl dg) rfl ?_
              clear dg
              clear hev hdep hb
              go_simp
              exact ⟨_, rfl, rfl, Below.refl _ _⟩
            · have d30 : a.tmps[159]?.getD undef = .int .i64 ((k : Int) + 1) := hdep 30 rfl
              have dg : a.tmps[143]?.getD undef = .bool false := hdep 14 rfl
              refine Drawn.wpOp_flow 160 rfl (Drawn.wanted_of rfl rfl rfl dg) rfl ?_
              clear hev hdep
              clear dg hb
              go_simp
              refine (HPT.out wq).mono ?_
              rintro e w' ⟨rfl, rfl⟩
              exact ⟨_, rfl, rfl, Below.refl _ _⟩
            · have d28 : a.tmps[157]?.getD undef = .slice Xd dfn dd := hdep 28 rfl
              have d31 : a.tmps[160]?.getD undef = .int .u8 (pt.toNat : Nat) := hdep 31 rfl
              have dg : a.tmps[143]?.getD undef = .bool false := hdep 14 rfl
              refine Drawn.wpOp_flow 161 rfl (Drawn.wanted_of rfl rfl rfl dg) rfl ?_
              clear hev hdep
              have C := HEV.out wq (hb)
              clear dg hb
              go_simp
              refine C.mono ?_
              rintro e w' ⟨rfl, rfl⟩
              exact ⟨_, rfl, rfl, Below.refl _ _⟩
            · have d27 : a.tmps[156]?.getD undef = .int .u8 ((GfM.add x y).toNat : Nat) := hdep 27 rfl
              have d32 : a.tmps[161]?.getD undef = .int .u8 ((GfM.add x y).toNat : Nat) := hdep 32 rfl
              have dg : a.tmps[143]?.getD undef = .bool false := hdep 14 rfl
              refine Drawn.wpOp_flow 162 rfl (Drawn.wanted_of rfl rfl rfl dg) rfl ?_
              clear dg
              clear hev hdep hb
              go_simp
              exact ⟨_, rfl, rfl, Below.refl _ _⟩
            · have d14 : a.tmps[143]?.getD undef = .bool false := hdep 14 rfl
              have d33 : a.tmps[162]?.getD undef = .bool false := hdep 33 rfl
              refine Drawn.wpOp_flow 163 rfl rfl rfl ?_
              clear hev hdep hb
              go_simp
              exact ⟨_, rfl, rfl, Below.refl _ _⟩
          · intro xq wq hb hxq
            have vq0 : xq 0 = .slice (some ⟨ba, oa, none⟩) n0 ca := hxq 0 (by omega)
            have vq1 : xq 1 = .int .i64 (k : Nat) := hxq 1 (by omega)
            have vq2 : xq 2 = .pointer (some ⟨ba, oa + k, none⟩) := hxq 2 (by omega)
            have vq3 : xq 3 = .slice (some ⟨ra, rx, none⟩) 1 rc := hxq 3 (by omega)
            have vq4 : xq 4 = .int .i64 1 := hxq 4 (by omega)
            have vq5 : xq 5 = .bool false := hxq 5 (by omega)
            have vq6 : xq 6 = .bool false := hxq 6 (by omega)
            have vq7 : xq 7 = .slice (some ⟨bb, ob, none⟩) n0 dr := hxq 7 (by omega)
            have vq8 : xq 8 = .int .i64 (k : Nat) := hxq 8 (by omega)
            have vq9 : xq 9 = .pointer (some ⟨bb, ob + k, none⟩) := hxq 9 (by omega)
            have vq10 : xq 10 = .slice (some ⟨rb, ry, none⟩) 1 rd := hxq 10 (by omega)
            have vq11 : xq 11 = .int .i64 1 := hxq 11 (by omega)
            have vq12 : xq 12 = .bool false := hxq 12 (by omega)
            have vq13 : xq 13 = .bool false := hxq 13 (by omega)
            have vq14 : xq 14 = .bool false := hxq 14 (by omega)
            have vq15 : xq 15 = .slice (some ⟨ba, oa, none⟩) n0 ca := hxq 15 (by omega)
            have vq16 : xq 16 = .int .i64 (k : Nat) := hxq 16 (by omega)
            have vq17 : xq 17 = .pointer (some ⟨ba, oa + k, none⟩) := hxq 17 (by omega)
            have vq18 : xq 18 = .slice (some ⟨ra, rx, none⟩) 1 rc := hxq 18 (by omega)
            have vq19 : xq 19 = .pointer (some ⟨ra, rx, none⟩) := hxq 19 (by omega)
            have vq20 : xq 20 = .int .u8 (x.toNat : Nat) := hxq 20 (by omega)
            have vq21 : xq 21 = .slice (some ⟨bb, ob, none⟩) n0 dr := hxq 21 (by omega)
            have vq22 : xq 22 = .int .i64 (k : Nat) := hxq 22 (by omega)
            have vq23 : xq 23 = .pointer (some ⟨bb, ob + k, none⟩) := hxq 23 (by omega)
            have vq24 : xq 24 = .slice (some ⟨rb, ry, none⟩) 1 rd := hxq 24 (by omega)
            have vq25 : xq 25 = .pointer (some ⟨rb, ry, none⟩) := hxq 25 (by omega)
            have vq26 : xq 26 = .int .u8 (y.toNat : Nat) := hxq 26 (by omega)
            have vq27 : xq 27 = .int .u8 ((GfM.add x y).toNat : Nat) := hxq 27 (by omega)
            have vq28 : xq 28 = .slice Xd dfn dd := hxq 28 (by omega)
            have vq29 : xq 29 = .int .i64 (k : Nat) := hxq 29 (by omega)
            have vq30 : xq 30 = .int .i64 ((k : Int) + 1) := hxq 30 (by omega)
            have vq31 : xq 31 = .int .u8 (pt.toNat : Nat) := hxq 31 (by omega)
            have vq32 : xq 32 = .int .u8 ((GfM.add x y).toNat : Nat) := hxq 32 (by omega)
            have vq33 : xq 33 = .bool false := hxq 33 (by omega)
            have vq34 : xq 34 = .bool false := hxq 34 (by omega)
            show Exit.then _ _ Exit.normal (Drawn.acts _ [(163, some (xq 34)), (162, some (xq 33)), (161, some (xq 32)), (160, some (xq 31)), (159, some (xq 30)), (158, some (xq 29)), (157, some (xq 28)), (156, some (xq 27)), (155, some (xq 26)), (154, some (xq 25)), (153, some (xq 24)), (152, some (xq 23)), (151, some (xq 22)), (150, some (xq 21)), (149, some (xq 20)), (148, some (xq 19)), (147, some (xq 18)), (146, some (xq 17)), (145, some (xq 16)), (144, some (xq 15)), (143, some (xq 14)), (142, some (xq 13)), (141, some (xq 12)), (140, some (xq 11)), (139, some (xq 10)), (138, some (xq 9)), (137, some (xq 8)), (136, some (xq 7)), (135, some (xq 6)), (134, some (xq 5)), (133, some (xq 4)), (132, some (xq 3)), (131, some (xq 2)), (130, some (xq 1)), (129, some (xq 0))]) _
            rw [vq0, vq1, vq2, vq3, vq4, vq5, vq6, vq7, vq8, vq9, vq10, vq11, vq12, vq13, vq14, vq15, vq16, vq17, vq18, vq19, vq20, vq21, vq22, vq23, vq24, vq25, vq26, vq27, vq28, vq29, vq30, vq31, vq32, vq33, vq34]
            clear hxq vq0 vq1 vq2 vq3 vq4 vq5 vq6 vq7 vq8 vq9 vq10 vq11 vq12 vq13 vq14 vq15 vq16 vq17 vq18 vq19 vq20 vq21 vq22 vq23 vq24 vq25 vq26 vq27 vq28 vq29 vq30 vq31 vq32 vq33 vq34
            clear xq
            simp only [Drawn.acts]
            go_simp
            have HBR := Lib.hid (bstep hbr hb)
            clear hb
            go_at_K
            go_wp2
            go_roundw
            case rel => exact ⟨k + 1, by omega, by go_num, HBR.out⟩
            case measure => simp [intOf] <;> omega
        · obtain rfl : n0 = k := by omega
          have HB13 := Lib.hid (bstep HB12.out hbr)
          have HA13 := Lib.hid (HA12.out.below hbr)
          replace HT := Lib.hid (HT.out.below hbr); replace HXS := Lib.hid (HXS.out.below hbr)
          clear hbr HA12 HXA HXR HXD
          obtain ⟨⟨p0, p1, p2, p3, p4, p5⟩, q0, q1⟩ := HA13.out.eight
          go_wp2
          clear p0 p1 p2 p3 p4 p5 q0 q1
          go_loopw [168] (fun i w2 => ∃ j : Nat, j ≤ z0n ∧ i = .int .i64 j ∧ Below wr.heap.size wr w2) (fun i _ => z0n - (intOf i).toNat)
          case atStart => exact ⟨0, Nat.zero_le _, rfl, Below.refl _ _⟩
          case round =>
            obtain ⟨j, hj, rfl, hbr⟩ := hrel
            rename World => wj
            have hz12 : z0n ≤ 12 := by have := HZL.out; have := HZN.out; omega
            have HB14 := Lib.hid (bstep HB13.out hbr)
            have HA14 := Lib.hid (HA13.out.below hbr)
            by_cases hlt : j < z0n
            · have hjz : j < z0.length := by have := HZN.out; omega
              obtain ⟨b3, o3, rfl, f3⟩ := (Z0.out.below HB14.out).at hjz
              obtain ⟨ma, mb, mk, xg, yg, l1, l2, l3, r1, r2, r3, C1, C2, C3⟩ := HT2.out z0[j] (List.getElem_mem hjz)
              have hap := fun X d V h2 h => HA2'.out mk l3 X d V h2 h
              have hev := fun (k : Nat) X d V h => (r3 k) ▸ HEV2.out (point ((k : Int) + 1)) X d V h
              generalize z0[j] = tj at *
              have HC1b := Lib.hid C1; have HC2b := Lib.hid C2; have HC3b := Lib.hid C3; have HL1 := Lib.hid l1; have HL2 := Lib.hid l2; have HR1 := Lib.hid r1; have HR2 := Lib.hid r2; have HAPB := Lib.hid hap; have HXYB := Lib.hid hev
              have HTJ := Lib.hid (HT.out.below hbr); have HXSJ := Lib.hid (HXS.out.below hbr)
              clear C1 C2 C3 l1 l2 l3 r1 r2 r3 hap hev hjz
              obtain ⟨⟨p0, p1, p2, p3, p4, p5⟩, q0, q1⟩ := HA14.out.eight
              go_wp2_with fail
              refine (HC1b.out _ _ HTJ.out (TP.out.below HB14.out)).mono ?_
              rintro e w15 ⟨Xc, cc, rfl, hx, hb15⟩
              clear p0 p1 p2 p3 p4 p5 q0 q1
              have HXC := Lib.hid hx
              clear hx
              have HB15 := Lib.hid (bstep HB14.out hb15)
              have HA15 := Lib.hid (HA14.out.below hb15)
              replace HTJ := Lib.hid (HTJ.out.below hb15)
              replace HXSJ := Lib.hid (HXSJ.out.below hb15)
              have HBJ := Lib.hid (bstep hbr hb15)
              clear hb15 hbr
              clear f3
              go_wp2_with fail
              refine Drawn.wp_region_flowL 16 [Drawn.SP.is (.pointer (some ⟨w6.heap.size, 0, none⟩)), Drawn.SP.is (.agg #[.int .i64 (n0 : Nat), .int .i64 (t0 : Nat), .int .i64 (l0 : Nat), .int .i64 W, .int .i64 S, .int .i64 R]), Drawn.SP.is (.int .i64 tj), Drawn.SP.is (.slice A2 tn c2), Drawn.SP.is (.pointer (some ⟨w6.heap.size, 0, none⟩)), Drawn.SP.is (.agg #[.int .i64 (n0 : Nat), .int .i64 (t0 : Nat), .int .i64 (l0 : Nat), .int .i64 W, .int .i64 S, .int .i64 R]), Drawn.SP.is (.slice Xs sn ds), Drawn.SP.is (.int .i64 tj), SP.bN mk wd, SP.bt (apply tape 0 mk) tn, SP.rE mb n0 0, SP.rE mb n0 0, SP.rn mb n0, Drawn.SP.is (.int .i64 0), SP.rn mb n0, Drawn.SP.is (.int .i64 0)] (by kernel_rfl) (by kernel_rfl) ?_ ?_
              · intro i hi a wq hb hev hdep
                rcases (show i = 0 ∨ i = 1 ∨ i = 2 ∨ i = 3 ∨ i = 4 ∨ i = 5 ∨ i = 6 ∨ i = 7 ∨ i = 8 ∨ i = 9 ∨ i = 10 ∨ i = 11 ∨ i = 12 ∨ i = 13 ∨ i = 14 ∨ i = 15 by omega) with rfl | rfl | rfl | rfl | rfl | rfl | rfl | rfl | rfl | rfl | rfl | rfl | rfl | rfl | rfl | rfl
                · have e9 : a.tmps[9]?.getD undef = .pointer (some ⟨w6.heap.size, 0, none⟩) := hev 9 rfl
                  refine Drawn.wpOp_flow 181 rfl rfl rfl ?_
                  clear hev hdep hb
                  go_simp
                  exact ⟨_, rfl, rfl, Below.refl _ _⟩
                · have e3 : a.tmps[3]?.getD undef = .pointer (some ⟨w.heap.size, 0, none⟩) := hev 3 rfl
                  refine Drawn.wpOp_flow 182 rfl rfl rfl ?_
                  obtain ⟨⟨p0, p1, p2, p3, p4, p5⟩, q0, q1⟩ := (HA15.out.below hb).eight
                  clear hev hdep hb
                  go_simp
                  exact ⟨_, rfl, rfl, Below.refl _ _⟩
                · have e21 : a.tmps[21]?.getD undef = .int .i64 tj := hev 21 rfl
                  refine Drawn.wpOp_flow 183 rfl rfl rfl ?_
                  clear hev hdep hb
                  go_simp
                  exact ⟨_, rfl, rfl, Below.refl _ _⟩
                · have e8 : a.tmps[8]?.getD undef = .slice A2 tn c2 := hev 8 rfl
                  refine Drawn.wpOp_flow 184 rfl rfl rfl ?_
                  clear hev hdep hb
                  go_simp
                  exact ⟨_, rfl, rfl, Below.refl _ _⟩
                · have e9 : a.tmps[9]?.getD undef = .pointer (some ⟨w6.heap.size, 0, none⟩) := hev 9 rfl
                  refine Drawn.wpOp_flow 185 rfl rfl rfl ?_
                  clear hev hdep hb
                  go_simp
                  exact ⟨_, rfl, rfl, Below.refl _ _⟩
                · have e3 : a.tmps[3]?.getD undef = .pointer (some ⟨w.heap.size, 0, none⟩) := hev 3 rfl
                  refine Drawn.wpOp_flow 186 rfl rfl rfl ?_
                  obtain ⟨⟨p0, p1, p2, p3, p4, p5⟩, q0, q1⟩ := (HA15.out.below hb).eight
                  clear hev hdep hb
                  go_simp
                  exact ⟨_, rfl, rfl, Below.refl _ _⟩
                · have e10 : a.tmps[10]?.getD undef = .slice Xs sn ds := hev 10 rfl
                  refine Drawn.wpOp_flow 187 rfl rfl rfl ?_
                  clear hev hdep hb
                  go_simp
                  exact ⟨_, rfl, rfl, Below.refl _ _⟩
                · have e21 : a.tmps[21]?.getD undef = .int .i64 tj := hev 21 rfl
                  refine Drawn.wpOp_flow 188 rfl rfl rfl ?_
                  clear hev hdep hb
                  go_simp
                  exact ⟨_, rfl, rfl, Below.refl _ _⟩
                · have d4 : a.tmps[185]?.getD undef = .pointer (some ⟨w6.heap.size, 0, none⟩) := hdep 4 rfl
                  have d5 : a.tmps[186]?.getD undef = .agg #[.int .i64 (n0 : Nat), .int .i64 (t0 : Nat), .int .i64 (l0 : Nat), .int .i64 W, .int .i64 S, .int .i64 R] := hdep 5 rfl
                  have d6 : a.tmps[187]?.getD undef = .slice Xs sn ds := hdep 6 rfl
                  have d7 : a.tmps[188]?.getD undef = .int .i64 tj := hdep 7 rfl
                  refine Drawn.wpOp_flow 189 rfl rfl rfl ?_
                  clear hev hdep
                  have C := HC2b.out w6.heap.size Xs ds wq (HTJ.out.below hb) (HXSJ.out.below hb)
                  clear hb
                  go_simp
                  refine C.mono ?_
                  rintro e w' ⟨X, d, rfl, g3, hb'⟩
                  exact ⟨_, rfl, ⟨X, d, rfl, g3⟩, hb'⟩
                · have d3 : a.tmps[184]?.getD undef = .slice A2 tn c2 := hdep 3 rfl
                  obtain ⟨Xm, dm, d8, xm⟩ : (SP.bN mk wd).p (a.tmps[189]?.getD undef) wq := hdep 8 rfl
                  refine Drawn.wpOp_flow 190 rfl rfl rfl ?_
                  clear hev hdep
                  have C := HAPB.out Xm dm wq (TP.out.below (bstep HB15.out hb)) xm
                  clear xm
                  clear hb
                  go_simp
                  refine C.mono ?_
                  rintro e w' ⟨X, d, rfl, g1, g2, g3, hb', _⟩
                  exact ⟨_, rfl, ⟨X, d, rfl, g1, g2, g3⟩, hb'⟩
                · have d0 : a.tmps[181]?.getD undef = .pointer (some ⟨w6.heap.size, 0, none⟩) := hdep 0 rfl
                  have d1 : a.tmps[182]?.getD undef = .agg #[.int .i64 (n0 : Nat), .int .i64 (t0 : Nat), .int .i64 (l0 : Nat), .int .i64 W, .int .i64 S, .int .i64 R] := hdep 1 rfl
                  have d2 : a.tmps[183]?.getD undef = .int .i64 tj := hdep 2 rfl
                  obtain ⟨Xt, dt, d9, xt1, xt2, xt⟩ : (SP.bt (apply tape 0 mk) tn).p (a.tmps[190]?.getD undef) wq := hdep 9 rfl
                  refine Drawn.wpOp_flow 191 rfl rfl rfl ?_
                  clear hev hdep
                  have C := HC3b.out _ Xt dt wq (HTJ.out.below hb) xt xt1 xt2
                  clear xt xt1 xt2
                  clear hb
                  go_simp
                  refine C.mono ?_
                  rintro e w' ⟨X, d, rfl, g3, hb'⟩
                  exact ⟨_, rfl, ⟨X, d, rfl, g3⟩, hb'⟩
                · have d10 := hdep 10 rfl
                  refine Drawn.wpOp_flow 180 rfl rfl rfl ?_
                  clear hev hdep hb
                  go_simp
                  exact ⟨_, rfl, d10, Below.refl _ _⟩
                · obtain ⟨Xr, dr, d11, xr⟩ : (SP.rE mb n0 0).p (a.tmps[180]?.getD undef) wq := hdep 11 rfl
                  refine Drawn.wpOp_flow 192 rfl rfl rfl ?_
                  clear hev hdep
                  clear hb
                  go_simp
                  exact ⟨_, rfl, ⟨Xr, dr, rfl, xr⟩, Below.refl _ _⟩
                · obtain ⟨Xr, dr, d11, xr⟩ : (SP.rE mb n0 0).p (a.tmps[180]?.getD undef) wq := hdep 11 rfl
                  refine Drawn.wpOp_flow 193 rfl rfl rfl ?_
                  clear hev hdep hb
                  go_simp
                  exact ⟨_, rfl, rfl, Below.refl _ _⟩
                · have d12 := hdep 12 rfl
                  refine Drawn.wpOp_flow 24 rfl rfl rfl ?_
                  clear hev hdep hb
                  go_simp
                  exact ⟨_, rfl, d12, Below.refl _ _⟩
                · have d13 : a.tmps[193]?.getD undef = .int .i64 0 := hdep 13 rfl
                  refine Drawn.wpOp_flow 25 rfl rfl rfl ?_
                  clear hev hdep hb
                  go_simp
                  exact ⟨_, rfl, rfl, Below.refl _ _⟩
              · intro xq wq hb hxq
                have vq0 : xq 0 = .pointer (some ⟨w6.heap.size, 0, none⟩) := hxq 0 (by omega)
                have vq1 : xq 1 = .agg #[.int .i64 (n0 : Nat), .int .i64 (t0 : Nat), .int .i64 (l0 : Nat), .int .i64 W, .int .i64 S, .int .i64 R] := hxq 1 (by omega)
                have vq2 : xq 2 = .int .i64 tj := hxq 2 (by omega)
                have vq3 : xq 3 = .slice A2 tn c2 := hxq 3 (by omega)
                have vq4 : xq 4 = .pointer (some ⟨w6.heap.size, 0, none⟩) := hxq 4 (by omega)
                have vq5 : xq 5 = .agg #[.int .i64 (n0 : Nat), .int .i64 (t0 : Nat), .int .i64 (l0 : Nat), .int .i64 W, .int .i64 S, .int .i64 R] := hxq 5 (by omega)
                have vq6 : xq 6 = .slice Xs sn ds := hxq 6 (by omega)
                have vq7 : xq 7 = .int .i64 tj := hxq 7 (by omega)
                have vq13 : xq 13 = .int .i64 0 := hxq 13 (by omega)
                obtain ⟨Xr, dr, vq14, xr⟩ : (SP.rn mb n0).p (xq 14) wq := hxq 14 (by omega)
                have vq15 : xq 15 = .int .i64 0 := hxq 15 (by omega)
                show Exit.then _ _ Exit.normal (Drawn.acts _ [(25, some (xq 15)), (24, some (xq 14)), (193, some (xq 13)), (192, some (xq 12)), (180, some (xq 11)), (191, some (xq 10)), (190, some (xq 9)), (189, some (xq 8)), (188, some (xq 7)), (187, some (xq 6)), (186, some (xq 5)), (185, some (xq 4)), (184, some (xq 3)), (183, some (xq 2)), (182, some (xq 1)), (181, some (xq 0))]) _
                rw [vq0, vq1, vq2, vq3, vq4, vq5, vq6, vq7, vq13, vq14, vq15]
                clear hxq vq0 vq1 vq2 vq3 vq4 vq5 vq6 vq7 vq13 vq14 vq15
                generalize xq 8 = yq8
                generalize xq 9 = yq9
                generalize xq 10 = yq10
                generalize xq 11 = yq11
                generalize xq 12 = yq12
                clear xq
                simp only [Drawn.acts]
                go_simp
                have HB16 := Lib.hid (bstep HB15.out hb)
                have HA16 := Lib.hid (HA15.out.below hb)
                have HBJ2 := Lib.hid (bstep HBJ.out hb)
                replace HXSJ := Lib.hid (HXSJ.out.below hb); replace HXC := Lib.hid (HXC.out.below hb)
                have HXR := Lib.hid xr
                clear xr hb HBJ
                go_at_K
                obtain ⟨⟨p0, p1, p2, p3, p4, p5⟩, q0, q1⟩ := HA16.out.eight
                go_wp2
                clear p0 p1 p2 p3 p4 p5 q0 q1
                go_loopw [216] (fun i wr => ∃ k : Nat, k ≤ n0 ∧ i = .int .i64 k ∧ Below wq.heap.size wq wr) (fun i _ => n0 - (intOf i).toNat)
                case atStart => exact ⟨0, Nat.zero_le _, rfl, Below.refl _ _⟩
                case round =>
                  obtain ⟨k, hk, rfl, hbr⟩ := hrel
                  rename World => wr
                  by_cases hlt : k < n0
                  · have ga : k < ma.length := by have := HL1.out; omega
                    have gb : k < mb.length := by have := HL2.out; omega
                    obtain ⟨ba, oa, ra, rx, rc, rfl, fa, rc1, fx⟩ := one_row (HXC.out.below hbr) ga (HR1.out k ga)
                    obtain ⟨bb, ob, rb, ry, rd, rfl, fb, rd1, fy⟩ := one_row (HXR.out.below hbr) gb (HR2.out k gb)
                    have i1 : IntKind.i64.wrap ((k : Int) + 1) = (k : Int) + 1 := IntWalk.i64_in _ (by omega)
                    have hpt := fun V => R08.point_any ((k : Int) + 1) V
                    have hev := fun V (h : Below wr.heap.size wr V) => HXYB.out k Xs ds V (HXSJ.out.below (bstep hbr h))
                    generalize point ((k : Int) + 1) = pt at *
                    generalize xg k = x at *
                    generalize yg k = y at *
                    have HPT := Lib.hid hpt; have HEV := Lib.hid hev
                    clear hpt hev ga gb
                    go_wp2_with fail
                    refine Drawn.wp_region_flowL 35 [Drawn.SP.is (.slice (some ⟨ba, oa, none⟩) n0 cc), Drawn.SP.is (.int .i64 (k : Nat)), Drawn.SP.is (.pointer (some ⟨ba, oa + k, none⟩)), Drawn.SP.is (.slice (some ⟨ra, rx, none⟩) 1 rc), Drawn.SP.is (.int .i64 1), Drawn.SP.is (.bool false), Drawn.SP.is (.bool false), Drawn.SP.is (.slice (some ⟨bb, ob, none⟩) n0 dr), Drawn.SP.is (.int .i64 (k : Nat)), Drawn.SP.is (.pointer (some ⟨bb, ob + k, none⟩)), Drawn.SP.is (.slice (some ⟨rb, ry, none⟩) 1 rd), Drawn.SP.is (.int .i64 1), Drawn.SP.is (.bool false), Drawn.SP.is (.bool false), Drawn.SP.is (.bool false), Drawn.SP.is (.slice (some ⟨ba, oa, none⟩) n0 cc), Drawn.SP.is (.int .i64 (k : Nat)), Drawn.SP.is (.pointer (some ⟨ba, oa + k, none⟩)), Drawn.SP.is (.slice (some ⟨ra, rx, none⟩) 1 rc), Drawn.SP.is (.pointer (some ⟨ra, rx, none⟩)), Drawn.SP.is (.int .u8 (x.toNat : Nat)), Drawn.SP.is (.slice (some ⟨bb, ob, none⟩) n0 dr), Drawn.SP.is (.int .i64 (k : Nat)), Drawn.SP.is (.pointer (some ⟨bb, ob + k, none⟩)), Drawn.SP.is (.slice (some ⟨rb, ry, none⟩) 1 rd), Drawn.SP.is (.pointer (some ⟨rb, ry, none⟩)), Drawn.SP.is (.int .u8 (y.toNat : Nat)), Drawn.SP.is (.int .u8 ((GfM.add x y).toNat : Nat)), Drawn.SP.is (.slice Xs sn ds), Drawn.SP.is (.int .i64 (k : Nat)), Drawn.SP.is (.int .i64 ((k : Int) + 1)), Drawn.SP.is (.int .u8 (pt.toNat : Nat)), Drawn.SP.is (.int .u8 ((GfM.add x y).toNat : Nat)), Drawn.SP.is (.bool false), Drawn.SP.is (.bool false)] (by kernel_rfl) (by kernel_rfl) ?_ ?_
                    · intro i hi a wq hb hev hdep
                      rcases (show i = 0 ∨ i = 1 ∨ i = 2 ∨ i = 3 ∨ i = 4 ∨ i = 5 ∨ i = 6 ∨ i = 7 ∨ i = 8 ∨ i = 9 ∨ i = 10 ∨ i = 11 ∨ i = 12 ∨ i = 13 ∨ i = 14 ∨ i = 15 ∨ i = 16 ∨ i = 17 ∨ i = 18 ∨ i = 19 ∨ i = 20 ∨ i = 21 ∨ i = 22 ∨ i = 23 ∨ i = 24 ∨ i = 25 ∨ i = 26 ∨ i = 27 ∨ i = 28 ∨ i = 29 ∨ i = 30 ∨ i = 31 ∨ i = 32 ∨ i = 33 ∨ i = 34 by omega) with rfl | rfl | rfl | rfl | rfl | rfl | rfl | rfl | rfl | rfl | rfl | rfl | rfl | rfl | rfl | rfl | rfl | rfl | rfl | rfl | rfl | rfl | rfl | rfl | rfl | rfl | rfl | rfl | rfl | rfl | rfl | rfl | rfl | rfl | rfl
                      · have e22 : a.tmps[22]?.getD undef = .slice (some ⟨ba, oa, none⟩) n0 cc := hev 22 rfl
                        refine Drawn.wpOp_flow 219 rfl rfl rfl ?_
                        clear hev hdep hb
                        go_simp
                        exact ⟨_, rfl, rfl, Below.refl _ _⟩
                      · have e26 : a.tmps[26]?.getD undef = .int .i64 (k : Nat) := hev 26 rfl
                        refine Drawn.wpOp_flow 220 rfl rfl rfl ?_
                        clear hev hdep hb
                        go_simp
                        exact ⟨_, rfl, rfl, Below.refl _ _⟩
                      · have d0 : a.tmps[219]?.getD undef = .slice (some ⟨ba, oa, none⟩) n0 cc := hdep 0 rfl
                        have d1 : a.tmps[220]?.getD undef = .int .i64 (k : Nat) := hdep 1 rfl
                        refine Drawn.wpOp_flow 221 rfl rfl rfl ?_
                        clear hev hdep hb
                        go_simp
                        exact ⟨_, rfl, rfl, Below.refl _ _⟩
                      · have d2 : a.tmps[221]?.getD undef = .pointer (some ⟨ba, oa + k, none⟩) := hdep 2 rfl
                        refine Drawn.wpOp_flow 222 rfl rfl rfl ?_
                        have ga := (hb.cell (p := ⟨ba, oa + k, none⟩) (cell_lt fa)).trans fa
                        have gx := (hb.cell (p := ⟨ra, rx, none⟩) (cell_lt fx)).trans fx
                        have gb := (hb.cell (p := ⟨bb, ob + k, none⟩) (cell_lt fb)).trans fb
                        have gy := (hb.cell (p := ⟨rb, ry, none⟩) (cell_lt fy)).trans fy
                        clear hev hdep hb
                        go_simp
                        exact ⟨_, rfl, rfl, Below.refl _ _⟩
                      · have d3 : a.tmps[222]?.getD undef = .slice (some ⟨ra, rx, none⟩) 1 rc := hdep 3 rfl
                        refine Drawn.wpOp_flow 223 rfl rfl rfl ?_
                        clear hev hdep hb
                        go_simp
                        exact ⟨_, rfl, rfl, Below.refl _ _⟩
                      · have d4 : a.tmps[223]?.getD undef = .int .i64 1 := hdep 4 rfl
                        refine Drawn.wpOp_flow 224 rfl rfl rfl ?_
                        clear hev hdep hb
                        go_simp
                        exact ⟨_, rfl, rfl, Below.refl _ _⟩
                      · have d5 : a.tmps[224]?.getD undef = .bool false := hdep 5 rfl
                        refine Drawn.wpOp_flow 225 rfl rfl rfl ?_
                        clear hev hdep hb
                        go_simp
                        exact ⟨_, rfl, rfl, Below.refl _ _⟩
                      · have e24 : a.tmps[24]?.getD undef = .slice (some ⟨bb, ob, none⟩) n0 dr := hev 24 rfl
                        have dg : a.tmps[225]?.getD undef = .bool false := hdep 6 rfl
                        refine Drawn.wpOp_flow 226 rfl (Drawn.wanted_of rfl rfl rfl dg) rfl ?_
                        clear dg
                        clear hev hdep hb
                        go_simp
                        exact ⟨_, rfl, rfl, Below.refl _ _⟩
                      · have e26 : a.tmps[26]?.getD undef = .int .i64 (k : Nat) := hev 26 rfl
                        have dg : a.tmps[225]?.getD undef = .bool false := hdep 6 rfl
                        refine Drawn.wpOp_flow 227 rfl (Drawn.wanted_of rfl rfl rfl dg) rfl ?_
                        clear dg
                        clear hev hdep hb
                        go_simp
                        exact ⟨_, rfl, rfl, Below.refl _ _⟩
                      · have d7 : a.tmps[226]?.getD undef = .slice (some ⟨bb, ob, none⟩) n0 dr := hdep 7 rfl
                        have d8 : a.tmps[227]?.getD undef = .int .i64 (k : Nat) := hdep 8 rfl
                        have dg : a.tmps[225]?.getD undef = .bool false := hdep 6 rfl
                        refine Drawn.wpOp_flow 228 rfl (Drawn.wanted_of rfl rfl rfl dg) rfl ?_
                        clear dg
                        clear hev hdep hb
                        go_simp
                        exact ⟨_, rfl, rfl, Below.refl _ _⟩
                      · have d9 : a.tmps[228]?.getD undef = .pointer (some ⟨bb, ob + k, none⟩) := hdep 9 rfl
                        have dg : a.tmps[225]?.getD undef = .bool false := hdep 6 rfl
                        refine Drawn.wpOp_flow 229 rfl (Drawn.wanted_of rfl rfl rfl dg) rfl ?_
                        have ga := (hb.cell (p := ⟨ba, oa + k, none⟩) (cell_lt fa)).trans fa
                        have gx := (hb.cell (p := ⟨ra, rx, none⟩) (cell_lt fx)).trans fx
                        have gb := (hb.cell (p := ⟨bb, ob + k, none⟩) (cell_lt fb)).trans fb
                        have gy := (hb.cell (p := ⟨rb, ry, none⟩) (cell_lt fy)).trans fy
                        clear dg
                        clear hev hdep hb
                        go_simp
                        exact ⟨_, rfl, rfl, Below.refl _ _⟩
                      · have d10 : a.tmps[229]?.getD undef = .slice (some ⟨rb, ry, none⟩) 1 rd := hdep 10 rfl
                        have dg : a.tmps[225]?.getD undef = .bool false := hdep 6 rfl
                        refine Drawn.wpOp_flow 230 rfl (Drawn.wanted_of rfl rfl rfl dg) rfl ?_
                        clear dg
                        clear hev hdep hb
                        go_simp
                        exact ⟨_, rfl, rfl, Below.refl _ _⟩
                      · have d11 : a.tmps[230]?.getD undef = .int .i64 1 := hdep 11 rfl
                        have dg : a.tmps[225]?.getD undef = .bool false := hdep 6 rfl
                        refine Drawn.wpOp_flow 231 rfl (Drawn.wanted_of rfl rfl rfl dg) rfl ?_
                        clear dg
                        clear hev hdep hb
                        go_simp
                        exact ⟨_, rfl, rfl, Below.refl _ _⟩
                      · have d6 : a.tmps[225]?.getD undef = .bool false := hdep 6 rfl
                        have d12 : a.tmps[231]?.getD undef = .bool false := hdep 12 rfl
                        refine Drawn.wpOp_flow 232 rfl rfl rfl ?_
                        clear hev hdep hb
                        go_simp
                        exact ⟨_, rfl, rfl, Below.refl _ _⟩
                      · have d13 : a.tmps[232]?.getD undef = .bool false := hdep 13 rfl
                        refine Drawn.wpOp_flow 233 rfl rfl rfl ?_
                        clear hev hdep hb
                        go_simp
                        exact ⟨_, rfl, rfl, Below.refl _ _⟩
                      · have e22 : a.tmps[22]?.getD undef = .slice (some ⟨ba, oa, none⟩) n0 cc := hev 22 rfl
                        have dg : a.tmps[233]?.getD undef = .bool false := hdep 14 rfl
                        refine Drawn.wpOp_flow 234 rfl (Drawn.wanted_of rfl rfl rfl dg) rfl ?_
                        clear dg
                        clear hev hdep hb
                        go_simp
                        exact ⟨_, rfl, rfl, Below.refl _ _⟩
                      · have e26 : a.tmps[26]?.getD undef = .int .i64 (k : Nat) := hev 26 rfl
                        have dg : a.tmps[233]?.getD undef = .bool false := hdep 14 rfl
                        refine Drawn.wpOp_flow 235 rfl (Drawn.wanted_of rfl rfl rfl dg) rfl ?_
                        clear dg
                        clear hev hdep hb
                        go_simp
                        exact ⟨_, rfl, rfl, Below.refl _ _⟩
                      · have d15 : a.tmps[234]?.getD undef = .slice (some ⟨ba, oa, none⟩) n0 cc := hdep 15 rfl
                        have d16 : a.tmps[235]?.getD undef = .int .i64 (k : Nat) := hdep 16 rfl
                        have dg : a.tmps[233]?.getD undef = .bool false := hdep 14 rfl
                        refine Drawn.wpOp_flow 236 rfl (Drawn.wanted_of rfl rfl rfl dg) rfl ?_
                        clear dg
                        clear hev hdep hb
                        go_simp
                        exact ⟨_, rfl, rfl, Below.refl _ _⟩
                      · have d17 : a.tmps[236]?.getD undef = .pointer (some ⟨ba, oa + k, none⟩) := hdep 17 rfl
                        have dg : a.tmps[233]?.getD undef = .bool false := hdep 14 rfl
                        refine Drawn.wpOp_flow 237 rfl (Drawn.wanted_of rfl rfl rfl dg) rfl ?_
                        have ga := (hb.cell (p := ⟨ba, oa + k, none⟩) (cell_lt fa)).trans fa
                        have gx := (hb.cell (p := ⟨ra, rx, none⟩) (cell_lt fx)).trans fx
                        have gb := (hb.cell (p := ⟨bb, ob + k, none⟩) (cell_lt fb)).trans fb
                        have gy := (hb.cell (p := ⟨rb, ry, none⟩) (cell_lt fy)).trans fy
                        clear dg
                        clear hev hdep hb
                        go_simp
                        exact ⟨_, rfl, rfl, Below.refl _ _⟩
                      · have d18 : a.tmps[237]?.getD undef = .slice (some ⟨ra, rx, none⟩) 1 rc := hdep 18 rfl
                        have dg : a.tmps[233]?.getD undef = .bool false := hdep 14 rfl
                        refine Drawn.wpOp_flow 238 rfl (Drawn.wanted_of rfl rfl rfl dg) rfl ?_
                        clear dg
                        clear hev hdep hb
                        go_simp
                        exact ⟨_, rfl, rfl, Below.refl _ _⟩
                      · have d19 : a.tmps[238]?.getD undef = .pointer (some ⟨ra, rx, none⟩) := hdep 19 rfl
                        have dg : a.tmps[233]?.getD undef = .bool false := hdep 14 rfl
                        refine Drawn.wpOp_flow 239 rfl (Drawn.wanted_of rfl rfl rfl dg) rfl ?_
                        have ga := (hb.cell (p := ⟨ba, oa + k, none⟩) (cell_lt fa)).trans fa
                        have gx := (hb.cell (p := ⟨ra, rx, none⟩) (cell_lt fx)).trans fx
                        have gb := (hb.cell (p := ⟨bb, ob + k, none⟩) (cell_lt fb)).trans fb
                        have gy := (hb.cell (p := ⟨rb, ry, none⟩) (cell_lt fy)).trans fy
                        clear dg
                        clear hev hdep hb
                        go_simp
                        exact ⟨_, rfl, rfl, Below.refl _ _⟩
                      · have e24 : a.tmps[24]?.getD undef = .slice (some ⟨bb, ob, none⟩) n0 dr := hev 24 rfl
                        have dg : a.tmps[233]?.getD undef = .bool false := hdep 14 rfl
                        refine Drawn.wpOp_flow 240 rfl (Drawn.wanted_of rfl rfl rfl dg) rfl ?_
                        clear dg
                        clear hev hdep hb
                        go_simp
                        exact ⟨_, rfl, rfl, Below.refl _ _⟩
                      · have e26 : a.tmps[26]?.getD undef = .int .i64 (k : Nat) := hev 26 rfl
                        have dg : a.tmps[233]?.getD undef = .bool false := hdep 14 rfl
                        refine Drawn.wpOp_flow 241 rfl (Drawn.wanted_of rfl rfl rfl dg) rfl ?_
                        clear dg
                        clear hev hdep hb
                        go_simp
                        exact ⟨_, rfl, rfl, Below.refl _ _⟩
                      · have d21 : a.tmps[240]?.getD undef = .slice (some ⟨bb, ob, none⟩) n0 dr := hdep 21 rfl
                        have d22 : a.tmps[241]?.getD undef = .int .i64 (k : Nat) := hdep 22 rfl
                        have dg : a.tmps[233]?.getD undef = .bool false := hdep 14 rfl
                        refine Drawn.wpOp_flow 242 rfl (Drawn.wanted_of rfl rfl rfl dg) rfl ?_
                        clear dg
                        clear hev hdep hb
                        go_simp
                        exact ⟨_, rfl, rfl, Below.refl _ _⟩
                      · have d23 : a.tmps[242]?.getD undef = .pointer (some ⟨bb, ob + k, none⟩) := hdep 23 rfl
                        have dg : a.tmps[233]?.getD undef = .bool false := hdep 14 rfl
                        refine Drawn.wpOp_flow 243 rfl (Drawn.wanted_of rfl rfl rfl dg) rfl ?_
                        have ga := (hb.cell (p := ⟨ba, oa + k, none⟩) (cell_lt fa)).trans fa
                        have gx := (hb.cell (p := ⟨ra, rx, none⟩) (cell_lt fx)).trans fx
                        have gb := (hb.cell (p := ⟨bb, ob + k, none⟩) (cell_lt fb)).trans fb
                        have gy := (hb.cell (p := ⟨rb, ry, none⟩) (cell_lt fy)).trans fy
                        clear dg
                        clear hev hdep hb
                        go_simp
                        exact ⟨_, rfl, rfl, Below.refl _ _⟩
                      · have d24 : a.tmps[243]?.getD undef = .slice (some ⟨rb, ry, none⟩) 1 rd := hdep 24 rfl
                        have dg : a.tmps[233]?.getD undef = .bool false := hdep 14 rfl
                        refine Drawn.wpOp_flow 244 rfl (Drawn.wanted_of rfl rfl rfl dg) rfl ?_
                        clear dg
                        clear hev hdep hb
                        go_simp
                        exact ⟨_, rfl, rfl, Below.refl _ _⟩
                      · have d25 : a.tmps[244]?.getD undef = .pointer (some ⟨rb, ry, none⟩) := hdep 25 rfl
                        have dg : a.tmps[233]?.getD undef = .bool false := hdep 14 rfl
                        refine Drawn.wpOp_flow 245 rfl (Drawn.wanted_of rfl rfl rfl dg) rfl ?_
                        have ga := (hb.cell (p := ⟨ba, oa + k, none⟩) (cell_lt fa)).trans fa
                        have gx := (hb.cell (p := ⟨ra, rx, none⟩) (cell_lt fx)).trans fx
                        have gb := (hb.cell (p := ⟨bb, ob + k, none⟩) (cell_lt fb)).trans fb
                        have gy := (hb.cell (p := ⟨rb, ry, none⟩) (cell_lt fy)).trans fy
                        clear dg
                        clear hev hdep hb
                        go_simp
                        exact ⟨_, rfl, rfl, Below.refl _ _⟩
                      · have d20 : a.tmps[239]?.getD undef = .int .u8 (x.toNat : Nat) := hdep 20 rfl
                        have d26 : a.tmps[245]?.getD undef = .int .u8 (y.toNat : Nat) := hdep 26 rfl
                        have dg : a.tmps[233]?.getD undef = .bool false := hdep 14 rfl
                        refine Drawn.wpOp_flow 246 rfl (Drawn.wanted_of rfl rfl rfl dg) rfl ?_
                        clear dg
                        clear hev hdep hb
                        go_simp
                        exact ⟨_, rfl, rfl, Below.refl _ _⟩
                      · have e10 : a.tmps[10]?.getD undef = .slice Xs sn ds := hev 10 rfl
                        have dg : a.tmps[233]?.getD undef = .bool false := hdep 14 rfl
                        refine Drawn.wpOp_flow 247 rfl (Drawn.wanted_of rfl rfl rfl dg) rfl ?_
                        clear dg
                        clear hev hdep hb
                        go_simp
                        exact ⟨_, rfl, rfl, Below.refl _ _⟩
                      · have e26 : a.tmps[26]?.getD undef = .int .i64 (k : Nat) := hev 26 rfl
                        have dg : a.tmps[233]?.getD undef = .bool false := hdep 14 rfl
                        refine Drawn.wpOp_flow 248 rfl (Drawn.wanted_of rfl rfl rfl dg) rfl ?_
                        clear dg
                        clear hev hdep hb
                        go_simp
                        exact ⟨_, rfl, rfl, Below.refl _ _⟩
                      · have d29 : a.tmps[248]?.getD undef = .int .i64 (k : Nat) := hdep 29 rfl
                        have dg : a.tmps[233]?.getD undef = .bool false := hdep 14 rfl
                        refine Drawn.wpOp_flow 249 rfl (Drawn.wanted_of rfl rfl rfl dg) rfl ?_
                        clear dg
                        clear hev hdep hb
                        go_simp
                        exact ⟨_, rfl, rfl, Below.refl _ _⟩
                      · have d30 : a.tmps[249]?.getD undef = .int .i64 ((k : Int) + 1) := hdep 30 rfl
                        have dg : a.tmps[233]?.getD undef = .bool false := hdep 14 rfl
                        refine Drawn.wpOp_flow 250 rfl (Drawn.wanted_of rfl rfl rfl dg) rfl ?_
                        clear hev hdep
                        clear dg hb
                        go_simp
                        refine (HPT.out wq).mono ?_
                        rintro e w' ⟨rfl, rfl⟩
                        exact ⟨_, rfl, rfl, Below.refl _ _⟩
                      · have d28 : a.tmps[247]?.getD undef = .slice Xs sn ds := hdep 28 rfl
                        have d31 : a.tmps[250]?.getD undef = .int .u8 (pt.toNat : Nat) := hdep 31 rfl
                        have dg : a.tmps[233]?.getD undef = .bool false := hdep 14 rfl
                        refine Drawn.wpOp_flow 251 rfl (Drawn.wanted_of rfl rfl rfl dg) rfl ?_
                        clear hev hdep
                        have C := HEV.out wq (hb)
                        clear dg hb
                        go_simp
                        refine C.mono ?_
                        rintro e w' ⟨rfl, rfl⟩
                        exact ⟨_, rfl, rfl, Below.refl _ _⟩
                      · have d27 : a.tmps[246]?.getD undef = .int .u8 ((GfM.add x y).toNat : Nat) := hdep 27 rfl
                        have d32 : a.tmps[251]?.getD undef = .int .u8 ((GfM.add x y).toNat : Nat) := hdep 32 rfl
                        have dg : a.tmps[233]?.getD undef = .bool false := hdep 14 rfl
                        refine Drawn.wpOp_flow 252 rfl (Drawn.wanted_of rfl rfl rfl dg) rfl ?_
                        clear dg
                        clear hev hdep hb
                        go_simp
                        exact ⟨_, rfl, rfl, Below.refl _ _⟩
                      · have d14 : a.tmps[233]?.getD undef = .bool false := hdep 14 rfl
                        have d33 : a.tmps[252]?.getD undef = .bool false := hdep 33 rfl
                        refine Drawn.wpOp_flow 253 rfl rfl rfl ?_
                        clear hev hdep hb
                        go_simp
                        exact ⟨_, rfl, rfl, Below.refl _ _⟩
                    · intro xq wq hb hxq
                      have vq0 : xq 0 = .slice (some ⟨ba, oa, none⟩) n0 cc := hxq 0 (by omega)
                      have vq1 : xq 1 = .int .i64 (k : Nat) := hxq 1 (by omega)
                      have vq2 : xq 2 = .pointer (some ⟨ba, oa + k, none⟩) := hxq 2 (by omega)
                      have vq3 : xq 3 = .slice (some ⟨ra, rx, none⟩) 1 rc := hxq 3 (by omega)
                      have vq4 : xq 4 = .int .i64 1 := hxq 4 (by omega)
                      have vq5 : xq 5 = .bool false := hxq 5 (by omega)
                      have vq6 : xq 6 = .bool false := hxq 6 (by omega)
                      have vq7 : xq 7 = .slice (some ⟨bb, ob, none⟩) n0 dr := hxq 7 (by omega)
                      have vq8 : xq 8 = .int .i64 (k : Nat) := hxq 8 (by omega)
                      have vq9 : xq 9 = .pointer (some ⟨bb, ob + k, none⟩) := hxq 9 (by omega)
                      have vq10 : xq 10 = .slice (some ⟨rb, ry, none⟩) 1 rd := hxq 10 (by omega)
                      have vq11 : xq 11 = .int .i64 1 := hxq 11 (by omega)
                      have vq12 : xq 12 = .bool false := hxq 12 (by omega)
                      have vq13 : xq 13 = .bool false := hxq 13 (by omega)
                      have vq14 : xq 14 = .bool false := hxq 14 (by omega)
                      have vq15 : xq 15 = .slice (some ⟨ba, oa, none⟩) n0 cc := hxq 15 (by omega)
                      have vq16 : xq 16 = .int .i64 (k : Nat) := hxq 16 (by omega)
                      have vq17 : xq 17 = .pointer (some ⟨ba, oa + k, none⟩) := hxq 17 (by omega)
                      have vq18 : xq 18 = .slice (some ⟨ra, rx, none⟩) 1 rc := hxq 18 (by omega)
                      have vq19 : xq 19 = .pointer (some ⟨ra, rx, none⟩) := hxq 19 (by omega)
                      have vq20 : xq 20 = .int .u8 (x.toNat : Nat) := hxq 20 (by omega)
                      have vq21 : xq 21 = .slice (some ⟨bb, ob, none⟩) n0 dr := hxq 21 (by omega)
                      have vq22 : xq 22 = .int .i64 (k : Nat) := hxq 22 (by omega)
                      have vq23 : xq 23 = .pointer (some ⟨bb, ob + k, none⟩) := hxq 23 (by omega)
                      have vq24 : xq 24 = .slice (some ⟨rb, ry, none⟩) 1 rd := hxq 24 (by omega)
                      have vq25 : xq 25 = .pointer (some ⟨rb, ry, none⟩) := hxq 25 (by omega)
                      have vq26 : xq 26 = .int .u8 (y.toNat : Nat) := hxq 26 (by omega)
                      have vq27 : xq 27 = .int .u8 ((GfM.add x y).toNat : Nat) := hxq 27 (by omega)
                      have vq28 : xq 28 = .slice Xs sn ds := hxq 28 (by omega)
                      have vq29 : xq 29 = .int .i64 (k : Nat) := hxq 29 (by omega)
                      have vq30 : xq 30 = .int .i64 ((k : Int) + 1) := hxq 30 (by omega)
                      have vq31 : xq 31 = .int .u8 (pt.toNat : Nat) := hxq 31 (by omega)
                      have vq32 : xq 32 = .int .u8 ((GfM.add x y).toNat : Nat) := hxq 32 (by omega)
                      have vq33 : xq 33 = .bool false := hxq 33 (by omega)
                      have vq34 : xq 34 = .bool false := hxq 34 (by omega)
                      show Exit.then _ _ Exit.normal (Drawn.acts _ [(253, some (xq 34)), (252, some (xq 33)), (251, some (xq 32)), (250, some (xq 31)), (249, some (xq 30)), (248, some (xq 29)), (247, some (xq 28)), (246, some (xq 27)), (245, some (xq 26)), (244, some (xq 25)), (243, some (xq 24)), (242, some (xq 23)), (241, some (xq 22)), (240, some (xq 21)), (239, some (xq 20)), (238, some (xq 19)), (237, some (xq 18)), (236, some (xq 17)), (235, some (xq 16)), (234, some (xq 15)), (233, some (xq 14)), (232, some (xq 13)), (231, some (xq 12)), (230, some (xq 11)), (229, some (xq 10)), (228, some (xq 9)), (227, some (xq 8)), (226, some (xq 7)), (225, some (xq 6)), (224, some (xq 5)), (223, some (xq 4)), (222, some (xq 3)), (221, some (xq 2)), (220, some (xq 1)), (219, some (xq 0))]) _
                      rw [vq0, vq1, vq2, vq3, vq4, vq5, vq6, vq7, vq8, vq9, vq10, vq11, vq12, vq13, vq14, vq15, vq16, vq17, vq18, vq19, vq20, vq21, vq22, vq23, vq24, vq25, vq26, vq27, vq28, vq29, vq30, vq31, vq32, vq33, vq34]
                      clear hxq vq0 vq1 vq2 vq3 vq4 vq5 vq6 vq7 vq8 vq9 vq10 vq11 vq12 vq13 vq14 vq15 vq16 vq17 vq18 vq19 vq20 vq21 vq22 vq23 vq24 vq25 vq26 vq27 vq28 vq29 vq30 vq31 vq32 vq33 vq34
                      clear xq
                      simp only [Drawn.acts]
                      go_simp
                      have HBR := Lib.hid (bstep hbr hb)
                      clear hb
                      go_at_K
                      go_wp2
                      go_roundw
                      case rel => exact ⟨k + 1, by omega, by go_num, HBR.out⟩
                      case measure => simp [intOf] <;> omega
                  · obtain rfl : n0 = k := by omega
                    have HBF := Lib.hid (bstep HBJ2.out hbr)
                    clear hbr
                    go_wp2
                    go_roundw
                    case rel => exact ⟨j + 1, by omega, by go_num, HBF.out⟩
                    case measure => simp [intOf] <;> omega
            · obtain rfl : j = z0n := by omega
              clear hbr
              go_wp2_with fail
              refine (alive_any _).mono ?_
              rintro e w9 ⟨rfl, hb9⟩
              go_wp2
              go_ret
              exact ⟨rfl, bstep HB14.out hb9⟩
end Go.Proofs.Ytompeiemioeohaa.Law14
