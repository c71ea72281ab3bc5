/- the walk of CompactPacks -/
import Derived.Test.YthmllbijfgimcaaLaw23
set_option maxRecDepth 100000
set_option maxHeartbeats 4000000
namespace Go.Proofs.Ythmllbijfgimcaa.Law23
open Go.RowKit CptM Pairs Trips Compact

theorem wpList_append_fresh {t e : TypeId} {i : TypeInfo} {z : Value} {bytes : Nat} (ht : Try.prog.underlying t = some (.slice e)) (hi : Try.prog.info? e = some i) (hz : i.zero = some z) (hsize : i.size = 2) (hby : i.bytes = bytes) (hzs : z.cells.size = 2)
    {ops : Array Oper} {rest : List Oper} {o : Oper} {a : Act} {w : World} {Q : Exit → Act → World → Prop} (hgd : o.guard = none) (s x : Operand)
    (ho : o.op = .call { callee := .builtin .append, args := #[s, x], argTypes := #[t, t] })
    (base g : Nat) (hs : a.eval s = .slice (some ⟨g, 0, none⟩) 0 0) (hg : w.heap[g]? = some (.cells #[] e (0, 0))) (hbg : base ≤ g) (A : Option Addr) (m c : Nat) (ys : List I2) (hx : a.eval x = .slice A m c) (hy : ys.length = m) (hA : PairsAt w A ys)
    (hl : m < 1099511627776) (hb : bytes ≤ 64) (hbase : base ≤ w.heap.size)
    (h : ∀ v' w', OwnPr w' base e v' ys → Below w.heap.size w w' → wpList Try.prog ops Q rest (a.put o.dst v') w') : wpList Try.prog ops Q (o :: rest) a w :=
  wpList_plain hgd fun _ hK => wp_append_fresh ht hi hz hsize hby hzs s x ho base g hs hg hbg A m c ys hx hy hA hl hb hbase fun v' w' h1 h2 => hK _ _ (h v' w' h1 h2)
theorem in_packed {l : List I2} (h : Apart l) (k : Nat) : R23.InL (packed l k) := fun r hr => by
  have := (packed_apart h k).1 r hr
  unfold In at this
  unfold R23.In64
  omega
/-- between two moves: the runs as they lie now -/
structure Nw (w w5 : World) (base : Nat) (v : Value) (l : List I2) (k : Nat) (wr : World) : Prop where
  own : OwnPr wr base 32 v (packed l k)
  keep : Keeps (fun k => v.ownBlock = some k) w5 wr
  below : Below w.heap.size w wr
section
variable {w w5 wr W : World} {base k : Nat} {v : Value} {l : List I2}
theorem Nw.more (h : Nw w w5 base v l k wr) (hb : Below wr.heap.size wr W) : Nw w w5 base v l k W :=
  ⟨h.own.below hb, h.keep.trans (.of_below _ hb), h.below.trans (hb.mono h.below.size)⟩
theorem Nw.set {g n c : Nat} (h : Nw w w5 base (.slice (some ⟨g, 0, none⟩) n c) l k wr) (hw : w.heap.size ≤ base) (hk : k < l.length) : Nw w w5 base (.slice (some ⟨g, 0, none⟩) n c) l (k + 1) (wr.setCell ⟨g, k * 2, none⟩ (.int .i64 (to l k))) := by
  have hk2 : k < (packed l k).length := by rw [packed_len]; exact hk
  have h1 := h.own.set1 hk2 (to l k)
  rw [packed_here l k hk, ← packed_succ l k hk] at h1
  have hge := (h.own.lt g rfl).1
  exact ⟨h1, h.keep.trans (.set _ _ _ _ rfl), below_keeps (F := fun k => k = g) h.below (.set _ _ _ _ rfl) (fun j e => by omega) h.below.size⟩
theorem Nw.form (h : Nw w w5 base v l k wr) (h0 : 0 < l.length) : ∃ g c, v = .slice (some ⟨g, 0, none⟩) l.length c ∧ base ≤ g := by
  rcases h.own.2 with ⟨e, hn⟩ | ⟨g, cap, cur, e, hb, _⟩
  · rw [packed_len] at hn; omega
  · rw [packed_len] at e
    exact ⟨g, cap, e, hb⟩
end
theorem packs_law (A : Option Addr) (l : List I2) (c : Nat) (w : World) (hA : PairsAt w A l ∧ Compact.InL l) (h1 : l.length ≤ c) (h2 : c ≤ maxLen) :
    Calls Try.prog 4 #[.slice A l.length c] w fun e w' => e = .returned (.bool true) ∧ Below w.heap.size w w' := by
  obtain ⟨hA, hin⟩ := hA
  have AL := Lib.hid alive_any
  by_cases hlong : 60 < l.length
  · have hlong' : (60 : Int) < (l.length : Int) := by omega
    clear hA hin
    generalize l.length = ll at *
    go_enter Try.func4, Try.ntmps4
    go_wp2_with fail
    refine (AL.out _).mono ?_
    rintro e w1 ⟨rfl, hb1⟩
    have HB1 := Lib.hid hb1
    clear hb1
    go_wp2
    go_ret
    exact ⟨rfl, HB1.out⟩
  have hlong' : ¬ (60 : Int) < (l.length : Int) := by omega
  have HA := Lib.hid hA
  have HIN := Lib.hid hin
  have C1 := Lib.hid (R23.apart_any A l c w hA hin h1 h2)
  have C2 := Lib.hid (fun W (hb : Below w.heap.size w W) => as_any A l c W (hA.below hb) h1 h2 (by omega))
  have C4 := Lib.hid (fun W (A' : Option Addr) (c' : Nat) (hA' : PairsAt W A' l) (q1 : l.length ≤ c') (q2 : c' ≤ maxLen) => Compact.moves_any A' l c' W hA' hin q1 q2)
  by_cases hap : Apart l
  · have hdt : decide (Apart l) = true := by rw [decide_eq_true_iff]; exact hap
    have HAP := Lib.hid hap
    have HMA : Hid (movesA l = moves l) := Lib.hid (by unfold movesA; rw [if_pos hap])
    have C5 := Lib.hid (fun W (A' : Option Addr) (c' k : Nat) (hA' : PairsAt W A' (packed l k)) (q1 : (packed l k).length ≤ c') (q2 : c' ≤ maxLen) => R23.map_any A' (packed l k) c' W hA' (in_packed hap k) q1 q2)
    obtain ⟨P, hP⟩ : ∃ P, P = packed l l.length := ⟨_, rfl⟩
    have hPl : P.length = l.length := by rw [hP, packed_len]
    have hPa : Apart P := by rw [hP]; exact packed_apart hap _
    have C6 := Lib.hid (fun W (A' : Option Addr) (c' i : Nat) (hA' : PairsAt W A' P) (hi : i ≤ P.length) (q1 : P.length ≤ c') (q2 : c' ≤ maxLen) => R23.to_any A' P c' i W hA' hPa hi q1 q2)
    have HP := Lib.hid hP
    clear hP hPa
    have HOK : Hid (∀ k, decide (Ok (packed l k)) = true) := Lib.hid fun k => by rw [decide_eq_true_iff]; exact (packed_apart hap k).ok
    obtain ⟨N, hN⟩ : ∃ N, N = l.length := ⟨_, rfl⟩
    have HN := Lib.hid hN
    simp only [packed_len, hPl] at C5 C6
    clear hPl
    rw [← hN] at C1 C2 C4 C5 C6 hlong hlong' h1 ⊢
    rw [hdt] at C1
    obtain ⟨i0, hi, hz, hs1, hb1⟩ := R23.run_info'
    have HI := Lib.hid (And.intro hi (And.intro hz (And.intro hs1 hb1)))
    clear hA hin hN hap hdt hi hz hs1 hb1
    go_enter Try.func4, Try.ntmps4
    go_wp2_with fail
    refine C1.out.mono ?_
    rintro e w1 ⟨rfl, hb1⟩
    have HB1 := Lib.hid hb1
    clear hb1 C1
    have HE : Hid ((w1.alloc (.cells #[] 32)).heap[w1.heap.size]? = some (.cells #[] 32 (0, 0))) := Lib.hid (heap_alloc_new w1 _)
    have HBE := Lib.hid (balloc w1 (.cells #[] 32))
    have HAE := Lib.hid (HA.out.below (HB1.out.trans (HBE.out.mono HB1.out.size)))
    have HLN : Hid (l.length = N) := Lib.hid HN.out.symm
    go_wp2_with (at_builtin; refine wpList_append_fresh Try.underlying22 HI.out.1 HI.out.2.1 HI.out.2.2.1 HI.out.2.2.2 rfl rfl _ _ rfl w1.heap.size w1.heap.size rfl HE.out (Nat.le_refl _) A N c l rfl HLN.out HAE.out (by omega) (by omega) HBE.out.size ?_; intro v' w2 hown hb2; have HOW := Lib.hid hown; have HB2 := Lib.hid (HB1.out.trans ((bstep HBE.out hb2).mono HB1.out.size)); obtain ⟨An, cn, hv, hn1, hn2, -, -⟩ := HOW.out.pairs; rw [HLN.out] at hv hn1; subst hv; clear hown hb2)
    clear HE HBE HAE
    refine (C2.out _ HB2.out).mono ?_
    rintro e w3 ⟨v3, rfl, hv3⟩
    have HB3 := Lib.hid (HB2.out.trans (hv3.below.mono HB2.out.size))
    have HOW3 := Lib.hid (HOW.out.below hv3.below)
    obtain ⟨A3, c3, hv, q1, q2, q3, -⟩ := hv3.own.pairs
    rw [HLN.out] at hv q1
    subst hv
    have D := Lib.hid (C4.out w3 A3 c3 q3 q1 q2)
    clear hv3 q3 HB2 HOW
    go_wp2_with fail
    refine D.out.mono ?_
    rintro e w5 ⟨vm, rfl, hm, hb5⟩
    have HB5 := Lib.hid (HB3.out.trans (hb5.mono HB3.out.size))
    rw [HMA.out] at hm
    obtain ⟨M, hM⟩ : ∃ M, M = moves l := ⟨_, rfl⟩
    rw [← hM] at hm
    obtain ⟨Am, cm, hv, m1, m2, m3, m4⟩ := hm.trips
    subst hv
    obtain ⟨mn, hmn⟩ : ∃ mn, mn = M.length := ⟨_, rfl⟩
    have HMM := Lib.hid hM
    have HMN := Lib.hid hmn
    rw [← hmn] at m1 ⊢
    have HNW : Hid (Nw w w5 w1.heap.size (.slice An N cn) l 0 w5) := Lib.hid ⟨by rw [packed_zero]; exact HOW3.out.below hb5, .refl _ _, HB5.out⟩
    have HTM : Hid (∀ W, Keeps (fun k => (Value.slice An N cn).ownBlock = some k) w5 W → TripsAt W Am M) := Lib.hid fun W hk => m3.keep hk (fun _ a e h => by
      have h1 := (m4 a e).1
      have h2 := (HOW3.out.lt _ h).2
      omega)
    have HML : Hid (M.length ≤ N) := Lib.hid (by rw [hM, HN.out]; exact movesTo_len l l.length (Nat.le_refl _))
    have hmn60 : mn ≤ 60 := by have := HML.out; omega
    clear hm hb5 m3 m4 D HB3 HOW3 hM hmn C4 C2
    go_wp2
    go_loopw [28] (fun xv wr => ∃ j : Nat, xv = .int .i64 j ∧ j ≤ mn ∧ Hid (∃ k0, k0 ≤ l.length ∧ (movesTo l k0).length = j ∧ Nw w w5 w1.heap.size (.slice An N cn) l k0 wr)) (fun xv _ => mn - (intOf xv).toNat)
    case atStart => exact ⟨0, rfl, Nat.zero_le _, Lib.hid ⟨0, Nat.zero_le _, rfl, HNW.out⟩⟩
    case round =>
      obtain ⟨j, rfl, hj, HK⟩ := hrel
      rename World => wr
      obtain ⟨k0, hk0, hk1, hnw⟩ := HK.out
      by_cases hlt : j < mn
      · have hjM : j < M.length := by have := HMN.out; omega
        obtain ⟨kk, hkk, hne, hlj, hpk, hel⟩ := move_here l k0 j hk0 hk1 (by rw [← HMM.out]; exact hjM)
        simp only [← HMM.out] at hel
        have hnw : Nw w w5 w1.heap.size (.slice An N cn) l kk wr := ⟨by rw [hpk]; exact hnw.own, hnw.keep, hnw.below⟩
        obtain ⟨bm, om, hAe, c0, c1, c2⟩ := HTM.out wr hnw.keep j hjM
        subst hAe
        rw [hel] at c0 c1 c2
        simp only at c0 c1 c2
        obtain ⟨gg, cg, hv, hge⟩ := hnw.form (by omega)
        injection hv with hv1 hv2 hv3
        subst hv1
        subst hv3
        clear hv2
        have hdn := moves_down HAP.out kk hkk hne
        have hirn := HAP.out.1 l[kk] (List.getElem_mem hkk)
        unfold In at hirn
        have hmv := movesTo_move l kk hkk hne
        have hset := fun W (h : Nw w w5 w1.heap.size (.slice (some ⟨gg, 0, none⟩) N cn) l kk W) => h.set HB1.out.size hkk
        obtain ⟨p, hp⟩ : ∃ p, p = l[kk].1 := ⟨_, rfl⟩
        obtain ⟨q, hq⟩ : ∃ q, q = l[kk].2 := ⟨_, rfl⟩
        obtain ⟨t, ht⟩ : ∃ t, t = to l kk := ⟨_, rfl⟩
        have hln : (movesTo l (kk + 1)).length = j + 1 := by rw [hmv, List.length_append, hlj]; rfl
        have HEL : Hid (∀ i, (h : i < (packed l kk).length) → (i = kk → (packed l kk)[i] = (p, q)) ∧ (i ≠ kk → (packed l kk)[i].1 ≠ p)) := Lib.hid fun i h => ⟨fun e => by
          subst e; rw [packed_here l i hkk]; exact Prod.ext hp.symm hq.symm, fun e e2 => e ((packed_only HAP.out hkk h).1 (by rw [e2, hp]))⟩
        rw [← hp] at c0 hdn hirn
        rw [← hq] at c2
        rw [← ht] at c1 hdn hset
        have HB1W := Lib.hid (balloc wr (.cells #[.int .i64 p, .int .i64 t, .int .i64 q] 35))
        have HNX := Lib.hid (hnw.more HB1W.out)
        have HSET := Lib.hid hset
        have HLJ := Lib.hid hln
        have a0 : (wr.alloc (.cells #[.int .i64 p, .int .i64 t, .int .i64 q] 35)).cell? ⟨wr.heap.size, 0, none⟩ = some (.int .i64 p) := by simp
        have a1 : (wr.alloc (.cells #[.int .i64 p, .int .i64 t, .int .i64 q] 35)).cell? ⟨wr.heap.size, 1, none⟩ = some (.int .i64 t) := by simp
        have a2 : (wr.alloc (.cells #[.int .i64 p, .int .i64 t, .int .i64 q] 35)).cell? ⟨wr.heap.size, 2, none⟩ = some (.int .i64 q) := by simp
        obtain ⟨mb, hmb⟩ : ∃ mb, mb = wr.heap.size := ⟨_, rfl⟩
        have hggm : gg ≠ mb := by
          have := (hnw.own.lt gg rfl).2; omega
        have HA0 := Lib.hid (And.intro a0 (And.intro a1 a2))
        rw [← hmb] at HA0
        have hkN : kk < N := by have := HN.out; omega
        have hdn1 := hdn.1
        have hdn2 := hdn.2
        clear hp hq ht hmv hset hnw hk1 hk0 HK hel hjM hpk hlj hne hirn hdn a0 a1 a2 hkk
        go_wp2
        rw [← hmb]
        generalize wr.alloc (.cells #[.int .i64 p, .int .i64 t, .int .i64 q] 35) = W1 at *
        clear hmb c0 c1 c2
        go_loopw [6, 34] (fun kv xv wv => ∃ (i : Nat) (z : Int), xv = .int .i64 i ∧ i ≤ N ∧ kv = .int .i64 z ∧ Hid (z = if kk < i then (kk : Int) else -1) ∧ Hid (Below W1.heap.size W1 wv)) (fun _ xv _ => N - (intOf xv).toNat)
        case atStart => exact ⟨0, -1, rfl, Nat.zero_le _, rfl, Lib.hid (by simp), Lib.hid (Below.refl _ _)⟩
        case round =>
          obtain ⟨i, z, rfl, hi, rfl, HZ, HBI⟩ := hrel
          rename World => wv
          have HNV := Lib.hid (HNX.out.more HBI.out)
          have a0 := (HBI.out.cell (p := ⟨mb, 0, none⟩) (cell_lt HA0.out.1)).trans HA0.out.1
          have a1 := (HBI.out.cell (p := ⟨mb, 1, none⟩) (cell_lt HA0.out.2.1)).trans HA0.out.2.1
          have a2 := (HBI.out.cell (p := ⟨mb, 2, none⟩) (cell_lt HA0.out.2.2)).trans HA0.out.2.2
          by_cases hlt2 : i < N
          · have hip : i < (packed l kk).length := by rw [packed_len]; have := HN.out; omega
            obtain ⟨e0, e1⟩ := HNV.out.own.at_ hip
            have hii : (i : Int) < (N : Int) := by omega
            have HNB : Hid (∀ n, Below W1.heap.size W1 (wv.drewN n)) := Lib.hid fun n => below_drewN HBI.out n
            by_cases hik : i = kk
            · have hel := (HEL.out i hip).1 hik
              rw [hel] at e0 e1
              simp only at e0 e1
              have HZ2 : Hid ((i : Int) = if kk < i + 1 then (kk : Int) else -1) := Lib.hid (by rw [if_pos (by omega), hik])
              have d1 : (p == p) = true := by simp
              have d2 : (q == q) = true := by simp
              clear hel HZ HNV HBI hip hik
              go_wp2
              go_quiet (fail)
              have HN3 := Lib.hid (HNB.out nq)
              generalize wv.drewN nq = wz at *
              clear HNB a0 a1 a2 e0 e1
              go_wp2
              go_roundw
              case rel => exact ⟨i + 1, i, by go_num, by omega, rfl, HZ2, HN3⟩
              case measure => simp [intOf] <;> omega
            · have hne := (HEL.out i hip).2 hik
              have HZ2 : Hid (z = if kk < i + 1 then (kk : Int) else -1) := Lib.hid (by
                rw [HZ.out]
                by_cases h : kk < i
                · rw [if_pos h, if_pos (by omega)]
                · rw [if_neg h, if_neg (by omega)])
              generalize (packed l kk)[i].1 = x at *
              generalize (packed l kk)[i].2 = y at *
              have d1 : (x == p) = false := by simpa using hne
              clear hne HZ HNV HBI hip hik
              go_wp2
              go_quiet (fail)
              have HN3 := Lib.hid (HNB.out nq)
              generalize wv.drewN nq = wz at *
              clear HNB a0 a1 a2 e0 e1
              go_wp2
              go_roundw
              case rel => exact ⟨i + 1, z, by go_num, by omega, rfl, HZ2, HN3⟩
              case measure => simp [intOf] <;> omega
          · have hz : z = (kk : Int) := by rw [HZ.out, if_pos (by omega)]
            subst hz
            have hlt3 : ¬ (i : Int) < (N : Int) := by omega
            have hkp : kk < (packed l kk).length := by rw [packed_len]; have := HN.out; omega
            have e0 := (HNV.out.own.at_ hkp).1
            have f0 := HNV.out.own.fr (kk * 2)
            have HNS := Lib.hid (HSET.out _ HNV.out)
            have hkk2 : (kk : Int) < (N : Int) := by omega
            generalize (packed l kk)[kk].1 = x0 at *
            clear HZ HBI HNV hkp
            obtain ⟨A', c', hv, -, -, hpr, -⟩ := HNS.out.own.pairs
            injection hv with hv1 hv2 hv3
            subst hv1
            subst hv3
            have D := Lib.hid (C5.out _ _ _ (kk + 1) hpr hn1 hn2)
            clear hpr hv2
            have g1 : decide ((kk : Int) < 0) = false := by simp
            have g2 : decide (p ≤ t) = false := by simp; omega
            have g3 : decide (t < 0) = false := by simp; omega
            go_wp2_with fail
            refine D.out.mono ?_
            rintro e w8 ⟨g8, m8, rfl, -, -, -, -, hb8⟩
            rw [HOK.out]
            have HNW8 := Lib.hid (HNS.out.more hb8)
            have HFIN : Hid (∃ k0, k0 ≤ l.length ∧ (movesTo l k0).length = j + 1 ∧ Nw w w5 w1.heap.size (.slice (some ⟨gg, 0, none⟩) N cn) l k0 w8) := Lib.hid ⟨kk + 1, by have := HN.out; omega, HLJ.out, HNW8.out⟩
            clear hb8 D HNS HNX HSET HNW8
            go_wp2
            go_roundw
            case rel => exact ⟨j + 1, by go_num, by omega, HFIN⟩
            case measure => simp [intOf] <;> omega
      · have hpN : packed l k0 = packed l l.length := packed_done l k0 hk0 (by rw [hk1, ← HMM.out, ← HMN.out]; omega)
        have hown := hnw.own
        rw [hpN] at hown
        have HOW := Lib.hid hown
        have HBW := Lib.hid hnw.below
        have hlt' : ¬ (j : Int) < (mn : Int) := by omega
        have HPE : Hid (∀ i, (h : i < (packed l l.length).length) → (packed l l.length)[i].1 = to (packed l l.length) i) := Lib.hid fun i h => packed_end l i (by rw [packed_len] at h; exact h)
        have HPL : Hid ((packed l l.length).length = N) := Lib.hid (by rw [packed_len]; exact HLN.out)
        rw [← HP.out] at HPE HPL HOW
        clear hown hpN hnw hk0 hk1 HK HNW HTM C5
        go_wp2
        go_loopw [87] (fun xv wv => ∃ i : Nat, xv = .int .i64 i ∧ i ≤ N ∧ Hid (Below wr.heap.size wr wv)) (fun xv _ => N - (intOf xv).toNat)
        case atStart => exact ⟨0, rfl, Nat.zero_le _, Lib.hid (Below.refl _ _)⟩
        case round =>
          obtain ⟨i, rfl, hi, HBI⟩ := hrel
          rename World => wv
          by_cases hlt2 : i < N
          · have hip : i < P.length := by have := HPL.out; omega
            have HOV := Lib.hid (HOW.out.below HBI.out)
            obtain ⟨A', c', hv, -, q5, hpr, -⟩ := HOV.out.pairs
            injection hv with hv1 hv2 hv3
            subst hv1
            subst hv3
            obtain ⟨b, o, hAe, e0, e1⟩ := hpr i hip
            subst hAe
            have hpe := HPE.out i hip
            generalize P[i].2 = y at *
            obtain ⟨x, hx⟩ : ∃ x, x = P[i].1 := ⟨_, rfl⟩
            rw [← hx] at e0 hpe
            have hba := balloc wv (.cells #[.int .i64 x, .int .i64 y] 32)
            have D := Lib.hid (fun W (hb : Below wv.heap.size wv W) => C6.out W _ cn i (hpr.below hb) hi hn1 hn2)
            rw [← hpe] at D
            have HB2 := Lib.hid (HBI.out.trans (hba.mono HBI.out.size))
            have HBA := Lib.hid hba
            have d1 : (x == x) = true := by simp
            clear hpr hpe hx hba hip hv2 HOV HBI
            go_wp2
            go_quiet ((go_at_call 11; exact Calls.quiet_of_same (D.out _ (bstep HBA.out (bdraw _ _)))))
            have HN3 : Hid (Below wr.heap.size wr ((wv.alloc (.cells #[.int .i64 x, .int .i64 y] 32)).drewN nq)) := Lib.hid (below_drewN HB2.out nq)
            generalize (wv.alloc (.cells #[.int .i64 x, .int .i64 y] 32)).drewN nq = wz at *
            clear D HB2 HBA
            go_wp2
            go_roundw
            case rel => exact ⟨i + 1, by go_num, by omega, HN3⟩
            case measure => simp [intOf] <;> omega
          · obtain rfl : i = N := by omega
            have HBZ := Lib.hid (HBW.out.trans (HBI.out.mono HBW.out.size))
            clear HBI
            go_wp2_with fail
            refine (AL.out _).mono ?_
            rintro e w9 ⟨rfl, hb9⟩
            have HBF := Lib.hid (HBZ.out.trans (hb9.mono HBZ.out.size))
            clear hb9
            go_wp2
            go_ret
            exact ⟨rfl, HBF.out⟩
  · have hdt : decide (Apart l) = false := by rw [decide_eq_false_iff_not]; exact hap
    rw [hdt] at C1
    clear hA hin hap hdt C2 C4
    generalize l.length = N at *
    go_enter Try.func4, Try.ntmps4
    go_wp2_with fail
    refine C1.out.mono ?_
    rintro e w1 ⟨rfl, hb1⟩
    have HB1 := Lib.hid hb1
    clear hb1
    go_wp2_with fail
    refine (AL.out _).mono ?_
    rintro e w2 ⟨rfl, hb2⟩
    have HBF := Lib.hid (HB1.out.trans (hb2.mono HB1.out.size))
    clear hb2
    go_wp2
    go_ret
    exact ⟨rfl, HBF.out⟩
end Go.Proofs.Ythmllbijfgimcaa.Law23
