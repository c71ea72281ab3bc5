/- laws of layer 22: IndexPlays -/
import Derived.Test.YtnjdioghjjaegaaMIL
set_option maxRecDepth 100000
namespace Go.Proofs.Ytnjdioghjjaegaa.Law22
open Go.RowKit IdxM Ents Index R22

set_option maxHeartbeats 8000000 in
theorem plays_any (A : Option Addr) (l : List Act22) (c : Nat) (w : World) (h : ActsAt22 w A l) (hc : l.length ≤ c) (_hc2 : c ≤ maxLen) :
    Calls Try.prog 3 #[.slice A l.length c] w fun e w' => e = .returned (.bool true) ∧ Below w.heap.size w w' := by
  have H := Lib.hid h
  have HAL := Lib.hid fun V => alive_any V
  have HNEW := Lib.hid (new_any w)
  obtain ⟨n, hn⟩ : ∃ n, n = l.length := ⟨_, rfl⟩
  have HN := Lib.hid hn
  rw [← hn] at hc ⊢
  unfold maxLen at _hc2
  clear h hn
  by_cases h60 : 60 < n
  · have b1 : (60 : Int) < (n : Int) := by omega
    clear hc
    go_enter Try.func3, Try.ntmps3
    go_wp2_with fail
    refine (HAL.out w).mono ?_
    rintro e w1 ⟨rfl, hb⟩
    have HB := Lib.hid hb
    clear hb
    go_wp2
    go_ret
    exact ⟨rfl, HB.out⟩
  have b1 : ¬ (60 : Int) < (n : Int) := by omega
  have h60' : n ≤ 60 := by omega
  obtain ⟨x, hx⟩ : ∃ x, x = w.heap.size := ⟨_, rfl⟩
  have HXX := Lib.hid hx
  clear hx
  go_enter Try.func3, Try.ntmps3
  go_wp2_with fail
  refine HNEW.out.mono ?_
  rintro e w1 ⟨rfl, hx1, hb1⟩
  rw [← HXX.out] at hx1 ⊢
  have HP1 : Hid (Pl w w1 x (.slice none 0 0) [] none 0 0) := Lib.hid ⟨hx1, EntsAt.nil _ _, fun a e => (by cases e), hb1, by rw [HXX.out]; exact Nat.le_refl _, rfl, Nat.le_refl _, Nat.zero_le _, fun x hx => (by cases hx)⟩
  clear hx1 hb1 HNEW b1
  go_wp2
  go_loopw [4, 18] (fun s4 s18 wr => ∃ (k : Nat) (A2 : Option Addr) (n2 c2 : Nat) (vx : Value) (L : List En), s4 = .slice A2 n2 c2 ∧ s18 = .int .i64 (k : Nat) ∧ k ≤ n ∧ n2 ≤ k ∧ Hid (Pl w wr x vx L A2 n2 c2)) (fun _ s18 _ => n - (intOf s18).toNat)
  case atStart => exact ⟨0, none, 0, 0, .slice none 0 0, [], rfl, rfl, Nat.zero_le _, Nat.le_refl _, HP1⟩
  case round =>
    clear HP1 w1
    obtain ⟨k, A2, n2, c2, vx, L, rfl, rfl, hk, hnk, HP⟩ := hrel
    rename World => wr
    by_cases hlt : k < n
    · obtain ⟨b, o, hab, ha, hsz⟩ := (H.out.below HP.out.b) k (by rw [← HN.out]; exact hlt)
      subst hab
      generalize l[k]'(by rw [← HN.out]; exact hlt) = y at *
      obtain ⟨kd, ⟨zn, zr, za, zc⟩⟩ := y
      obtain ⟨c0, c1', c2', c3, c4⟩ := ha
      simp only at c0 c1' c2' c3 c4 hsz
      have hba := balloc wr (.cells #[.int .i64 0, .string ⟨#[]⟩, .int .i64 0, .int .i64 0, .int .i64 0] 30)
      have HB0 := Lib.hid (ActB.new wr 0 ⟨#[]⟩ 0 0 0)
      have HPA := Lib.hid (HP.out.below hba)
      have hq : wr.heap.size ≤ wr.heap.size := Nat.le_refl _
      clear hba
      by_cases h40 : 40 < zn.size
      · have b2 : (40 : Int) < (zn.size : Int) := by omega
        go_wp2_with (first
          | (refine wpList_store_act rfl _ _ rfl wr.heap.size kd zn zr za zc rfl rfl 0 ⟨#[]⟩ 0 0 0 HB0.out ?_; intro w2 he hk2
             have HP2 := Lib.hid (Pl.keepN HP.out HPA.out hk2 (fun k e => by omega)); obtain ⟨d0, d1, d2, d3, d4⟩ := he.cells
             clear he hk2))
        refine (HAL.out w2).mono ?_
        rintro e w3 ⟨rfl, hb⟩
        have HF := Lib.hid (bstep HP2.out.b hb)
        clear hb
        go_wp2
        go_ret
        exact ⟨rfl, HF.out⟩
      have b2 : ¬ (40 : Int) < (zn.size : Int) := by omega
      go_wp2_with (first
        | (refine wpList_store_act rfl _ _ rfl wr.heap.size kd zn zr za zc rfl rfl 0 ⟨#[]⟩ 0 0 0 HB0.out ?_; intro w2 he hk2
           have HP2 := Lib.hid (Pl.keepN HP.out HPA.out hk2 (fun k e => by omega)); obtain ⟨d0, d1, d2, d3, d4⟩ := he.cells
           have HE2 := Lib.hid he
           clear he hk2))
      have hgd := en_guard
      have hfd := fun V => key_of zn zr za zc V
      have HLN := Lib.hid HP.out.len
      have hn2 : n2 ≤ 1048576 := by omega
      obtain ⟨Z, hZ⟩ : ∃ Z, Z = fz L (zn, zr) := ⟨_, rfl⟩
      have hF := R22.find_any A2 L n2 c2 zn zr w2 HP2.out.ents HP2.out.len hn2 HP2.out.ix.rise
      rw [← hZ] at hF
      refine hF.mono ?_
      clear hF
      rintro e w2' ⟨rfl, rfl⟩
      obtain ⟨q6, hq6⟩ : ∃ q6, q6 = wr.heap.size := ⟨_, rfl⟩
      have hq6w : wr.heap.size ≤ q6 := by omega
      rw [← hq6] at HE2 ⊢
      clear hq6 hq HB0 HPA c0 c1' c2' c3 c4 d0 d1 d2 d3 d4
      have HN2 := Lib.hid (EnB.new w2' ⟨#[]⟩ 0 0 0)
      have hba := balloc w2' (.cells #[.string ⟨#[]⟩, .int .i64 0, .int .i64 0, .int .i64 0] 35)
      have HPB := Lib.hid (HP2.out.below hba); have HEB := Lib.hid (HE2.out.below hba)
      have hw2 : wr.heap.size ≤ w2'.heap.size := by have := HE2.out.lt; omega
      have hq68 : q6 ≠ w2'.heap.size := by have := HE2.out.lt; omega
      clear hba HP2
      rcases hhas : has L (zn, zr) with _ | _
      · have HGOT : Hid (got L (zn, zr) = ⟨⟨#[]⟩, 0, 0, 0⟩) := Lib.hid (got_not hhas)
        have HHAS := Lib.hid hhas
        have HDK : Hid (dropK L (zn, zr) = L) := Lib.hid (dropK_not hhas)
        rw [fz_not hhas] at hZ
        subst hZ
        have b3 : ¬ (0 : Int) ≤ -1 := by omega
        clear hhas
        rcases (show kd = 0 ∨ kd = 1 ∨ (¬ kd = 0 ∧ ¬ kd = 1) by omega) with hkd | hkd | hkd
        · subst hkd
          go_wp2_with (first
            | (refine wpList_store_en rfl _ _ rfl w2'.heap.size ⟨#[]⟩ 0 0 0 rfl rfl ⟨#[]⟩ 0 0 0 HN2.out ?_; intro w3 hen hk3
               have HP3 := Lib.hid (Pl.keepN HP.out HPB.out hk3 (fun k e => by omega)); have HE3 := Lib.hid (HEB.out.keep hk3 hq68); have HW3 := Lib.hid hen
               have hba := balloc w3 (.cells #[.string ⟨#[]⟩, .int .i64 0, .int .i64 0, .int .i64 0] 35)
               obtain ⟨d0, d1, d2, d3, d4⟩ := (HE3.out.below hba).cells
               clear hen hk3))
          have HG4 := Lib.hid (EnB.new w3 ⟨#[]⟩ 0 0 0); have HP4 := Lib.hid (HP3.out.below hba); have HE4 := Lib.hid (HE3.out.below hba); have HW4 := Lib.hid (HW3.out.below hba)
          have hq89 : w2'.heap.size ≠ w3.heap.size := by have := HW3.out.lt; omega
          have hq69 : q6 ≠ w3.heap.size := by have := HE3.out.lt; omega
          have hw3 : wr.heap.size ≤ w3.heap.size := by have := HE3.out.lt; omega
          clear hba d0 d1 d2 d3 d4
          generalize w3.alloc (.cells #[.string ⟨#[]⟩, .int .i64 0, .int .i64 0, .int .i64 0] 35) = w4 at *
          refine (as_any zn zr za zc w4).mono ?_
          rintro e w5 ⟨rfl, hb⟩
          have HP5 := Lib.hid (HP4.out.below hb); have HE5 := Lib.hid (HE4.out.below hb); have HW5 := Lib.hid (HW4.out.below hb); have HG5 := Lib.hid (HG4.out.below hb)
          have hw35 : w3.heap.size < w5.heap.size := (HG4.out.below hb).lt
          have HITS := Lib.hid HP.out.ix.its
          have HAB := Lib.hid (fun hl a e => HP.out.ents.lt hl a e)
          have hwb : w.heap.size ≤ wr.heap.size := HP.out.b.size
          clear hb HP3 HE3 HW3 HG4 HP4 HE4 HW4 HPB HEB HN2
          go_wp2_with fail
          have hput := put_any x vx L zn zr za zc x w5 HP5.out.ix (by have := HLN.out; omega)
          have href := fun V hV => R22.put_any A2 L n2 c2 zn zr za zc V hV HP.out.len HP.out.cap HP.out.most (by omega) HP.out.ix.rise HP.out.sane hsz
          have hs3 := HP.out.sane.putK (e := ⟨zn, zr, za, zc⟩) hsz
          have hl3 := putK_len L ⟨zn, zr, za, zc⟩
          generalize putK L ⟨zn, zr, za, zc⟩ = L3 at hput href hs3 hl3
          have HREF := Lib.hid href; have HS3 := Lib.hid hs3
          refine hput.mono ?_
          clear hput href hs3
          rintro e w6 ⟨rfl, vy, hx6, hk6, hp6⟩
          rw [HGOT.out, HHAS.out]
          obtain ⟨hents6, hfar6, hb6⟩ := Pl.turned HP5.out hx6 hk6 hp6
          have hits6 : ∀ j, Its x vy j → j ≠ w3.heap.size := fun j hj => by
            rcases hj with q | q
            · have := HITS.out x (.inl rfl); omega
            · rcases hp6 j q with q | q
              · have := HITS.out j (.inr q); omega
              · omega
          have HG6 := Lib.hid (HG5.out.keep hk6 (fun e => by have := HITS.out _ e; omega)); have HW6 := Lib.hid (HW5.out.keep hk6 (fun e => by have := HITS.out _ e; omega)); have HE6 := Lib.hid (HE5.out.keep hk6 (fun e => by have := HITS.out _ e; omega))
          have HX6 := Lib.hid hx6; have HN6 := Lib.hid hents6; have HF6 := Lib.hid hfar6; have HB6 := Lib.hid hb6; have HI6 := Lib.hid hits6
          clear hx6 hk6 hp6 hents6 hfar6 hb6 hits6 HP5 HE5 HW5 HG5
          go_wp2_with (first
            | (refine wpList_store_en rfl _ _ rfl w3.heap.size ⟨#[]⟩ 0 0 0 rfl rfl ⟨#[]⟩ 0 0 0 HG6.out ?_; intro w7 hen hk7
               have HX7 := Lib.hid (HX6.out.keep hk7 HI6.out); have HN7 := Lib.hid (HN6.out.keep hk7 (fun hl a e q => by have := HAB.out hl a e; omega)); have HB7 := Lib.hid (below_keeps HB6.out hk7 (fun j e => by omega) HB6.out.size)
               have HW7 := Lib.hid (HW6.out.keep hk7 hq89); have HE7 := Lib.hid (HE6.out.keep hk7 hq69); have HG7 := Lib.hid hen
               obtain ⟨d0, d1, d2, d3, d4⟩ := HE7.out.cells
               clear hen hk7)
            | (refine wpList_load_en rfl _ rfl w3.heap.size rfl ⟨#[]⟩ 0 0 0 HG7.out ?_)
            | (refine wpList_load_en rfl _ rfl w2'.heap.size rfl ⟨#[]⟩ 0 0 0 HW7.out ?_))
          clear d0 d1 d2 d3 d4
          refine (HREF.out w7 HN7.out).mono ?_
          rintro e w8 ⟨v8, rfl, ho8, hb8⟩
          obtain ⟨A3, c3', hv8, h8a, h8b, h8e, h8f⟩ := ho8.ents
          obtain ⟨n3, hn3⟩ : ∃ n3, n3 = L3.length := ⟨_, rfl⟩
          rw [← hn3] at hv8 h8a hl3
          subst hv8
          have HP8 : Hid (Pl w w8 x vy L3 A3 n3 c3') := Lib.hid ⟨HX7.out.below hb8, h8e, fun a e hl hf => by have := (h8f a e).1; have := HX7.out.its _ hf; omega, bstep HB7.out hb8, HP.out.base, hn3, h8a, h8b, HS3.out⟩
          have HG8 := Lib.hid (HG7.out.below hb8); have HW8 := Lib.hid (HW7.out.below hb8)
          have hn3k : n3 ≤ k + 1 := by have := HLN.out; omega
          clear ho8 hb8 h8a h8b h8e h8f hn3 HREF HS3 HX6 HN6 HF6 HB6 HI6 HX7 HN7 HB7 HW7 HE7 HG7 HG6 HW6 HE6
          go_wp2_with (first
            | (refine wpList_load_en rfl _ rfl w3.heap.size rfl ⟨#[]⟩ 0 0 0 HG8.out ?_)
            | (refine wpList_load_en rfl _ rfl w2'.heap.size rfl ⟨#[]⟩ 0 0 0 HW8.out ?_))
          clear HGOT HHAS HDK HITS HAB hgd hfd HP
          refine (all_any x vy L3 x w8 HP8.out.ix).mono ?_
          rintro e wa ⟨va, rfl, hoa, hba⟩
          obtain ⟨Aa, ca, hva, -, -, hea, -⟩ := hoa.ents
          rw [← HP8.out.len] at hva
          subst hva
          have HPa := Lib.hid (HP8.out.below hba); have HEA := Lib.hid hea
          clear hoa hba hea HP8
          go_wp2_with fail
          refine (same_any Aa A3 L3 n3 ca c3' wa HEA.out HPa.out.ents HPa.out.len (by omega)).mono ?_
          rintro e wb ⟨rfl, hb⟩
          have HPb := Lib.hid (HPa.out.below hb)
          clear hb HPa HEA
          go_wp2_with fail
          have hnm := Index.names_any x vy L3 x wb HPb.out.ix
          have hdm := fun V hV => R22.names_any A3 L3 n3 c3' V hV HPb.out.len (by omega) HPb.out.sane
          rw [addAll_once (weak_names HPb.out.ix.rise)] at hdm
          have hol := once_len (L3.map En.name)
          rw [List.length_map, ← HPb.out.len] at hol
          generalize once (L3.map En.name) = NL at hnm hdm hol
          obtain ⟨m, hm⟩ : ∃ m, m = NL.length := ⟨_, rfl⟩
          have HM := Lib.hid hm; have HDM := Lib.hid hdm
          rw [← hm] at hol
          refine hnm.mono ?_
          clear hnm hdm
          rintro e wc ⟨Ac, cc, rfl, hc1, _hc2', hst, hb⟩
          rw [← hm] at hc1 ⊢
          clear hm
          have HPc := Lib.hid (HPb.out.below hb); have HSC := Lib.hid hst
          clear hst hb HPb hc1 _hc2'
          go_wp2_with fail
          refine (HDM.out wc HPc.out.ents).mono ?_
          rintro e wd ⟨Ad, cd, rfl, hd1, hd2, hsd, hb⟩
          rw [← HM.out] at hd1 ⊢
          have HPd := Lib.hid (HPc.out.below hb); have HSC2 := Lib.hid (HSC.out.below hb); have HSD := Lib.hid hsd
          clear hsd hb hd1 hd2 HPc HSC HDM
          go_wp2_with fail
          have hS := R07.same_any Ac Ad NL NL cc cd wd HSC2.out HSD.out (by rw [← HM.out]; omega) (by rw [← HM.out]; omega)
          rw [LabM.sameT_self, ← HM.out] at hS
          refine hS.mono ?_
          clear hS
          rintro e we ⟨rfl, nn, rfl⟩
          have HPe := Lib.hid (HPd.out.below (bdraw wd nn))
          generalize wd.drewN nn = wf at *
          clear HSC2 HSD HPd HM hol
          go_wp2
          go_roundw
          case rel => exact ⟨k + 1, A3, n3, c3', vy, L3, rfl, by go_num, by omega, hn3k, HPe⟩
          case measure => simp [intOf] <;> omega
        · subst hkd
          go_wp2_with (first
            | (refine wpList_store_en rfl _ _ rfl w2'.heap.size ⟨#[]⟩ 0 0 0 rfl rfl ⟨#[]⟩ 0 0 0 HN2.out ?_; intro w3 hen hk3
               have HP3 := Lib.hid (Pl.keepN HP.out HPB.out hk3 (fun k e => by omega)); have HE3 := Lib.hid (HEB.out.keep hk3 hq68); have HW3 := Lib.hid hen
               have hba := balloc w3 (.cells #[.string ⟨#[]⟩, .int .i64 0, .int .i64 0, .int .i64 0] 35)
               obtain ⟨d0, d1, d2, d3, d4⟩ := (HE3.out.below hba).cells
               clear hen hk3))
          have HG4 := Lib.hid (EnB.new w3 ⟨#[]⟩ 0 0 0); have HP4 := Lib.hid (HP3.out.below hba); have HE4 := Lib.hid (HE3.out.below hba); have HW4 := Lib.hid (HW3.out.below hba)
          have hq89 : w2'.heap.size ≠ w3.heap.size := by have := HW3.out.lt; omega
          have hq69 : q6 ≠ w3.heap.size := by have := HE3.out.lt; omega
          have hw3 : wr.heap.size ≤ w3.heap.size := by have := HE3.out.lt; omega
          clear hba d0 d1 d2 d3 d4
          generalize w3.alloc (.cells #[.string ⟨#[]⟩, .int .i64 0, .int .i64 0, .int .i64 0] 35) = w4 at *
          refine (as_any zn zr za zc w4).mono ?_
          rintro e w5 ⟨rfl, hb⟩
          have HP5 := Lib.hid (HP4.out.below hb); have HE5 := Lib.hid (HE4.out.below hb); have HW5 := Lib.hid (HW4.out.below hb); have HG5 := Lib.hid (HG4.out.below hb)
          have hw35 : w3.heap.size < w5.heap.size := (HG4.out.below hb).lt
          have HITS := Lib.hid HP.out.ix.its
          have HAB := Lib.hid (fun hl a e => HP.out.ents.lt hl a e)
          have hwb : w.heap.size ≤ wr.heap.size := HP.out.b.size
          clear hb HP3 HE3 HW3 HG4 HP4 HE4 HW4 HPB HEB HN2
          go_wp2_with fail
          have hdrop := Index.drop_any x vx L zn zr x w5 HP5.out.ix
          rw [HDK.out] at hdrop
          refine hdrop.mono ?_
          clear hdrop
          rintro e w6 ⟨rfl, vy, hx6, hk6, hp6⟩
          rw [HGOT.out, HHAS.out]
          obtain ⟨hents6, hfar6, hb6⟩ := Pl.turned HP5.out hx6 hk6 hp6
          have hits6 : ∀ j, Its x vy j → j ≠ w3.heap.size := fun j hj => by
            rcases hj with q | q
            · have := HITS.out x (.inl rfl); omega
            · rcases hp6 j q with q | q
              · have := HITS.out j (.inr q); omega
              · omega
          have HG6 := Lib.hid (HG5.out.keep hk6 (fun e => by have := HITS.out _ e; omega)); have HW6 := Lib.hid (HW5.out.keep hk6 (fun e => by have := HITS.out _ e; omega)); have HE6 := Lib.hid (HE5.out.keep hk6 (fun e => by have := HITS.out _ e; omega))
          have HX6 := Lib.hid hx6; have HN6 := Lib.hid hents6; have HF6 := Lib.hid hfar6; have HB6 := Lib.hid hb6; have HI6 := Lib.hid hits6
          clear hx6 hk6 hp6 hents6 hfar6 hb6 hits6 HP5 HE5 HW5 HG5
          go_wp2_with (first
            | (refine wpList_store_en rfl _ _ rfl w3.heap.size ⟨#[]⟩ 0 0 0 rfl rfl ⟨#[]⟩ 0 0 0 HG6.out ?_; intro w7 hen hk7
               have HX7 := Lib.hid (HX6.out.keep hk7 HI6.out); have HN7 := Lib.hid (HN6.out.keep hk7 (fun hl a e q => by have := HAB.out hl a e; omega)); have HB7 := Lib.hid (below_keeps HB6.out hk7 (fun j e => by omega) HB6.out.size)
               have HW7 := Lib.hid (HW6.out.keep hk7 hq89); have HE7 := Lib.hid (HE6.out.keep hk7 hq69); have HG7 := Lib.hid hen
               obtain ⟨d0, d1, d2, d3, d4⟩ := HE7.out.cells
               clear hen hk7)
            | (refine wpList_load_en rfl _ rfl w3.heap.size rfl ⟨#[]⟩ 0 0 0 HG7.out ?_)
            | (refine wpList_load_en rfl _ rfl w2'.heap.size rfl ⟨#[]⟩ 0 0 0 HW7.out ?_))
          clear d0 d1 d2 d3 d4
          have HP8 : Hid (Pl w w7 x vy L A2 n2 c2) := Lib.hid ⟨HX7.out, HN7.out, HF6.out, HB7.out, HP.out.base, HP.out.len, HP.out.cap, HP.out.most, HP.out.sane⟩
          have hn3k : n2 ≤ k + 1 := by omega
          clear HGOT HHAS HDK HITS HAB hgd hfd HP
          refine (all_any x vy L x w7 HP8.out.ix).mono ?_
          rintro e wa ⟨va, rfl, hoa, hba⟩
          obtain ⟨Aa, ca, hva, -, -, hea, -⟩ := hoa.ents
          rw [← HP8.out.len] at hva
          subst hva
          have HPa := Lib.hid (HP8.out.below hba); have HEA := Lib.hid hea
          clear hoa hba hea HP8
          go_wp2_with fail
          refine (same_any Aa A2 L n2 ca c2 wa HEA.out HPa.out.ents HPa.out.len (by omega)).mono ?_
          rintro e wb ⟨rfl, hb⟩
          have HPb := Lib.hid (HPa.out.below hb)
          clear hb HPa HEA
          go_wp2_with fail
          have hnm := Index.names_any x vy L x wb HPb.out.ix
          have hdm := fun V hV => R22.names_any A2 L n2 c2 V hV HPb.out.len (by omega) HPb.out.sane
          rw [addAll_once (weak_names HPb.out.ix.rise)] at hdm
          have hol := once_len (L.map En.name)
          rw [List.length_map, ← HPb.out.len] at hol
          generalize once (L.map En.name) = NL at hnm hdm hol
          obtain ⟨m, hm⟩ : ∃ m, m = NL.length := ⟨_, rfl⟩
          have HM := Lib.hid hm; have HDM := Lib.hid hdm
          rw [← hm] at hol
          refine hnm.mono ?_
          clear hnm hdm
          rintro e wc ⟨Ac, cc, rfl, hc1, _hc2', hst, hb⟩
          rw [← hm] at hc1 ⊢
          clear hm
          have HPc := Lib.hid (HPb.out.below hb); have HSC := Lib.hid hst
          clear hst hb HPb hc1 _hc2'
          go_wp2_with fail
          refine (HDM.out wc HPc.out.ents).mono ?_
          rintro e wd ⟨Ad, cd, rfl, hd1, hd2, hsd, hb⟩
          rw [← HM.out] at hd1 ⊢
          have HPd := Lib.hid (HPc.out.below hb); have HSC2 := Lib.hid (HSC.out.below hb); have HSD := Lib.hid hsd
          clear hsd hb hd1 hd2 HPc HSC HDM
          go_wp2_with fail
          have hS := R07.same_any Ac Ad NL NL cc cd wd HSC2.out HSD.out (by rw [← HM.out]; omega) (by rw [← HM.out]; omega)
          rw [LabM.sameT_self, ← HM.out] at hS
          refine hS.mono ?_
          clear hS
          rintro e we ⟨rfl, nn, rfl⟩
          have HPe := Lib.hid (HPd.out.below (bdraw wd nn))
          generalize wd.drewN nn = wf at *
          clear HSC2 HSD HPd HM hol
          go_wp2
          go_roundw
          case rel => exact ⟨k + 1, A2, n2, c2, vy, L, rfl, by go_num, by omega, hn3k, HPe⟩
          case measure => simp [intOf] <;> omega
        · have hk0 : (kd == 0) = false := by simpa using hkd.1
          have hk1 : (kd == 1) = false := by simpa using hkd.2
          have hk0' : ¬ kd = 0 := hkd.1
          have hk1' : ¬ kd = 1 := hkd.2
          clear hkd
          go_wp2_with (first
            | (refine wpList_store_en rfl _ _ rfl w2'.heap.size ⟨#[]⟩ 0 0 0 rfl rfl ⟨#[]⟩ 0 0 0 HN2.out ?_; intro w3 hen hk3
               have HP3 := Lib.hid (Pl.keepN HP.out HPB.out hk3 (fun k e => by omega)); have HE3 := Lib.hid (HEB.out.keep hk3 hq68); have HW3 := Lib.hid hen
               have hba := balloc w3 (.cells #[.string ⟨#[]⟩, .int .i64 0, .int .i64 0, .int .i64 0] 35)
               obtain ⟨d0, d1, d2, d3, d4⟩ := (HE3.out.below hba).cells
               clear hen hk3))
          have HG4 := Lib.hid (EnB.new w3 ⟨#[]⟩ 0 0 0); have HP4 := Lib.hid (HP3.out.below hba); have HE4 := Lib.hid (HE3.out.below hba); have HW4 := Lib.hid (HW3.out.below hba)
          have hq89 : w2'.heap.size ≠ w3.heap.size := by have := HW3.out.lt; omega
          have hq69 : q6 ≠ w3.heap.size := by have := HE3.out.lt; omega
          have hw3 : wr.heap.size ≤ w3.heap.size := by have := HE3.out.lt; omega
          clear hba d0 d1 d2 d3 d4
          generalize w3.alloc (.cells #[.string ⟨#[]⟩, .int .i64 0, .int .i64 0, .int .i64 0] 35) = w4 at *
          refine (as_any zn zr za zc w4).mono ?_
          rintro e w5 ⟨rfl, hb⟩
          have HP5 := Lib.hid (HP4.out.below hb); have HE5 := Lib.hid (HE4.out.below hb); have HW5 := Lib.hid (HW4.out.below hb); have HG5 := Lib.hid (HG4.out.below hb)
          have hw35 : w3.heap.size < w5.heap.size := (HG4.out.below hb).lt
          have HITS := Lib.hid HP.out.ix.its
          have HAB := Lib.hid (fun hl a e => HP.out.ents.lt hl a e)
          have hwb : w.heap.size ≤ wr.heap.size := HP.out.b.size
          clear hb HP3 HE3 HW3 HG4 HP4 HE4 HW4 HPB HEB HN2
          go_wp2_with fail
          refine (Index.find_any x vx L zn zr x w5 HP5.out.ix).mono ?_
          rintro e w6 ⟨rfl, hb⟩
          rw [HGOT.out, HHAS.out]
          have HP6 := Lib.hid (HP5.out.below hb); have HW6 := Lib.hid (HW5.out.below hb); have HG6 := Lib.hid (HG5.out.below hb)
          clear hb HP5 HE5 HW5 HG5
          go_wp2_with (first
            | (refine wpList_store_en rfl _ _ rfl w3.heap.size ⟨#[]⟩ 0 0 0 rfl rfl ⟨#[]⟩ 0 0 0 HG6.out ?_; intro w7 hen hk7
               have HP8 := Lib.hid (Pl.keepN HP.out HP6.out hk7 (fun j e => by omega))
               have HW7 := Lib.hid (HW6.out.keep hk7 hq89); have HG7 := Lib.hid hen
               clear hen hk7)
            | (refine wpList_load_en rfl _ rfl w3.heap.size rfl ⟨#[]⟩ 0 0 0 HG7.out ?_)
            | (refine wpList_load_en rfl _ rfl w2'.heap.size rfl ⟨#[]⟩ 0 0 0 HW7.out ?_))
          have hn3k : n2 ≤ k + 1 := by omega
          clear HGOT HHAS HDK HITS HAB hgd hfd HP
          refine (all_any x vx L x w7 HP8.out.ix).mono ?_
          rintro e wa ⟨va, rfl, hoa, hba⟩
          obtain ⟨Aa, ca, hva, -, -, hea, -⟩ := hoa.ents
          rw [← HP8.out.len] at hva
          subst hva
          have HPa := Lib.hid (HP8.out.below hba); have HEA := Lib.hid hea
          clear hoa hba hea HP8
          go_wp2_with fail
          refine (same_any Aa A2 L n2 ca c2 wa HEA.out HPa.out.ents HPa.out.len (by omega)).mono ?_
          rintro e wb ⟨rfl, hb⟩
          have HPb := Lib.hid (HPa.out.below hb)
          clear hb HPa HEA
          go_wp2_with fail
          have hnm := Index.names_any x vx L x wb HPb.out.ix
          have hdm := fun V hV => R22.names_any A2 L n2 c2 V hV HPb.out.len (by omega) HPb.out.sane
          rw [addAll_once (weak_names HPb.out.ix.rise)] at hdm
          have hol := once_len (L.map En.name)
          rw [List.length_map, ← HPb.out.len] at hol
          generalize once (L.map En.name) = NL at hnm hdm hol
          obtain ⟨m, hm⟩ : ∃ m, m = NL.length := ⟨_, rfl⟩
          have HM := Lib.hid hm; have HDM := Lib.hid hdm
          rw [← hm] at hol
          refine hnm.mono ?_
          clear hnm hdm
          rintro e wc ⟨Ac, cc, rfl, hc1, _hc2', hst, hb⟩
          rw [← hm] at hc1 ⊢
          clear hm
          have HPc := Lib.hid (HPb.out.below hb); have HSC := Lib.hid hst
          clear hst hb HPb hc1 _hc2'
          go_wp2_with fail
          refine (HDM.out wc HPc.out.ents).mono ?_
          rintro e wd ⟨Ad, cd, rfl, hd1, hd2, hsd, hb⟩
          rw [← HM.out] at hd1 ⊢
          have HPd := Lib.hid (HPc.out.below hb); have HSC2 := Lib.hid (HSC.out.below hb); have HSD := Lib.hid hsd
          clear hsd hb hd1 hd2 HPc HSC HDM
          go_wp2_with fail
          have hS := R07.same_any Ac Ad NL NL cc cd wd HSC2.out HSD.out (by rw [← HM.out]; omega) (by rw [← HM.out]; omega)
          rw [LabM.sameT_self, ← HM.out] at hS
          refine hS.mono ?_
          clear hS
          rintro e we ⟨rfl, nn, rfl⟩
          have HPe := Lib.hid (HPd.out.below (bdraw wd nn))
          generalize wd.drewN nn = wf at *
          clear HSC2 HSD HPd HM hol
          go_wp2
          go_roundw
          case rel => exact ⟨k + 1, A2, n2, c2, vx, L, rfl, by go_num, by omega, hn3k, HPe⟩
          case measure => simp [intOf] <;> omega
      · have HHAS := Lib.hid hhas
        obtain ⟨p, hp⟩ : ∃ p, p = plc L (zn, zr) := ⟨_, rfl⟩
        have hpl : p < L.length := by rw [hp]; exact has_lt HP.out.ix.rise hhas
        have hgl : got L (zn, zr) = L[p] := by subst hp; exact got_has HP.out.ix.rise hhas
        rw [fz_has hhas, ← hp] at hZ
        subst hZ
        have hpn' : p < n2 := by have := HLN.out; omega
        have hpn : (p : Int) < (n2 : Int) := by omega
        have HDK : Hid (dropK L (zn, zr) = drop L p) := Lib.hid (by rw [hp]; exact dropK_has hhas)
        have HDL : Hid ((drop L p).length ≤ n2) := Lib.hid (by rw [drop_len hpl]; have := HLN.out; omega)
        obtain ⟨b2, o2, hab, -⟩ := HP.out.ents p hpl
        subst hab
        obtain ⟨g, hg⟩ : ∃ g, g = L[p] := ⟨_, rfl⟩
        rw [← hg] at hgl
        have HGG := Lib.hid hg
        obtain ⟨gn, gr, ga, gc⟩ := g
        have HGOT := Lib.hid hgl
        have b3 : (0 : Int) ≤ (p : Int) := by omega
        have HPL := Lib.hid hpl
        clear hhas hp hgl hg
        rcases (show kd = 0 ∨ kd = 1 ∨ (¬ kd = 0 ∧ ¬ kd = 1) by omega) with hkd | hkd | hkd
        · subst hkd
          go_wp2_with (first
            | (refine wpList_store_en rfl _ _ rfl w2'.heap.size ⟨#[]⟩ 0 0 0 rfl rfl ⟨#[]⟩ 0 0 0 HN2.out ?_; intro wx hen hkx
               have HPX := Lib.hid (Pl.keepN HP.out HPB.out hkx (fun k e => by omega)); have HEX := Lib.hid (HEB.out.keep hkx hq68); have HWX := Lib.hid hen
               obtain ⟨f0, f1, f2, f3⟩ : EnLies wx b2 (o2 + p * 4) ⟨gn, gr, ga, gc⟩ := by
                 obtain ⟨b', o', e', k'⟩ := HPX.out.ents p HPL.out
                 injection e' with e'; injection e' with e1 e2; subst e1; subst e2
                 rw [← HGG.out] at k'; exact k'
               simp only at f0 f1 f2 f3
               clear hen hkx))
          clear f0 f1 f2 f3
          refine (as_any gn gr ga gc wx).mono ?_
          rintro e wy ⟨rfl, hb⟩
          have HPY := Lib.hid (HPX.out.below hb); have HEY := Lib.hid (HEX.out.below hb); have HWY := Lib.hid (HWX.out.below hb)
          clear hb
          go_wp2_with (first
            | (refine wpList_store_en rfl _ _ rfl w2'.heap.size gn gr ga gc rfl rfl ⟨#[]⟩ 0 0 0 HWY.out ?_; intro w3 hen hk3
               have HP3 := Lib.hid (Pl.keepN HP.out HPY.out hk3 (fun k e => by omega)); have HE3 := Lib.hid (HEY.out.keep hk3 hq68); have HW3 := Lib.hid hen
               have hba := balloc w3 (.cells #[.string ⟨#[]⟩, .int .i64 0, .int .i64 0, .int .i64 0] 35)
               obtain ⟨d0, d1, d2, d3, d4⟩ := (HE3.out.below hba).cells
               clear hen hk3))
          have HG4 := Lib.hid (EnB.new w3 ⟨#[]⟩ 0 0 0); have HP4 := Lib.hid (HP3.out.below hba); have HE4 := Lib.hid (HE3.out.below hba); have HW4 := Lib.hid (HW3.out.below hba)
          have hq89 : w2'.heap.size ≠ w3.heap.size := by have := HW3.out.lt; omega
          have hq69 : q6 ≠ w3.heap.size := by have := HE3.out.lt; omega
          have hw3 : wr.heap.size ≤ w3.heap.size := by have := HE3.out.lt; omega
          clear hba d0 d1 d2 d3 d4
          generalize w3.alloc (.cells #[.string ⟨#[]⟩, .int .i64 0, .int .i64 0, .int .i64 0] 35) = w4 at *
          refine (as_any zn zr za zc w4).mono ?_
          rintro e w5 ⟨rfl, hb⟩
          have HP5 := Lib.hid (HP4.out.below hb); have HE5 := Lib.hid (HE4.out.below hb); have HW5 := Lib.hid (HW4.out.below hb); have HG5 := Lib.hid (HG4.out.below hb)
          have hw35 : w3.heap.size < w5.heap.size := (HG4.out.below hb).lt
          have HITS := Lib.hid HP.out.ix.its
          have HAB := Lib.hid (fun hl a e => HP.out.ents.lt hl a e)
          have hwb : w.heap.size ≤ wr.heap.size := HP.out.b.size
          clear hb HP3 HE3 HW3 HG4 HP4 HE4 HW4 HPB HEB HN2
          go_wp2_with fail
          have hput := put_any x vx L zn zr za zc x w5 HP5.out.ix (by have := HLN.out; omega)
          have href := fun V hV => R22.put_any (some ⟨b2, o2, none⟩) L n2 c2 zn zr za zc V hV HP.out.len HP.out.cap HP.out.most (by omega) HP.out.ix.rise HP.out.sane hsz
          have hs3 := HP.out.sane.putK (e := ⟨zn, zr, za, zc⟩) hsz
          have hl3 := putK_len L ⟨zn, zr, za, zc⟩
          generalize putK L ⟨zn, zr, za, zc⟩ = L3 at hput href hs3 hl3
          have HREF := Lib.hid href; have HS3 := Lib.hid hs3
          refine hput.mono ?_
          clear hput href hs3
          rintro e w6 ⟨rfl, vy, hx6, hk6, hp6⟩
          rw [HGOT.out, HHAS.out]
          obtain ⟨hents6, hfar6, hb6⟩ := Pl.turned HP5.out hx6 hk6 hp6
          have hits6 : ∀ j, Its x vy j → j ≠ w3.heap.size := fun j hj => by
            rcases hj with q | q
            · have := HITS.out x (.inl rfl); omega
            · rcases hp6 j q with q | q
              · have := HITS.out j (.inr q); omega
              · omega
          have HG6 := Lib.hid (HG5.out.keep hk6 (fun e => by have := HITS.out _ e; omega)); have HW6 := Lib.hid (HW5.out.keep hk6 (fun e => by have := HITS.out _ e; omega)); have HE6 := Lib.hid (HE5.out.keep hk6 (fun e => by have := HITS.out _ e; omega))
          have HX6 := Lib.hid hx6; have HN6 := Lib.hid hents6; have HF6 := Lib.hid hfar6; have HB6 := Lib.hid hb6; have HI6 := Lib.hid hits6
          clear hx6 hk6 hp6 hents6 hfar6 hb6 hits6 HP5 HE5 HW5 HG5
          go_wp2_with (first
            | (refine wpList_store_en rfl _ _ rfl w3.heap.size gn gr ga gc rfl rfl ⟨#[]⟩ 0 0 0 HG6.out ?_; intro w7 hen hk7
               have HX7 := Lib.hid (HX6.out.keep hk7 HI6.out); have HN7 := Lib.hid (HN6.out.keep hk7 (fun hl a e q => by have := HAB.out hl a e; omega)); have HB7 := Lib.hid (below_keeps HB6.out hk7 (fun j e => by omega) HB6.out.size)
               have HW7 := Lib.hid (HW6.out.keep hk7 hq89); have HE7 := Lib.hid (HE6.out.keep hk7 hq69); have HG7 := Lib.hid hen
               obtain ⟨d0, d1, d2, d3, d4⟩ := HE7.out.cells
               clear hen hk7)
            | (refine wpList_load_en rfl _ rfl w3.heap.size rfl gn gr ga gc HG7.out ?_)
            | (refine wpList_load_en rfl _ rfl w2'.heap.size rfl gn gr ga gc HW7.out ?_))
          clear d0 d1 d2 d3 d4
          refine (HREF.out w7 HN7.out).mono ?_
          rintro e w8 ⟨v8, rfl, ho8, hb8⟩
          obtain ⟨A3, c3', hv8, h8a, h8b, h8e, h8f⟩ := ho8.ents
          obtain ⟨n3, hn3⟩ : ∃ n3, n3 = L3.length := ⟨_, rfl⟩
          rw [← hn3] at hv8 h8a hl3
          subst hv8
          have HP8 : Hid (Pl w w8 x vy L3 A3 n3 c3') := Lib.hid ⟨HX7.out.below hb8, h8e, fun a e hl hf => by have := (h8f a e).1; have := HX7.out.its _ hf; omega, bstep HB7.out hb8, HP.out.base, hn3, h8a, h8b, HS3.out⟩
          have HG8 := Lib.hid (HG7.out.below hb8); have HW8 := Lib.hid (HW7.out.below hb8)
          have hn3k : n3 ≤ k + 1 := by have := HLN.out; omega
          clear ho8 hb8 h8a h8b h8e h8f hn3 HREF HS3 HX6 HN6 HF6 HB6 HI6 HX7 HN7 HB7 HW7 HE7 HG7 HG6 HW6 HE6
          go_wp2_with (first
            | (refine wpList_load_en rfl _ rfl w3.heap.size rfl gn gr ga gc HG8.out ?_)
            | (refine wpList_load_en rfl _ rfl w2'.heap.size rfl gn gr ga gc HW8.out ?_))
          clear HGOT HHAS HDK HITS HAB hgd hfd HP
          refine (all_any x vy L3 x w8 HP8.out.ix).mono ?_
          rintro e wa ⟨va, rfl, hoa, hba⟩
          obtain ⟨Aa, ca, hva, -, -, hea, -⟩ := hoa.ents
          rw [← HP8.out.len] at hva
          subst hva
          have HPa := Lib.hid (HP8.out.below hba); have HEA := Lib.hid hea
          clear hoa hba hea HP8
          go_wp2_with fail
          refine (same_any Aa A3 L3 n3 ca c3' wa HEA.out HPa.out.ents HPa.out.len (by omega)).mono ?_
          rintro e wb ⟨rfl, hb⟩
          have HPb := Lib.hid (HPa.out.below hb)
          clear hb HPa HEA
          go_wp2_with fail
          have hnm := Index.names_any x vy L3 x wb HPb.out.ix
          have hdm := fun V hV => R22.names_any A3 L3 n3 c3' V hV HPb.out.len (by omega) HPb.out.sane
          rw [addAll_once (weak_names HPb.out.ix.rise)] at hdm
          have hol := once_len (L3.map En.name)
          rw [List.length_map, ← HPb.out.len] at hol
          generalize once (L3.map En.name) = NL at hnm hdm hol
          obtain ⟨m, hm⟩ : ∃ m, m = NL.length := ⟨_, rfl⟩
          have HM := Lib.hid hm; have HDM := Lib.hid hdm
          rw [← hm] at hol
          refine hnm.mono ?_
          clear hnm hdm
          rintro e wc ⟨Ac, cc, rfl, hc1, _hc2', hst, hb⟩
          rw [← hm] at hc1 ⊢
          clear hm
          have HPc := Lib.hid (HPb.out.below hb); have HSC := Lib.hid hst
          clear hst hb HPb hc1 _hc2'
          go_wp2_with fail
          refine (HDM.out wc HPc.out.ents).mono ?_
          rintro e wd ⟨Ad, cd, rfl, hd1, hd2, hsd, hb⟩
          rw [← HM.out] at hd1 ⊢
          have HPd := Lib.hid (HPc.out.below hb); have HSC2 := Lib.hid (HSC.out.below hb); have HSD := Lib.hid hsd
          clear hsd hb hd1 hd2 HPc HSC HDM
          go_wp2_with fail
          have hS := R07.same_any Ac Ad NL NL cc cd wd HSC2.out HSD.out (by rw [← HM.out]; omega) (by rw [← HM.out]; omega)
          rw [LabM.sameT_self, ← HM.out] at hS
          refine hS.mono ?_
          clear hS
          rintro e we ⟨rfl, nn, rfl⟩
          have HPe := Lib.hid (HPd.out.below (bdraw wd nn))
          generalize wd.drewN nn = wf at *
          clear HSC2 HSD HPd HM hol
          go_wp2
          go_roundw
          case rel => exact ⟨k + 1, A3, n3, c3', vy, L3, rfl, by go_num, by omega, hn3k, HPe⟩
          case measure => simp [intOf] <;> omega
        · subst hkd
          go_wp2_with (first
            | (refine wpList_store_en rfl _ _ rfl w2'.heap.size ⟨#[]⟩ 0 0 0 rfl rfl ⟨#[]⟩ 0 0 0 HN2.out ?_; intro wx hen hkx
               have HPX := Lib.hid (Pl.keepN HP.out HPB.out hkx (fun k e => by omega)); have HEX := Lib.hid (HEB.out.keep hkx hq68); have HWX := Lib.hid hen
               obtain ⟨f0, f1, f2, f3⟩ : EnLies wx b2 (o2 + p * 4) ⟨gn, gr, ga, gc⟩ := by
                 obtain ⟨b', o', e', k'⟩ := HPX.out.ents p HPL.out
                 injection e' with e'; injection e' with e1 e2; subst e1; subst e2
                 rw [← HGG.out] at k'; exact k'
               simp only at f0 f1 f2 f3
               clear hen hkx))
          clear f0 f1 f2 f3
          refine (as_any gn gr ga gc wx).mono ?_
          rintro e wy ⟨rfl, hb⟩
          have HPY := Lib.hid (HPX.out.below hb); have HEY := Lib.hid (HEX.out.below hb); have HWY := Lib.hid (HWX.out.below hb)
          clear hb
          go_wp2_with (first
            | (refine wpList_store_en rfl _ _ rfl w2'.heap.size gn gr ga gc rfl rfl ⟨#[]⟩ 0 0 0 HWY.out ?_; intro w3 hen hk3
               have HP3 := Lib.hid (Pl.keepN HP.out HPY.out hk3 (fun k e => by omega)); have HE3 := Lib.hid (HEY.out.keep hk3 hq68); have HW3 := Lib.hid hen
               have hba := balloc w3 (.cells #[.string ⟨#[]⟩, .int .i64 0, .int .i64 0, .int .i64 0] 35)
               obtain ⟨d0, d1, d2, d3, d4⟩ := (HE3.out.below hba).cells
               clear hen hk3))
          have HG4 := Lib.hid (EnB.new w3 ⟨#[]⟩ 0 0 0); have HP4 := Lib.hid (HP3.out.below hba); have HE4 := Lib.hid (HE3.out.below hba); have HW4 := Lib.hid (HW3.out.below hba)
          have hq89 : w2'.heap.size ≠ w3.heap.size := by have := HW3.out.lt; omega
          have hq69 : q6 ≠ w3.heap.size := by have := HE3.out.lt; omega
          have hw3 : wr.heap.size ≤ w3.heap.size := by have := HE3.out.lt; omega
          clear hba d0 d1 d2 d3 d4
          generalize w3.alloc (.cells #[.string ⟨#[]⟩, .int .i64 0, .int .i64 0, .int .i64 0] 35) = w4 at *
          refine (as_any zn zr za zc w4).mono ?_
          rintro e w5 ⟨rfl, hb⟩
          have HP5 := Lib.hid (HP4.out.below hb); have HE5 := Lib.hid (HE4.out.below hb); have HW5 := Lib.hid (HW4.out.below hb); have HG5 := Lib.hid (HG4.out.below hb)
          have hw35 : w3.heap.size < w5.heap.size := (HG4.out.below hb).lt
          have HITS := Lib.hid HP.out.ix.its
          have HAB := Lib.hid (fun hl a e => HP.out.ents.lt hl a e)
          have hwb : w.heap.size ≤ wr.heap.size := HP.out.b.size
          clear hb HP3 HE3 HW3 HG4 HP4 HE4 HW4 HPB HEB HN2
          go_wp2_with fail
          have hdrop := Index.drop_any x vx L zn zr x w5 HP5.out.ix
          rw [HDK.out] at hdrop
          refine hdrop.mono ?_
          clear hdrop
          rintro e w6 ⟨rfl, vy, hx6, hk6, hp6⟩
          rw [HGOT.out, HHAS.out]
          obtain ⟨hents6, hfar6, hb6⟩ := Pl.turned HP5.out hx6 hk6 hp6
          have hits6 : ∀ j, Its x vy j → j ≠ w3.heap.size := fun j hj => by
            rcases hj with q | q
            · have := HITS.out x (.inl rfl); omega
            · rcases hp6 j q with q | q
              · have := HITS.out j (.inr q); omega
              · omega
          have HG6 := Lib.hid (HG5.out.keep hk6 (fun e => by have := HITS.out _ e; omega)); have HW6 := Lib.hid (HW5.out.keep hk6 (fun e => by have := HITS.out _ e; omega)); have HE6 := Lib.hid (HE5.out.keep hk6 (fun e => by have := HITS.out _ e; omega))
          have HX6 := Lib.hid hx6; have HN6 := Lib.hid hents6; have HF6 := Lib.hid hfar6; have HB6 := Lib.hid hb6; have HI6 := Lib.hid hits6
          clear hx6 hk6 hp6 hents6 hfar6 hb6 hits6 HP5 HE5 HW5 HG5
          go_wp2_with (first
            | (refine wpList_store_en rfl _ _ rfl w3.heap.size gn gr ga gc rfl rfl ⟨#[]⟩ 0 0 0 HG6.out ?_; intro w7 hen hk7
               have HX7 := Lib.hid (HX6.out.keep hk7 HI6.out); have HN7 := Lib.hid (HN6.out.keep hk7 (fun hl a e q => by have := HAB.out hl a e; omega)); have HB7 := Lib.hid (below_keeps HB6.out hk7 (fun j e => by omega) HB6.out.size)
               have HW7 := Lib.hid (HW6.out.keep hk7 hq89); have HE7 := Lib.hid (HE6.out.keep hk7 hq69); have HG7 := Lib.hid hen
               obtain ⟨d0, d1, d2, d3, d4⟩ := HE7.out.cells
               clear hen hk7)
            | (refine wpList_load_en rfl _ rfl w3.heap.size rfl gn gr ga gc HG7.out ?_)
            | (refine wpList_load_en rfl _ rfl w2'.heap.size rfl gn gr ga gc HW7.out ?_))
          clear d0 d1 d2 d3 d4
          have href := R22.drop_any b2 o2 L n2 c2 p (p + 1) w7 HN7.out HP.out.len HP.out.cap HP.out.most hn2 hpn' rfl
          have hs3 := HP.out.sane.drop p
          have hl3 := HDL.out
          have hX7 := HX7.out
          generalize drop L p = L3 at href hs3 hl3 hX7
          have HS3 := Lib.hid hs3
          clear HX7
          have HX7 := Lib.hid hX7
          have HREF := Lib.hid True.intro
          refine href.mono ?_
          clear href hs3 hX7
          rintro e w8 ⟨v8, rfl, ho8, hb8⟩
          obtain ⟨A3, c3', hv8, h8a, h8b, h8e, h8f⟩ := ho8.ents
          obtain ⟨n3, hn3⟩ : ∃ n3, n3 = L3.length := ⟨_, rfl⟩
          rw [← hn3] at hv8 h8a hl3
          subst hv8
          have HP8 : Hid (Pl w w8 x vy L3 A3 n3 c3') := Lib.hid ⟨HX7.out.below hb8, h8e, fun a e hl hf => by have := (h8f a e).1; have := HX7.out.its _ hf; omega, bstep HB7.out hb8, HP.out.base, hn3, h8a, h8b, HS3.out⟩
          have HG8 := Lib.hid (HG7.out.below hb8); have HW8 := Lib.hid (HW7.out.below hb8)
          have hn3k : n3 ≤ k + 1 := by have := HLN.out; omega
          clear ho8 hb8 h8a h8b h8e h8f hn3 HREF HS3 HX6 HN6 HF6 HB6 HI6 HX7 HN7 HB7 HW7 HE7 HG7 HG6 HW6 HE6
          go_wp2_with (first
            | (refine wpList_load_en rfl _ rfl w3.heap.size rfl gn gr ga gc HG8.out ?_)
            | (refine wpList_load_en rfl _ rfl w2'.heap.size rfl gn gr ga gc HW8.out ?_))
          clear HGOT HHAS HDK HITS HAB hgd hfd HP
          refine (all_any x vy L3 x w8 HP8.out.ix).mono ?_
          rintro e wa ⟨va, rfl, hoa, hba⟩
          obtain ⟨Aa, ca, hva, -, -, hea, -⟩ := hoa.ents
          rw [← HP8.out.len] at hva
          subst hva
          have HPa := Lib.hid (HP8.out.below hba); have HEA := Lib.hid hea
          clear hoa hba hea HP8
          go_wp2_with fail
          refine (same_any Aa A3 L3 n3 ca c3' wa HEA.out HPa.out.ents HPa.out.len (by omega)).mono ?_
          rintro e wb ⟨rfl, hb⟩
          have HPb := Lib.hid (HPa.out.below hb)
          clear hb HPa HEA
          go_wp2_with fail
          have hnm := Index.names_any x vy L3 x wb HPb.out.ix
          have hdm := fun V hV => R22.names_any A3 L3 n3 c3' V hV HPb.out.len (by omega) HPb.out.sane
          rw [addAll_once (weak_names HPb.out.ix.rise)] at hdm
          have hol := once_len (L3.map En.name)
          rw [List.length_map, ← HPb.out.len] at hol
          generalize once (L3.map En.name) = NL at hnm hdm hol
          obtain ⟨m, hm⟩ : ∃ m, m = NL.length := ⟨_, rfl⟩
          have HM := Lib.hid hm; have HDM := Lib.hid hdm
          rw [← hm] at hol
          refine hnm.mono ?_
          clear hnm hdm
          rintro e wc ⟨Ac, cc, rfl, hc1, _hc2', hst, hb⟩
          rw [← hm] at hc1 ⊢
          clear hm
          have HPc := Lib.hid (HPb.out.below hb); have HSC := Lib.hid hst
          clear hst hb HPb hc1 _hc2'
          go_wp2_with fail
          refine (HDM.out wc HPc.out.ents).mono ?_
          rintro e wd ⟨Ad, cd, rfl, hd1, hd2, hsd, hb⟩
          rw [← HM.out] at hd1 ⊢
          have HPd := Lib.hid (HPc.out.below hb); have HSC2 := Lib.hid (HSC.out.below hb); have HSD := Lib.hid hsd
          clear hsd hb hd1 hd2 HPc HSC HDM
          go_wp2_with fail
          have hS := R07.same_any Ac Ad NL NL cc cd wd HSC2.out HSD.out (by rw [← HM.out]; omega) (by rw [← HM.out]; omega)
          rw [LabM.sameT_self, ← HM.out] at hS
          refine hS.mono ?_
          clear hS
          rintro e we ⟨rfl, nn, rfl⟩
          have HPe := Lib.hid (HPd.out.below (bdraw wd nn))
          generalize wd.drewN nn = wf at *
          clear HSC2 HSD HPd HM hol
          go_wp2
          go_roundw
          case rel => exact ⟨k + 1, A3, n3, c3', vy, L3, rfl, by go_num, by omega, hn3k, HPe⟩
          case measure => simp [intOf] <;> omega
        · have hk0 : (kd == 0) = false := by simpa using hkd.1
          have hk1 : (kd == 1) = false := by simpa using hkd.2
          have hk0' : ¬ kd = 0 := hkd.1
          have hk1' : ¬ kd = 1 := hkd.2
          clear hkd
          go_wp2_with (first
            | (refine wpList_store_en rfl _ _ rfl w2'.heap.size ⟨#[]⟩ 0 0 0 rfl rfl ⟨#[]⟩ 0 0 0 HN2.out ?_; intro wx hen hkx
               have HPX := Lib.hid (Pl.keepN HP.out HPB.out hkx (fun k e => by omega)); have HEX := Lib.hid (HEB.out.keep hkx hq68); have HWX := Lib.hid hen
               obtain ⟨f0, f1, f2, f3⟩ : EnLies wx b2 (o2 + p * 4) ⟨gn, gr, ga, gc⟩ := by
                 obtain ⟨b', o', e', k'⟩ := HPX.out.ents p HPL.out
                 injection e' with e'; injection e' with e1 e2; subst e1; subst e2
                 rw [← HGG.out] at k'; exact k'
               simp only at f0 f1 f2 f3
               clear hen hkx))
          clear f0 f1 f2 f3
          refine (as_any gn gr ga gc wx).mono ?_
          rintro e wy ⟨rfl, hb⟩
          have HPY := Lib.hid (HPX.out.below hb); have HEY := Lib.hid (HEX.out.below hb); have HWY := Lib.hid (HWX.out.below hb)
          clear hb
          go_wp2_with (first
            | (refine wpList_store_en rfl _ _ rfl w2'.heap.size gn gr ga gc rfl rfl ⟨#[]⟩ 0 0 0 HWY.out ?_; intro w3 hen hk3
               have HP3 := Lib.hid (Pl.keepN HP.out HPY.out hk3 (fun k e => by omega)); have HE3 := Lib.hid (HEY.out.keep hk3 hq68); have HW3 := Lib.hid hen
               have hba := balloc w3 (.cells #[.string ⟨#[]⟩, .int .i64 0, .int .i64 0, .int .i64 0] 35)
               obtain ⟨d0, d1, d2, d3, d4⟩ := (HE3.out.below hba).cells
               clear hen hk3))
          have HG4 := Lib.hid (EnB.new w3 ⟨#[]⟩ 0 0 0); have HP4 := Lib.hid (HP3.out.below hba); have HE4 := Lib.hid (HE3.out.below hba); have HW4 := Lib.hid (HW3.out.below hba)
          have hq89 : w2'.heap.size ≠ w3.heap.size := by have := HW3.out.lt; omega
          have hq69 : q6 ≠ w3.heap.size := by have := HE3.out.lt; omega
          have hw3 : wr.heap.size ≤ w3.heap.size := by have := HE3.out.lt; omega
          clear hba d0 d1 d2 d3 d4
          generalize w3.alloc (.cells #[.string ⟨#[]⟩, .int .i64 0, .int .i64 0, .int .i64 0] 35) = w4 at *
          refine (as_any zn zr za zc w4).mono ?_
          rintro e w5 ⟨rfl, hb⟩
          have HP5 := Lib.hid (HP4.out.below hb); have HE5 := Lib.hid (HE4.out.below hb); have HW5 := Lib.hid (HW4.out.below hb); have HG5 := Lib.hid (HG4.out.below hb)
          have hw35 : w3.heap.size < w5.heap.size := (HG4.out.below hb).lt
          have HITS := Lib.hid HP.out.ix.its
          have HAB := Lib.hid (fun hl a e => HP.out.ents.lt hl a e)
          have hwb : w.heap.size ≤ wr.heap.size := HP.out.b.size
          clear hb HP3 HE3 HW3 HG4 HP4 HE4 HW4 HPB HEB HN2
          go_wp2_with fail
          refine (Index.find_any x vx L zn zr x w5 HP5.out.ix).mono ?_
          rintro e w6 ⟨rfl, hb⟩
          rw [HGOT.out, HHAS.out]
          have HP6 := Lib.hid (HP5.out.below hb); have HW6 := Lib.hid (HW5.out.below hb); have HG6 := Lib.hid (HG5.out.below hb)
          clear hb HP5 HE5 HW5 HG5
          go_wp2_with (first
            | (refine wpList_store_en rfl _ _ rfl w3.heap.size gn gr ga gc rfl rfl ⟨#[]⟩ 0 0 0 HG6.out ?_; intro w7 hen hk7
               have HP8 := Lib.hid (Pl.keepN HP.out HP6.out hk7 (fun j e => by omega))
               have HW7 := Lib.hid (HW6.out.keep hk7 hq89); have HG7 := Lib.hid hen
               clear hen hk7)
            | (refine wpList_load_en rfl _ rfl w3.heap.size rfl gn gr ga gc HG7.out ?_)
            | (refine wpList_load_en rfl _ rfl w2'.heap.size rfl gn gr ga gc HW7.out ?_))
          have hn3k : n2 ≤ k + 1 := by omega
          clear HGOT HHAS HDK HITS HAB hgd hfd HP
          refine (all_any x vx L x w7 HP8.out.ix).mono ?_
          rintro e wa ⟨va, rfl, hoa, hba⟩
          obtain ⟨Aa, ca, hva, -, -, hea, -⟩ := hoa.ents
          rw [← HP8.out.len] at hva
          subst hva
          have HPa := Lib.hid (HP8.out.below hba); have HEA := Lib.hid hea
          clear hoa hba hea HP8
          go_wp2_with fail
          refine (same_any Aa (some ⟨b2, o2, none⟩) L n2 ca c2 wa HEA.out HPa.out.ents HPa.out.len (by omega)).mono ?_
          rintro e wb ⟨rfl, hb⟩
          have HPb := Lib.hid (HPa.out.below hb)
          clear hb HPa HEA
          go_wp2_with fail
          have hnm := Index.names_any x vx L x wb HPb.out.ix
          have hdm := fun V hV => R22.names_any (some ⟨b2, o2, none⟩) L n2 c2 V hV HPb.out.len (by omega) HPb.out.sane
          rw [addAll_once (weak_names HPb.out.ix.rise)] at hdm
          have hol := once_len (L.map En.name)
          rw [List.length_map, ← HPb.out.len] at hol
          generalize once (L.map En.name) = NL at hnm hdm hol
          obtain ⟨m, hm⟩ : ∃ m, m = NL.length := ⟨_, rfl⟩
          have HM := Lib.hid hm; have HDM := Lib.hid hdm
          rw [← hm] at hol
          refine hnm.mono ?_
          clear hnm hdm
          rintro e wc ⟨Ac, cc, rfl, hc1, _hc2', hst, hb⟩
          rw [← hm] at hc1 ⊢
          clear hm
          have HPc := Lib.hid (HPb.out.below hb); have HSC := Lib.hid hst
          clear hst hb HPb hc1 _hc2'
          go_wp2_with fail
          refine (HDM.out wc HPc.out.ents).mono ?_
          rintro e wd ⟨Ad, cd, rfl, hd1, hd2, hsd, hb⟩
          rw [← HM.out] at hd1 ⊢
          have HPd := Lib.hid (HPc.out.below hb); have HSC2 := Lib.hid (HSC.out.below hb); have HSD := Lib.hid hsd
          clear hsd hb hd1 hd2 HPc HSC HDM
          go_wp2_with fail
          have hS := R07.same_any Ac Ad NL NL cc cd wd HSC2.out HSD.out (by rw [← HM.out]; omega) (by rw [← HM.out]; omega)
          rw [LabM.sameT_self, ← HM.out] at hS
          refine hS.mono ?_
          clear hS
          rintro e we ⟨rfl, nn, rfl⟩
          have HPe := Lib.hid (HPd.out.below (bdraw wd nn))
          generalize wd.drewN nn = wf at *
          clear HSC2 HSD HPd HM hol
          go_wp2
          go_roundw
          case rel => exact ⟨k + 1, (some ⟨b2, o2, none⟩), n2, c2, vx, L, rfl, by go_num, by omega, hn3k, HPe⟩
          case measure => simp [intOf] <;> omega
    · obtain rfl : k = n := by omega
      go_wp2_with fail
      refine (HAL.out wr).mono ?_
      rintro e w3 ⟨rfl, hb⟩
      have HF := Lib.hid (bstep HP.out.b hb)
      clear hb
      go_wp2
      go_ret
      exact ⟨rfl, HF.out⟩
end Go.Proofs.Ytnjdioghjjaegaa.Law22
