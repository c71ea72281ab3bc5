/- the walk of layer 6's third law -/
import Derived.Test.YtpeldafbgcjefaaLaw06
import Derived.Lib.MinMax
set_option maxRecDepth 100000
namespace Go.Proofs.Ytpeldafbgcjefaa.Law06B
open Go.RowKit Law06

/-! what was written is read back -/
theorem raw_at {b pre x rest : List UInt8} (h : b = pre ++ (x ++ rest)) : PackM.rawL b ⟨pre.length, false⟩ x.length = x ∧ PackM.rawS b ⟨pre.length, false⟩ x.length = ⟨(pre ++ x).length, false⟩ := by
  subst h
  have hn : ¬ (((pre ++ (x ++ rest)).length : Int) - (pre.length : Nat) < (x.length : Int)) := by simp only [List.length_append]; omega
  have hd : ¬ ((false || decide (((pre ++ (x ++ rest)).length : Int) - (pre.length : Nat) < (x.length : Int))) = true) := by rw [Bool.false_or, decide_eq_false hn]; simp
  constructor
  · unfold PackM.rawL
    rw [if_neg hd, Int.toNat_natCast, List.drop_left, List.take_left]
  · unfold PackM.rawS
    rw [if_neg hd, Int.toNat_natCast, List.length_append]
theorem out_split (l : List Act6) (k : Nat) (h : k < l.length) : ∃ rest, outTo l l.length = outTo l k ++ (outL l[k] ++ rest) := by
  refine ⟨(l.drop (k + 1)).flatMap outL, ?_⟩
  unfold outTo
  rw [List.take_length]
  have e : l = l.take k ++ (l[k] :: l.drop (k + 1)) := by rw [← List.drop_eq_getElem_cons h, List.take_append_drop]
  have : l.flatMap outL = (l.take k ++ (l[k] :: l.drop (k + 1))).flatMap outL := by rw [← e]
  rw [this, List.flatMap_append, List.flatMap_cons]
theorem back_num (l : List Act6) (k : Nat) (h : k < l.length) (hk : l[k].kind = 0) :
    PackM.numV (outTo l l.length) ⟨(outTo l k).length, false⟩ l[k].k = l[k].n.toNat % 256 ^ PackM.wid l[k].k ∧ PackM.numS (outTo l l.length) ⟨(outTo l k).length, false⟩ l[k].k = ⟨(outTo l (k + 1)).length, false⟩ := by
  obtain ⟨rest, hr⟩ := out_split l k h
  have ho : outL l[k] = PackM.numB l[k].k l[k].n := by unfold outL; rw [if_pos hk]
  rw [outTo_succ l k h]
  rw [ho] at hr ⊢
  obtain ⟨h1, h2⟩ := raw_at hr
  rw [PackM.numB_len] at h1 h2
  unfold PackM.numV PackM.numS
  rw [h1, h2]
  exact ⟨PackM.val_be _ _, rfl⟩
theorem back_raw (l : List Act6) (k : Nat) (h : k < l.length) (h0 : l[k].kind ≠ 0) (hk : l[k].kind = 1) :
    PackM.rawL (outTo l l.length) ⟨(outTo l k).length, false⟩ l[k].b.length = l[k].b ∧ PackM.rawS (outTo l l.length) ⟨(outTo l k).length, false⟩ l[k].b.length = ⟨(outTo l (k + 1)).length, false⟩ := by
  obtain ⟨rest, hr⟩ := out_split l k h
  have ho : outL l[k] = l[k].b := by unfold outL; rw [if_neg h0, if_pos hk]
  rw [outTo_succ l k h]
  rw [ho] at hr ⊢
  exact raw_at hr
theorem back_text (l : List Act6) (k : Nat) (h : k < l.length) (h0 : l[k].kind ≠ 0) (hk : l[k].kind ≠ 1) :
    PackM.textL (outTo l l.length) ⟨(outTo l k).length, false⟩ = l[k].b.take 255 ∧ PackM.textS (outTo l l.length) ⟨(outTo l k).length, false⟩ = ⟨(outTo l (k + 1)).length, false⟩ := by
  obtain ⟨rest, hr⟩ := out_split l k h
  have ho : outL l[k] = PackM.textB l[k].b := by unfold outL; rw [if_neg h0, if_neg hk]
  rw [outTo_succ l k h]
  rw [ho] at hr ⊢
  have e1 : PackM.textB l[k].b = [UInt8.ofNat (min l[k].b.length 255)] ++ l[k].b.take 255 := rfl
  have hr1 : outTo l l.length = outTo l k ++ ([UInt8.ofNat (min l[k].b.length 255)] ++ (l[k].b.take 255 ++ rest)) := by rw [hr, e1, List.append_assoc]
  obtain ⟨p1, p2⟩ := raw_at hr1
  have hr2 : outTo l l.length = (outTo l k ++ [UInt8.ofNat (min l[k].b.length 255)]) ++ (l[k].b.take 255 ++ rest) := by rw [hr1, List.append_assoc]
  obtain ⟨p3, p4⟩ := raw_at hr2
  have w1 : PackM.wid 1 = 1 := by decide
  have hv : PackM.numV (outTo l l.length) ⟨(outTo l k).length, false⟩ 1 = (l[k].b.take 255).length := by
    unfold PackM.numV
    rw [w1]
    have p1' : PackM.rawL (outTo l l.length) ⟨(outTo l k).length, false⟩ ((1 : Nat) : Int) = [UInt8.ofNat (min l[k].b.length 255)] := p1
    rw [p1', List.length_take]
    unfold PackM.val
    simp only [List.foldl_cons, List.foldl_nil, Nat.mul_zero, Nat.zero_add]
    rw [UInt8.toNat_ofNat_of_lt' (by simp only [UInt8.size]; omega)]
    exact Nat.min_comm _ _
  have hs : PackM.numS (outTo l l.length) ⟨(outTo l k).length, false⟩ 1 = ⟨(outTo l k ++ [UInt8.ofNat (min l[k].b.length 255)]).length, false⟩ := by
    unfold PackM.numS
    rw [w1]
    exact p2
  unfold PackM.textL PackM.textS
  rw [hv, hs, p3, p4, e1, List.append_assoc]
  exact ⟨rfl, rfl⟩

set_option maxRecDepth 100000 in
set_option maxHeartbeats 2000000 in
theorem back_any (A : Option Addr) (l : List Act6) (c : Nat) (w : World) (h : ActsAt w A l) (hc : l.length ≤ c) (hc2 : c ≤ maxLen) :
    Calls Try.prog 5 #[.slice A l.length c] w fun e w' => e = .returned (.bool true) ∧ Below w.heap.size w w' := by
  have hl : l.length ≤ 9223372036854775807 := by unfold maxLen at hc2; omega
  rcases hlt : lightB l with _ | _
  · have C := heavy_any A l c w h hl hlt
    clear hlt
    go_enter Try.func5, Try.ntmps5
    go_wp2_with fail
    refine C.mono ?_
    clear C
    rintro e w1 ⟨rfl, hb1⟩
    go_wp2_with fail
    refine (alive_any _).mono ?_
    rintro e w2 ⟨rfl, hb2⟩
    go_wp2
    go_ret
    exact ⟨rfl, bstep hb1 hb2⟩
  have C := light_any A l c w h hl
  obtain ⟨hs1, hs2⟩ := (lightB_iff l).1 hlt
  rw [hlt] at C
  have HS := Lib.hid hs1
  clear hlt hs1
  go_enter Try.func5, Try.ntmps5
  go_wp2_with fail
  refine C.mono ?_
  clear C
  rintro e w1 ⟨rfl, hb1⟩
  have H := Lib.hid (h.below hb1)
  clear h
  go_wp2_with fail
  go_loopw [15] (fun i wr => ∃ (k : Nat) (v : Value), k ≤ l.length ∧ i = .int .i64 k ∧ Both w1 (outTo l k) [] v (.slice none 0 0) wr)
    (fun i _ => l.length - (intOf i).toNat)
  case atStart => exact ⟨0, _, Nat.zero_le _, rfl, Both.start w1 _⟩
  case round =>
    obtain ⟨k, v, hk, rfl, hB⟩ := hrel
    rename World => w0
    have hol := outTo_len l HS.out k hk
    have HOL := Lib.hid hol
    clear hol
    by_cases hlt : k < l.length
    · obtain ⟨b, o, B, cb, hA, e0, e1, e2, e3, h4, h5, h6, h7, h8, h9⟩ := H.out k hlt
      subst hA
      have e0 := (hB.below.cell (p := ⟨b, o + k * 4, none⟩) (cell_lt e0)).trans e0
      have e1 := (hB.below.cell (p := ⟨b, o + k * 4 + 1, none⟩) (cell_lt e1)).trans e1
      have e2 := (hB.below.cell (p := ⟨b, o + k * 4 + 2, none⟩) (cell_lt e2)).trans e2
      have e3 := (hB.below.cell (p := ⟨b, o + k * 4 + 3, none⟩) (cell_lt e3)).trans e3
      have hblt : 0 < l[k].b.length → ∀ x, B = some x → x.block < w1.heap.size := fun h0 => h6.lt h0
      have h6 := h6.below hB.below
      have HLT := Lib.hid hblt
      clear hblt
      have hsu := outTo_succ l k hlt
      have hle := HS.out k hlt
      have HB := Lib.hid hB; have H6 := Lib.hid h6
      clear hB h6
      generalize l[k] = a at *
      have hbx := HB.out.keep (balloc w0 (.cells #[.int .i64 a.kind, .int .i64 a.k, .int .i64 a.n, .slice B a.b.length cb] 29))
      have hbW := hbx.below.size
      have hBne : 0 < a.b.length → ∀ x, B = some x → x.block ≠ w1.heap.size ∧ v.ownBlock ≠ some x.block := fun h0 x hx => by
        have hx1 := HLT.out h0 x hx
        exact ⟨by omega, fun e => by have := (HB.out.wat.own.lt _ e).1; omega⟩
      have hbz : (outTo l k).length ≤ 1048576 := by have := HOL.out; omega
      have HBX := Lib.hid hbx; have H6' := Lib.hid (H6.out.below (balloc w0 (.cells #[.int .i64 a.kind, .int .i64 a.k, .int .i64 a.n, .slice B a.b.length cb] 29)))
      clear hbx
      obtain ⟨u1, u2⟩ := h8
      obtain ⟨u3, u4⟩ := h9
      by_cases hk0 : a.kind = 0
      · have q0 : (a.kind == 0) = true := by simp [hk0]
        rw [show outL a = PackM.numB a.k a.n from by unfold outL; rw [if_pos hk0]] at hsu
        have HSU := Lib.hid hsu
        clear hsu hk0
        go_wp2_with fail
        refine (Pack.wnum_any w1.heap.size w1.heap.size v (outTo l k) a.k a.n _ HBX.out.wat hbz hbW ⟨u3, u4⟩).mono ?_
        rintro e w2 ⟨rfl, v2, hw2, qq, pp⟩
        have HB2 := Lib.hid (HBX.out.write hw2 qq pp)
        clear hw2 qq pp
        go_wp2
        go_roundw
        case rel => exact ⟨k + 1, v2, by omega, by go_num, by rw [HSU.out]; exact HB2.out⟩
        case measure => simp [intOf] <;> omega
      · have q0 : (a.kind == 0) = false := by simpa using hk0
        by_cases hk1 : a.kind = 1
        · have q1 : (a.kind == 1) = true := by simp [hk1]
          rw [show outL a = a.b from by unfold outL; rw [if_neg hk0, if_pos hk1]] at hsu
          have HSU := Lib.hid hsu
          clear hsu hk0 hk1
          go_wp2_with fail
          refine (Pack.wraw_any w1.heap.size w1.heap.size v (outTo l k) B a.b cb _ HBX.out.wat hbz hbW H6'.out (by omega)).mono ?_
          rintro e w2 ⟨rfl, v2, hw2, qq, pp⟩
          have HB2 := Lib.hid (HBX.out.write hw2 qq pp)
          clear hw2 qq pp
          go_wp2
          go_roundw
          case rel => exact ⟨k + 1, v2, by omega, by go_num, by rw [HSU.out]; exact HB2.out⟩
          case measure => simp [intOf] <;> omega
        · have q1 : (a.kind == 1) = false := by simpa using hk1
          rw [show outL a = PackM.textB a.b from by unfold outL; rw [if_neg hk0, if_neg hk1]] at hsu
          have HSU := Lib.hid hsu
          clear hsu hk0 hk1
          go_wp2_with fail
          refine (Pack.wtext_any w1.heap.size w1.heap.size v (outTo l k) B a.b cb _ HBX.out.wat (by have := HOL.out; omega) hbW H6'.out (by omega) h4 h5 hBne).mono ?_
          rintro e w2 ⟨rfl, v2, hw2, qq, pp⟩
          have HB2 := Lib.hid (HBX.out.write hw2 qq pp)
          clear hw2 qq pp
          go_wp2
          go_roundw
          case rel => exact ⟨k + 1, v2, by omega, by go_num, by rw [HSU.out]; exact HB2.out⟩
          case measure => simp [intOf] <;> omega
    · obtain rfl : k = l.length := by omega
      have HB := Lib.hid hB
      clear hB
      go_wp2_with fail
      have hb3 : (outTo l l.length).length ≤ 1048576 := by have := HOL.out; omega
      refine (Pack.wbytes_any _ _ _ _ _ HB.out.wat (by omega)).mono ?_
      rintro e w9 ⟨A5, c1, rfl, _, _, hA1, hb9, _⟩
      have HA1 := Lib.hid hA1
      have hbw := bstep HB.out.below hb9
      have HBW := Lib.hid hbw
      clear hA1 hbw hb9
      go_wp2_with fail
      refine (Pack.read_any A5 (outTo l l.length) c1 w9 HA1.out hb3).mono ?_
      rintro e w2 ⟨g, A1, rfl, hr2, hb2, hg2, _⟩
      have hg1 : w1.heap.size ≤ g := Nat.le_trans HBW.out.size hg2
      have HR := Lib.hid hr2; have HB2 := Lib.hid (bstep HBW.out hb2)
      clear hr2 hb2
      go_wp2_with fail
      have hst : (⟨0, false⟩ : PackM.St) = ⟨(outTo l 0).length, false⟩ := rfl
      rw [hst] at HR
      clear hst HB HA1
      go_loopw [41] (fun i wr => ∃ k : Nat, k ≤ l.length ∧ i = .int .i64 k ∧ Pack.RdAt wr g A1 (outTo l l.length) ⟨(outTo l k).length, false⟩ ∧ Below w1.heap.size w1 wr)
        (fun i _ => l.length - (intOf i).toNat)
      case atStart => exact ⟨0, Nat.zero_le _, rfl, HR.out, HB2.out⟩
      case round =>
        obtain ⟨k, hk, rfl, hR, hbr⟩ := hrel
        clear HR HB2
        rename World => w4
        have hgl := hR.lt
        have HR := Lib.hid hR; have HBR := Lib.hid hbr
        clear hR hbr
        by_cases hlt2 : k < l.length
        · obtain ⟨b, o, B, cb, hA, e0, e1, e2, e3, h4, h5, h6, h7, h8, h9⟩ := H.out k hlt2
          subst hA
          have e0 := (HBR.out.cell (p := ⟨b, o + k * 4, none⟩) (cell_lt e0)).trans e0
          have e1 := (HBR.out.cell (p := ⟨b, o + k * 4 + 1, none⟩) (cell_lt e1)).trans e1
          have e2 := (HBR.out.cell (p := ⟨b, o + k * 4 + 2, none⟩) (cell_lt e2)).trans e2
          have e3 := (HBR.out.cell (p := ⟨b, o + k * 4 + 3, none⟩) (cell_lt e3)).trans e3
          have hblt : 0 < l[k].b.length → ∀ x, B = some x → x.block < w1.heap.size := fun h0 => h6.lt h0
          have h6 := h6.below HBR.out
          have hle := HS.out k hlt2
          have bn := back_num l k hlt2
          have br := back_raw l k hlt2
          have bt := back_text l k hlt2
          have HLT := Lib.hid hblt; have H6 := Lib.hid h6; have BN := Lib.hid bn; have BR := Lib.hid br; have BT := Lib.hid bt
          clear hblt h6 bn br bt
          generalize l[k] = a at *
          obtain ⟨u1, u2⟩ := h8
          obtain ⟨u3, u4⟩ := h9
          have x1 : (w4.alloc (.cells #[.int .i64 a.kind, .int .i64 a.k, .int .i64 a.n, .slice B a.b.length cb] 29)).cell? ⟨w4.heap.size, 1, none⟩ = some (.int .i64 a.k) := by simp
          have x2 : (w4.alloc (.cells #[.int .i64 a.kind, .int .i64 a.k, .int .i64 a.n, .slice B a.b.length cb] 29)).cell? ⟨w4.heap.size, 2, none⟩ = some (.int .i64 a.n) := by simp
          have x3 : (w4.alloc (.cells #[.int .i64 a.kind, .int .i64 a.k, .int .i64 a.n, .slice B a.b.length cb] 29)).cell? ⟨w4.heap.size, 3, none⟩ = some (.slice B a.b.length cb) := by simp
          have hgn : w4.heap.size ≠ g := by omega
          have HRX := Lib.hid (HR.out.below (balloc w4 (.cells #[.int .i64 a.kind, .int .i64 a.k, .int .i64 a.n, .slice B a.b.length cb] 29)))
          have HBX := Lib.hid (bstep HBR.out (balloc w4 (.cells #[.int .i64 a.kind, .int .i64 a.k, .int .i64 a.n, .slice B a.b.length cb] 29)))
          have H6X := Lib.hid (H6.out.below (balloc w4 (.cells #[.int .i64 a.kind, .int .i64 a.k, .int .i64 a.n, .slice B a.b.length cb] 29)))
          have X1 := Lib.hid x1; have X2 := Lib.hid x2; have X3 := Lib.hid x3
          clear x1 x2 x3
          by_cases hk0 : a.kind = 0
          · have q0 : (a.kind == 0) = true := by simp [hk0]
            obtain ⟨hv, hsn⟩ := BN.out hk0
            have HV := Lib.hid hv; have HSN := Lib.hid hsn
            clear hk0 hv hsn
            go_wp2
            generalize w4.alloc (.cells #[.int .i64 a.kind, .int .i64 a.k, .int .i64 a.n, .slice B a.b.length cb] 29) = W at HRX HBX H6X X1 X2 X3 ⊢
            have x1 := X1.out
            have x2 := X2.out
            obtain ⟨X, hX⟩ : ∃ X : Int, X = max a.n 0 := ⟨_, rfl⟩
            obtain ⟨V, hVV⟩ : ∃ V, V = PackM.numV (outTo l l.length) ⟨(outTo l k).length, false⟩ a.k := ⟨_, rfl⟩
            have hX0 : 0 ≤ X := by omega
            have hX1 : X = (a.n.toNat : Int) := by omega
            have hmx : max a.n 0 = X := hX.symm
            have HVV := Lib.hid hVV.symm
            have hv := HV.out
            have C1 := fun W => Pack.rnum_any g A1 (outTo l l.length) ⟨(outTo l k).length, false⟩ a.k W
            rw [← hVV, HSN.out] at C1
            have HC1 := Lib.hid C1
            clear C1 hX hVV
            have hw := PackM.wid_range a.k
            rcases (show PackM.wid a.k = 1 ∨ PackM.wid a.k = 2 ∨ PackM.wid a.k = 3 ∨ PackM.wid a.k = 4 by omega) with hm | hm | hm | hm
            · have HM := Lib.hid hm
              rw [hm] at hv
              have hr1 : X.tmod 256 = (V : Int) := by
                rw [Int.tmod_eq_emod_of_nonneg (by omega)]
                rw [← HVV.out, hv]
                omega
              have hV : (V : Int) < 256 := by rw [← hr1, Int.tmod_eq_emod_of_nonneg (by omega)]; exact Int.emod_lt_of_pos _ (by decide)
              have C2 := fun W => R06.width_any a.k W
              rw [HM.out] at C2
              have HC2 := Lib.hid C2
              have i8 : IntKind.i64.wrap 8 = 8 := by decide
              have i10 : IntKind.i64.wrap 256 = 256 := by decide
              have i9 : IntKind.i64.wrap (V : Int) = (V : Int) := IntWalk.i64_in _ (by omega)
              have hsh : ∀ W, (Op.shift .shl .i64 1 .i64 8).run Try.prog W = .ok (.int .i64 256) W := fun W => by rfl
              clear hm hw C2 hv hX0 hX1
              go_region_held3 (fun w' => w'.cell? ⟨w4.heap.size, 1, none⟩ = some (.int .i64 a.k) ∧ w'.cell? ⟨w4.heap.size, 2, none⟩ = some (.int .i64 a.n)) (first | (exact ⟨x1b, x2b⟩) | (exact ⟨x1, x2⟩) | go_keep) ((first
                | (go_simp; go_at_call 16; refine (HC1.out _ (HRX.out.below (bdraw _ _)) hb3).mono ?_; rintro e w5 ⟨rfl, hr5, hg5⟩; have x1b := (Keeps.grow (F := fun y => y = g) hg5 rfl).cell (p := ⟨w4.heap.size, 1, none⟩) X1.out hgn; have x2b := (Keeps.grow (F := fun y => y = g) hg5 rfl).cell (p := ⟨w4.heap.size, 2, none⟩) X2.out hgn; have HR5 := Lib.hid hr5; have HG5 := Lib.hid hg5; clear hr5 hg5)
                | (go_simp; go_at_call 25; refine (HC2.out _).mono ?_; rintro e w' ⟨rfl, rfl⟩)))
              all_goals
                clear hr1 i8 i9 i10 hsh hmx
                go_wp2
                go_roundw
                case rel => exact ⟨k + 1, by omega, by go_num, HR5.out, below_grow (below_drewN HBX.out _) HG5.out hg1 (below_drewN HBX.out _).size⟩
                case measure => simp [intOf] <;> omega
            · have HM := Lib.hid hm
              rw [hm] at hv
              have hr1 : X.tmod 65536 = (V : Int) := by
                rw [Int.tmod_eq_emod_of_nonneg (by omega)]
                rw [← HVV.out, hv]
                omega
              have hV : (V : Int) < 65536 := by rw [← hr1, Int.tmod_eq_emod_of_nonneg (by omega)]; exact Int.emod_lt_of_pos _ (by decide)
              have C2 := fun W => R06.width_any a.k W
              rw [HM.out] at C2
              have HC2 := Lib.hid C2
              have i8 : IntKind.i64.wrap 16 = 16 := by decide
              have i10 : IntKind.i64.wrap 65536 = 65536 := by decide
              have i9 : IntKind.i64.wrap (V : Int) = (V : Int) := IntWalk.i64_in _ (by omega)
              have hsh : ∀ W, (Op.shift .shl .i64 1 .i64 16).run Try.prog W = .ok (.int .i64 65536) W := fun W => by rfl
              clear hm hw C2 hv hX0 hX1
              go_region_held3 (fun w' => w'.cell? ⟨w4.heap.size, 1, none⟩ = some (.int .i64 a.k) ∧ w'.cell? ⟨w4.heap.size, 2, none⟩ = some (.int .i64 a.n)) (first | (exact ⟨x1b, x2b⟩) | (exact ⟨x1, x2⟩) | go_keep) ((first
                | (go_simp; go_at_call 16; refine (HC1.out _ (HRX.out.below (bdraw _ _)) hb3).mono ?_; rintro e w5 ⟨rfl, hr5, hg5⟩; have x1b := (Keeps.grow (F := fun y => y = g) hg5 rfl).cell (p := ⟨w4.heap.size, 1, none⟩) X1.out hgn; have x2b := (Keeps.grow (F := fun y => y = g) hg5 rfl).cell (p := ⟨w4.heap.size, 2, none⟩) X2.out hgn; have HR5 := Lib.hid hr5; have HG5 := Lib.hid hg5; clear hr5 hg5)
                | (go_simp; go_at_call 25; refine (HC2.out _).mono ?_; rintro e w' ⟨rfl, rfl⟩)))
              all_goals
                clear hr1 i8 i9 i10 hsh hmx
                go_wp2
                go_roundw
                case rel => exact ⟨k + 1, by omega, by go_num, HR5.out, below_grow (below_drewN HBX.out _) HG5.out hg1 (below_drewN HBX.out _).size⟩
                case measure => simp [intOf] <;> omega
            · have HM := Lib.hid hm
              rw [hm] at hv
              have hr1 : X.tmod 16777216 = (V : Int) := by
                rw [Int.tmod_eq_emod_of_nonneg (by omega)]
                rw [← HVV.out, hv]
                omega
              have hV : (V : Int) < 16777216 := by rw [← hr1, Int.tmod_eq_emod_of_nonneg (by omega)]; exact Int.emod_lt_of_pos _ (by decide)
              have C2 := fun W => R06.width_any a.k W
              rw [HM.out] at C2
              have HC2 := Lib.hid C2
              have i8 : IntKind.i64.wrap 24 = 24 := by decide
              have i10 : IntKind.i64.wrap 16777216 = 16777216 := by decide
              have i9 : IntKind.i64.wrap (V : Int) = (V : Int) := IntWalk.i64_in _ (by omega)
              have hsh : ∀ W, (Op.shift .shl .i64 1 .i64 24).run Try.prog W = .ok (.int .i64 16777216) W := fun W => by rfl
              clear hm hw C2 hv hX0 hX1
              go_region_held3 (fun w' => w'.cell? ⟨w4.heap.size, 1, none⟩ = some (.int .i64 a.k) ∧ w'.cell? ⟨w4.heap.size, 2, none⟩ = some (.int .i64 a.n)) (first | (exact ⟨x1b, x2b⟩) | (exact ⟨x1, x2⟩) | go_keep) ((first
                | (go_simp; go_at_call 16; refine (HC1.out _ (HRX.out.below (bdraw _ _)) hb3).mono ?_; rintro e w5 ⟨rfl, hr5, hg5⟩; have x1b := (Keeps.grow (F := fun y => y = g) hg5 rfl).cell (p := ⟨w4.heap.size, 1, none⟩) X1.out hgn; have x2b := (Keeps.grow (F := fun y => y = g) hg5 rfl).cell (p := ⟨w4.heap.size, 2, none⟩) X2.out hgn; have HR5 := Lib.hid hr5; have HG5 := Lib.hid hg5; clear hr5 hg5)
                | (go_simp; go_at_call 25; refine (HC2.out _).mono ?_; rintro e w' ⟨rfl, rfl⟩)))
              all_goals
                clear hr1 i8 i9 i10 hsh hmx
                go_wp2
                go_roundw
                case rel => exact ⟨k + 1, by omega, by go_num, HR5.out, below_grow (below_drewN HBX.out _) HG5.out hg1 (below_drewN HBX.out _).size⟩
                case measure => simp [intOf] <;> omega
            · have HM := Lib.hid hm
              rw [hm] at hv
              have hr1 : X.tmod 4294967296 = (V : Int) := by
                rw [Int.tmod_eq_emod_of_nonneg (by omega)]
                rw [← HVV.out, hv]
                omega
              have hV : (V : Int) < 4294967296 := by rw [← hr1, Int.tmod_eq_emod_of_nonneg (by omega)]; exact Int.emod_lt_of_pos _ (by decide)
              have C2 := fun W => R06.width_any a.k W
              rw [HM.out] at C2
              have HC2 := Lib.hid C2
              have i8 : IntKind.i64.wrap 32 = 32 := by decide
              have i10 : IntKind.i64.wrap 4294967296 = 4294967296 := by decide
              have i9 : IntKind.i64.wrap (V : Int) = (V : Int) := IntWalk.i64_in _ (by omega)
              have hsh : ∀ W, (Op.shift .shl .i64 1 .i64 32).run Try.prog W = .ok (.int .i64 4294967296) W := fun W => by rfl
              clear hm hw C2 hv hX0 hX1
              go_region_held3 (fun w' => w'.cell? ⟨w4.heap.size, 1, none⟩ = some (.int .i64 a.k) ∧ w'.cell? ⟨w4.heap.size, 2, none⟩ = some (.int .i64 a.n)) (first | (exact ⟨x1b, x2b⟩) | (exact ⟨x1, x2⟩) | go_keep) ((first
                | (go_simp; go_at_call 16; refine (HC1.out _ (HRX.out.below (bdraw _ _)) hb3).mono ?_; rintro e w5 ⟨rfl, hr5, hg5⟩; have x1b := (Keeps.grow (F := fun y => y = g) hg5 rfl).cell (p := ⟨w4.heap.size, 1, none⟩) X1.out hgn; have x2b := (Keeps.grow (F := fun y => y = g) hg5 rfl).cell (p := ⟨w4.heap.size, 2, none⟩) X2.out hgn; have HR5 := Lib.hid hr5; have HG5 := Lib.hid hg5; clear hr5 hg5)
                | (go_simp; go_at_call 25; refine (HC2.out _).mono ?_; rintro e w' ⟨rfl, rfl⟩)))
              all_goals
                clear hr1 i8 i9 i10 hsh hmx
                go_wp2
                go_roundw
                case rel => exact ⟨k + 1, by omega, by go_num, HR5.out, below_grow (below_drewN HBX.out _) HG5.out hg1 (below_drewN HBX.out _).size⟩
                case measure => simp [intOf] <;> omega
          · have q0 : (a.kind == 0) = false := by simpa using hk0
            have h6k : ∀ (W5 : World) (n : Nat) (W : World), Below w1.heap.size w1 W → BytesAt W B a.b → (W.drewN n).grownBy W5 (some g) → BytesAt W5 B a.b := fun W5 n W _ hB hg5 =>
              (Keeps.grow (F := fun y => y = g) hg5 rfl).bytes' (hB.drewN n) fun h0 x hx e => by have := HLT.out h0 x hx; omega
            have H6K := Lib.hid h6k
            clear h6k
            by_cases hk1 : a.kind = 1
            · have q1 : (a.kind == 1) = true := by simp [hk1]
              obtain ⟨hv, hsn⟩ := BR.out hk0 hk1
              have C1 := fun W => Pack.rraw_any g A1 (outTo l l.length) ⟨(outTo l k).length, false⟩ (a.b.length : Nat) W
              rw [hv, hsn] at C1
              have HC1 := Lib.hid C1
              have hml : a.b.length ≤ maxLen := by unfold maxLen; omega
              have HML := Lib.hid hml
              clear hk0 hk1 hv hsn C1 hml
              go_wp2
              generalize w4.alloc (.cells #[.int .i64 a.kind, .int .i64 a.k, .int .i64 a.n, .slice B a.b.length cb] 29) = W at HRX HBX H6X X1 X2 X3 ⊢
              have x3 := X3.out
              go_region_held3 (fun w' => w'.cell? ⟨w4.heap.size, 3, none⟩ = some (.slice B a.b.length cb)) (first | (exact x3c) | (exact x3b) | (exact x3) | go_keep) ((first
                | (go_simp; go_at_call 18; refine (HC1.out _ (HRX.out.below (bdraw _ _)) ⟨by omega, by omega⟩ hb3).mono ?_; rintro e w5 ⟨Y1, d1, rfl, hY1, _, _, _, hr5, hg5⟩; have x3b := (Keeps.grow (F := fun y => y = g) hg5 rfl).cell (p := ⟨w4.heap.size, 3, none⟩) X3.out hgn; have HY1 := Lib.hid hY1; have HB5 := Lib.hid (H6K.out w5 _ W HBX.out H6X.out hg5); have HR5 := Lib.hid hr5; have HG5 := Lib.hid (below_grow (below_drewN HBX.out _) hg5 hg1 (below_drewN HBX.out _).size); clear hr5 hg5 hY1)
                | (go_simp; go_at_call 13; have C := R01.same_any Y1 B a.b a.b d1 cb w5 HY1.out HB5.out HML.out HML.out; rw [same_self] at C; refine C.mono ?_; clear C; rintro e w7 ⟨rfl, hq⟩; have hb7 := bquiet hq; have x3c := (hb7.cell (p := ⟨w4.heap.size, 3, none⟩) (cell_lt x3b)).trans x3b; clear hq)))
              all_goals
                go_wp2
                go_roundw
                case rel => exact ⟨k + 1, by omega, by go_num, HR5.out.below hb7, bstep HG5.out hb7⟩
                case measure => simp [intOf] <;> omega
            · have q1 : (a.kind == 1) = false := by simpa using hk1
              obtain ⟨hv, hsn⟩ := BT.out hk0 hk1
              obtain ⟨L, hL⟩ : ∃ L, L = a.b.take 255 := ⟨_, rfl⟩
              have C1 := fun W => Pack.rtext_any g A1 (outTo l l.length) ⟨(outTo l k).length, false⟩ W
              rw [hv, hsn, ← hL] at C1
              have HC1 := Lib.hid C1
              have hml : L.length ≤ maxLen := by rw [hL]; unfold maxLen; simp; omega
              have HML := Lib.hid hml
              have hmn : min (a.b.length : Int) 255 = (L.length : Int) := by rw [hL, List.length_take]; omega
              have hL1 : L.length ≤ cb := by rw [hL, List.length_take]; omega
              have hL2 : (0 : Int) ≤ (L.length : Int) := by omega
              have hL3 : (L.length : Int) ≤ (cb : Int) := by omega
              have HLL := Lib.hid hL
              clear hk0 hk1 hv hsn C1 hml hL
              go_wp2
              generalize w4.alloc (.cells #[.int .i64 a.kind, .int .i64 a.k, .int .i64 a.n, .slice B a.b.length cb] 29) = W at HRX HBX H6X X1 X2 X3 ⊢
              have x3 := X3.out
              go_region_held3 (fun w' => w'.cell? ⟨w4.heap.size, 3, none⟩ = some (.slice B a.b.length cb)) (first | (exact x3c) | (exact x3b) | (exact x3) | go_keep) ((first
                | (go_simp; go_at_call 20; refine (HC1.out _ (HRX.out.below (bdraw _ _)) hb3).mono ?_; rintro e w5 ⟨Y1, d1, rfl, hY1, _, _, _, hr5, hg5⟩; have x3b := (Keeps.grow (F := fun y => y = g) hg5 rfl).cell (p := ⟨w4.heap.size, 3, none⟩) X3.out hgn; have HY1 := Lib.hid hY1; have HB5 := Lib.hid (H6K.out w5 _ W HBX.out H6X.out hg5); have HR5 := Lib.hid hr5; have HG5 := Lib.hid (below_grow (below_drewN HBX.out _) hg5 hg1 (below_drewN HBX.out _).size); clear hr5 hg5 hY1)
                | (go_simp; go_at_call 13; have hB5 : BytesAt w5 B L := (by rw [HLL.out]; exact HB5.out.take 255); have C := R01.same_any Y1 B L L d1 cb w5 HY1.out hB5 HML.out HML.out; rw [same_self] at C; refine C.mono ?_; clear C hB5; rintro e w7 ⟨rfl, hq⟩; have hb7 := bquiet hq; have x3c := (hb7.cell (p := ⟨w4.heap.size, 3, none⟩) (cell_lt x3b)).trans x3b; clear hq)))
              all_goals
                clear hmn
                go_wp2
                go_roundw
                case rel => exact ⟨k + 1, by omega, by go_num, HR5.out.below hb7, bstep HG5.out hb7⟩
                case measure => simp [intOf] <;> omega
        · obtain rfl : k = l.length := by omega
          have D := Pack.done_any g A1 (outTo l l.length) ⟨(outTo l l.length).length, false⟩ w4 HR.out hb3
          rw [show (!(⟨(outTo l l.length).length, false⟩ : PackM.St).bad && decide ((outTo l l.length).length - (⟨(outTo l l.length).length, false⟩ : PackM.St).at_ = 0)) = true from by simp] at D
          go_wp2_with fail
          refine D.mono ?_
          clear D
          rintro e w5 ⟨rfl, hq⟩
          have hb5 := bquiet hq
          clear hq
          go_wp2_with fail
          refine (alive_any w5).mono ?_
          rintro e w6 ⟨rfl, hb6⟩
          go_wp2
          go_ret
          exact ⟨rfl, bstep hb1 (bstep HBR.out (bstep hb5 hb6))⟩
end Go.Proofs.Ytpeldafbgcjefaa.Law06B
