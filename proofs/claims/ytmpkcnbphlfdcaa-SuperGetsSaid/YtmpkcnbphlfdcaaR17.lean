/- the document's own answers of layer 17 -/
import Derived.Test.YtmpkcnbphlfdcaaSupB
import Derived.Test.YtmpkcnbphlfdcaaR15
import Derived.Test.YtmpkcnbphlfdcaaR06
import Derived.Test.YtmpkcnbphlfdcaaR01
set_option maxRecDepth 100000
namespace Go.Proofs.Ytmpkcnbphlfdcaa.R17
open Go.RowKit SupM Super

theorem right_no (F D S : Int) (h : ¬ Sp.May ⟨F, D, S⟩) : Sp.right ⟨F, D, S⟩ = false := decide_eq_false h
theorem right_yes (F D S : Int) (h : Sp.May ⟨F, D, S⟩) : Sp.right ⟨F, D, S⟩ = true := decide_eq_true h
theorem right_any (F D S : Int) (w : World) : Calls Try.prog 7 #[.agg #[.int .i64 F, .int .i64 D, .int .i64 S]] w fun e w' => e = .returned (.bool (Sp.right ⟨F, D, S⟩)) ∧ Below w.heap.size w w' := by
  have hm : Sp.May ⟨F, D, S⟩ ↔ ((S = 0 ∧ F = 0 ∧ D = 0) ∨ (1 ≤ S ∧ S ≤ 2 ∧ 0 ≤ D ∧ D ≤ F ∧ F < 4294967296)) := Iff.rfl
  have HB := Lib.hid (balloc w (.cells #[.int .i64 F, .int .i64 D, .int .i64 S] 23))
  by_cases h0 : S = 0
  · subst h0
    by_cases h1 : F = 0
    · subst h1
      by_cases h2 : D = 0
      · rw [right_yes _ _ _ (hm.2 (by omega))]
        subst h2
        clear hm
        go_enter Try.func7, Try.ntmps7
        go_wp2
        go_ret
        exact ⟨rfl, HB.out⟩
      · rw [right_no _ _ _ (fun h => by have := hm.1 h; omega)]
        have q2 : (D == 0) = false := by simpa using h2
        clear hm h2
        go_enter Try.func7, Try.ntmps7
        go_wp2
        go_ret
        exact ⟨rfl, HB.out⟩
    · rw [right_no _ _ _ (fun h => by have := hm.1 h; omega)]
      have q2 : (F == 0) = false := by simpa using h1
      clear hm h1
      go_enter Try.func7, Try.ntmps7
      go_wp2
      go_ret
      exact ⟨rfl, HB.out⟩
  · have q0 : (S == 0) = false := by simpa using h0
    by_cases h1 : 0 < S
    · by_cases h2 : S < 3
      · by_cases h3 : 0 ≤ D
        · by_cases h4 : D ≤ F
          · by_cases h5 : F < 4294967296
            · rw [right_yes _ _ _ (hm.2 (by omega))]
              clear hm h0
              go_enter Try.func7, Try.ntmps7
              go_wp2
              go_ret
              exact ⟨rfl, HB.out⟩
            · rw [right_no _ _ _ (fun h => by have := hm.1 h; omega)]
              clear hm h0
              go_enter Try.func7, Try.ntmps7
              go_wp2
              go_ret
              exact ⟨rfl, HB.out⟩
          · rw [right_no _ _ _ (fun h => by have := hm.1 h; omega)]
            clear hm h0
            go_enter Try.func7, Try.ntmps7
            go_wp2
            go_ret
            exact ⟨rfl, HB.out⟩
        · rw [right_no _ _ _ (fun h => by have := hm.1 h; omega)]
          clear hm h0
          go_enter Try.func7, Try.ntmps7
          go_wp2
          go_ret
          exact ⟨rfl, HB.out⟩
      · rw [right_no _ _ _ (fun h => by have := hm.1 h; omega)]
        clear hm h0
        go_enter Try.func7, Try.ntmps7
        go_wp2
        go_ret
        exact ⟨rfl, HB.out⟩
    · rw [right_no _ _ _ (fun h => by have := hm.1 h; omega)]
      clear hm h0
      go_enter Try.func7, Try.ntmps7
      go_wp2
      go_ret
      exact ⟨rfl, HB.out⟩
theorem own_lit {w : World} {g base : Nat} {l : List UInt8} (h : Row w g l) (hb : base ≤ g) (hl : l.length ≤ maxLen) : Own w base (.slice (some ⟨g, 0, none⟩) l.length l.length) l :=
  ⟨by rw [vals_len, Nat.mul_one], .inr ⟨g, l.length, cells l, rfl, hb, h, Nat.le_refl _, hl, by rw [cells_size, Nat.mul_one], by
    rw [Nat.mul_one]; unfold cells; rw [← vals_len l, List.take_length]⟩⟩
theorem put_any (F D S : Int) (hi : Fits ⟨F, D, S⟩) (hr : Sp.right ⟨F, D, S⟩ = true) (w : World) : Calls Try.prog 12 #[.agg #[.int .i64 F, .int .i64 D, .int .i64 S]] w (RetNew w (Sp.put ⟨F, D, S⟩)) := by
  have hm : (S = 0 ∧ F = 0 ∧ D = 0) ∨ (1 ≤ S ∧ S ≤ 2 ∧ 0 ≤ D ∧ D ≤ F ∧ F < 4294967296) := of_decide_eq_true hr
  have HB := Lib.hid (balloc w (.cells #[.int .i64 F, .int .i64 D, .int .i64 S] 23))
  have HS := Lib.hid (SpAt.new w F D S 23)
  by_cases h0 : S = 0
  · subst h0
    have hp : Sp.put ⟨F, D, 0⟩ = SecM.noughts 64 := if_pos rfl
    rw [hp]
    have hmk : ∀ W : World, (Instr.makeSlice 26 (.int .i64 64) (.int .i64 64)).run Try.prog W = .ok (.slice (some ⟨W.heap.size, 0, none⟩) 64 64) (W.alloc (.cells (cells (SecM.noughts 64)) 5)) := fun W => make_u8 64 (by omega) W
    clear hm hr hp hi
    go_enter Try.func12, Try.ntmps12
    go_wp2
    go_ret
    refine ⟨some ⟨w.heap.size + 1, 0, none⟩, 64, rfl, by simp [SecM.noughts_len], by unfold maxLen; omega, ?_, ?_, New.at w (by omega)⟩
    · have := (Row.new (w.alloc (.cells #[.int .i64 F, .int .i64 D, .int .i64 0] 23)) (SecM.noughts 64)).bytes
      rw [show (w.alloc (.cells #[.int .i64 F, .int .i64 D, .int .i64 0] 23)).heap.size = w.heap.size + 1 from by simp] at this
      exact this
    · exact bstep HB.out (balloc _ _)
  · have hp : Sp.put ⟨F, D, S⟩ = SecM.sec (body (UInt8.ofNat S.toNat) F.toNat D.toNat) := if_neg h0
    have e4 : body (UInt8.ofNat S.toNat) F.toNat D.toNat = [83, UInt8.ofNat S.toNat] ++ PackM.numB 4 F ++ PackM.numB 4 D := by
      unfold body PackM.numB; rw [wid4, List.append_assoc]
    have hl4 := body_len (UInt8.ofNat S.toNat) F.toNat D.toNat
    rw [hp]
    have iF := hi.1; have iD := hi.2.1
    unfold I64 at iF iD
    have CF := Lib.hid (fun W => R06.num_any 4 F W iF)
    have CD := Lib.hid (fun W => R06.num_any 4 D W iD)
    have CS := Lib.hid (fun W X d h => R15.seal_any X (body (UInt8.ofNat S.toNat) F.toNat D.toNat) d W h (by omega))
    have hlF : (PackM.numB 4 F).length ≤ 4 := Nat.le_of_eq (PackM.numB_len 4 F)
    have hlD : (PackM.numB 4 D).length ≤ 4 := Nat.le_of_eq (PackM.numB_len 4 D)
    generalize SecM.sec (body (UInt8.ofNat S.toNat) F.toNat D.toNat) = Z at *
    generalize body (UInt8.ofNat S.toNat) F.toNat D.toNat = B at *
    generalize PackM.numB 4 F = NF at *
    generalize PackM.numB 4 D = ND at *
    have q0 : (S == 0) = false := by simpa using h0
    have hS : S = 1 ∨ S = 2 := by omega
    have i1 : IntKind.u8.wrap S = S := by rw [IntKind.wrap_u8]; omega
    have i2 : ((UInt8.ofNat S.toNat).toNat : Int) = S := by rw [UInt8.toNat_ofNat_of_lt' (by simp only [UInt8.size]; omega)]; omega
    generalize UInt8.ofNat S.toNat = y at *
    have hl5 : B.length ≤ 10 := by omega
    clear hl4
    have HE := Lib.hid e4; have HI2 := Lib.hid i2
    have hs0 := HS.out.c2
    clear hm hr hp hi e4 iF iD hS i2 h0
    go_enter Try.func12, Try.ntmps12
    go_wp2_with fail
    have hsz : (w.alloc (.cells #[.int .i64 F, .int .i64 D, .int .i64 S] 23)).heap.size = w.heap.size + 1 := by simp
    have hs := HS.out
    have hb0 := HB.out
    generalize w.alloc (.cells #[.int .i64 F, .int .i64 D, .int .i64 S] 23) = w1 at *
    rw [← hsz]
    have ho : Own (w1.alloc (.cells #[.int .u8 83, .int .u8 S] 5)) w1.heap.size (.slice (some ⟨w1.heap.size, 0, none⟩) 2 2) [83, y] := by
      have := own_lit (Row.new w1 [83, y]) (Nat.le_refl _) (by unfold maxLen; simp)
      rw [show cells [83, y] = #[.int .u8 83, .int .u8 S] from by rw [← HI2.out]; rfl] at this
      exact this
    have hb1 := balloc w1 (.cells #[.int .u8 83, .int .u8 S] 5)
    have hs1 := hs.below hb1
    generalize w1.alloc (.cells #[.int .u8 83, .int .u8 S] 5) = w2 at *
    obtain ⟨p, hp0⟩ : ∃ p, p = w.heap.size := ⟨_, rfl⟩
    rw [← hp0] at hs hs1 hs0 hsz ⊢
    obtain ⟨b0, hb0'⟩ : ∃ b0, b0 = w1.heap.size := ⟨_, rfl⟩
    rw [← hb0'] at ho hb1 hsz ⊢
    have hbw : Below p w w2 := by rw [hp0]; exact hb0.trans (hb1.mono (by omega))
    have HO := Lib.hid ho; have HBW := Lib.hid hbw; have HP0 := Lib.hid hp0; have HS1 := Lib.hid hs1; have HSZ := Lib.hid hsz; have HBB : Hid (b0 ≤ w2.heap.size) := Lib.hid (by have := hb1.size; omega)
    clear hs hs1 hs0 hsz hb0 hb1 hb0' hp0 ho HB HS hbw
    refine (CF.out _).mono ?_
    rintro e w3 ⟨X, d, rfl, -, -, g3, hb3, -⟩
    have HX := Lib.hid g3
    have HO3 := Lib.hid (HO.out.below hb3); have HS3 := Lib.hid (HS1.out.below hb3)
    have hz3 : b0 ≤ w3.heap.size := Nat.le_trans HBB.out hb3.size
    have HB3 : Hid (Below p w w3) := Lib.hid (HBW.out.trans (hb3.mono (by have := HBB.out; have := HSZ.out; omega)))
    have HZ3 := Lib.hid hz3
    clear g3 hb3 HO HS1 HBW HBB hz3 CF
    go_wp2_with (first
      | (at_builtin; refine wpList_append_bytes rfl (.tmp 12) (.tmp 15) rfl b0 (.slice (some ⟨b0, 0, none⟩) 2 2) [83, y] NF rfl HO3.out X NF.length d rfl rfl HX.out (by simp; omega) HZ3.out ?_; intro v4 w4 hown4 hb4; have HO4 := Lib.hid hown4; have hs4 := HS3.out.keepB hb4 (by have := HSZ.out; omega); have c1 := hs4.c1; have HS4 := Lib.hid hs4; have HB4 : Hid (Below p w w4) := Lib.hid (HB3.out.trans (hb4.mono (by have := HSZ.out; omega))); have HZ4 : Hid (b0 ≤ w4.heap.size) := Lib.hid (Nat.le_trans HZ3.out hb4.size); clear hown4 hs4 hb4)
      | fail)
    refine (CD.out _).mono ?_
    rintro e w5 ⟨X5, d5, rfl, -, -, g5, hb5, -⟩
    have HX5 := Lib.hid g5
    have HO5 := Lib.hid (HO4.out.below hb5)
    have HB5 : Hid (Below p w w5) := Lib.hid (HB4.out.trans (hb5.mono (by have := HZ4.out; have := HSZ.out; omega)))
    have HZ5 : Hid (b0 ≤ w5.heap.size) := Lib.hid (Nat.le_trans HZ4.out hb5.size)
    clear g5 hb5 HO4 HS4 HB4 HZ4 CD c1 HO3 HS3 HB3 HZ3 HX
    obtain ⟨L, hL⟩ : ∃ L, L = [83, y] ++ NF := ⟨_, rfl⟩
    have hLl : L.length ≤ 6 := by rw [hL, List.length_append]; simp; omega
    rw [← hL] at HO5 HE
    clear hL
    go_wp2_with (first
      | (at_builtin; refine wpList_append_bytes rfl (.tmp 17) (.tmp 20) rfl b0 v4 L ND rfl HO5.out X5 ND.length d5 rfl rfl HX5.out (by omega) HZ5.out ?_; intro v6 w6 hown6 hb6; rw [← HE.out] at hown6; obtain ⟨A6, c6, hv6, -, -, hB6⟩ := hown6.bytes; subst hv6; have HB6b := Lib.hid hB6; have HB6 : Hid (Below p w w6) := Lib.hid (HB5.out.trans (hb6.mono (by have := HSZ.out; omega))); clear hown6 hb6 hB6)
      | fail)
    refine (CS.out _ A6 c6 HB6b.out).mono ?_
    rintro e w7 ⟨Y, f, rfl, g1, g2, g7, hb7, hn7⟩
    have HY := Lib.hid g7; have HN := Lib.hid hn7
    have HB7 : Hid (Below w.heap.size w w7) := Lib.hid (by have := HB6.out; rw [HP0.out] at this; exact bstep this hb7)
    have HN' := Lib.hid (HN.out.mono (w := w) (by have := HB6.out.size; exact this))
    clear g7 hn7 hb7
    go_wp2
    go_ret
    exact ⟨Y, f, rfl, g1, g2, HY.out, HB7.out, HN'.out⟩

theorem says_no (P : List UInt8) (h : ¬ (P.getD 0 0 = 83 ∧ 1 ≤ (P.getD 1 0).toNat ∧ (P.getD 1 0).toNat ≤ 2 ∧ P.drop 10 = SecM.noughts 50 ∧ PackM.val ((P.drop 6).take 4) ≤ PackM.val ((P.drop 2).take 4))) : says P = false := decide_eq_false h
theorem drop_noughts (P : List UInt8) (h60 : P.length = 60) (h : ∀ j, (hj : j < P.length) → 10 ≤ j → P[j] = 0) : P.drop 10 = SecM.noughts 50 := by
  apply List.ext_getElem (by rw [List.length_drop, h60, SecM.noughts_len])
  intro i h1 h2
  rw [List.getElem_drop]
  rw [show (SecM.noughts 50)[i] = 0 from List.getElem_replicate _]
  rw [List.length_drop] at h1
  exact h (10 + i) (by omega) (by omega)
theorem drop_noughts_at (P : List UInt8) (h : P.drop 10 = SecM.noughts 50) (j : Nat) (hj : j < P.length) (h10 : 10 ≤ j) : P[j] = 0 := by
  have h1 : (P.drop 10)[j - 10]? = some P[j] := by rw [List.getElem?_drop, show 10 + (j - 10) = j from by omega, List.getElem?_eq_getElem hj]
  rw [h] at h1
  unfold SecM.noughts at h1
  rw [List.getElem?_replicate] at h1
  split at h1
  · injection h1 with h1; exact h1.symm
  · cases h1
/-- what is told, as a result -/
def Told (w : World) (r : Sp) (ok : Bool) (e : Ending) (w' : World) : Prop := e = .returned (.tuple #[.agg #[.int .i64 r.F, .int .i64 r.D, .int .i64 r.S], .bool ok]) ∧ Below w.heap.size w w'
end Go.Proofs.Ytmpkcnbphlfdcaa.R17
