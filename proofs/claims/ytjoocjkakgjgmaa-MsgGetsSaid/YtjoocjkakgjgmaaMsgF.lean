/- package msg: readEach and its closures -/
import Derived.Test.YtjoocjkakgjgmaaMsgA
import Derived.Test.YtjoocjkakgjgmaaPack
set_option maxRecDepth 100000
set_option maxHeartbeats 20000000
namespace Go.Proofs.Ytjoocjkakgjgmaa.Msg
open Go.RowKit MsgM
open R07 (StrsAt OwnS AppdS)

theorem keeps_new {F : Nat → Prop} {w0 w w' : World} {o : Option Nat} (q : Keeps F w0 w) (k : w.grownBy w' o) (hn : ∀ j, o = some j → w0.heap.size ≤ j) : Keeps F w0 w' :=
  ⟨k.os.trans q.os, k.tape.trans q.tape, k.output.trans q.output, Nat.le_trans q.size k.size, fun i hi hf => (k.block i (Nat.lt_of_lt_of_le hi q.size) (fun e => by have := hn i e.symm; omega)).trans (q.block i hi hf)⟩
theorem rd_new {w0 w w' : World} {g : Nat} {A : Option Addr} {b : List UInt8} {s : PackM.St} {o : Option Nat} (h : Pack.RdAt w g A b s) (k : w.grownBy w' o) (hg : g < w0.heap.size) (hA : 0 < b.length → ∀ a, A = some a → a.block < w0.heap.size) (hn : ∀ j, o = some j → w0.heap.size ≤ j) : Pack.RdAt w' g A b s :=
  h.keep (F := fun i => o = some i) ⟨k.os, k.tape, k.output, k.size, fun i hi hf => k.block i hi (fun e => hf e.symm)⟩ (fun e => by have := hn g e; omega) (fun h0 a ea e => by have := hn _ e; have := hA h0 a ea; omega)
theorem readNum_any (g f : Nat) (A : Option Addr) (b : List UInt8) (s : PackM.St) (w : World) (h : Pack.RdAt w g A b s) (hbl : b.length ≤ 1048576) (hf : w.cell? ⟨f, 0, none⟩ = some (.func (.func 63) #[.pointer (some ⟨g, 0, none⟩)] #[])) :
    Calls Try.prog 73 #[.pointer (some ⟨f, 0, none⟩)] w (Pack.NumPost w g A b (PackM.numV b s 4) (PackM.numS b s 4)) := by
  have C := Lib.hid (Pack.rnum_any g A b s 4 w h hbl)
  clear h
  go_enter Try.func73, Try.ntmps73
  go_wp2_with fail
  refine C.out.mono ?_
  rintro e w1 ⟨rfl, hr, hg⟩
  have HR := Lib.hid hr; have HG := Lib.hid hg
  clear hr hg C hf
  go_wp2
  go_ret
  exact ⟨rfl, HR.out, HG.out⟩
theorem readText_any (g f : Nat) (A : Option Addr) (b : List UInt8) (s : PackM.St) (w : World) (h : Pack.RdAt w g A b s) (hbl : b.length ≤ 1048576) (hf : w.cell? ⟨f, 0, none⟩ = some (.func (.func 64) #[.pointer (some ⟨g, 0, none⟩)] #[])) :
    Calls Try.prog 75 #[.pointer (some ⟨f, 0, none⟩)] w fun e w' => e = .returned (.string (txt (PackM.textL b s))) ∧ Pack.RdAt w' g A b (PackM.textS b s) ∧ w.grownBy w' (some g) := by
  have C := Lib.hid (Pack.rtext_any g A b s w h hbl)
  obtain ⟨S, hS⟩ : ∃ S, S = txt (PackM.textL b s) := ⟨_, rfl⟩
  rw [← hS]
  clear h
  go_enter Try.func75, Try.ntmps75
  go_wp2_with fail
  refine C.out.mono ?_
  rintro e w1 ⟨X, d, rfl, hX, hd1, hd2, _, hr, hg⟩
  have hcv0 := hX.convert d
  have hcv : (convert 24 9 (.slice X (PackM.textL b s).length d)).run Try.prog w1 = .ok (.string S) w1 := by rw [hS]; exact hcv0
  clear hcv0
  have HR := Lib.hid hr; have HG := Lib.hid hg
  clear hr hg C hf hX hS hd1 hd2
  generalize (PackM.textL b s).length = n at *
  go_wp2
  go_ret
  exact ⟨rfl, HR.out, HG.out⟩

theorem readInts_any (g f : Nat) (A : Option Addr) (b : List UInt8) (s : PackM.St) (w : World) (h : Pack.RdAt w g A b s) (hbl : b.length ≤ 1048576) (hA : 0 < b.length → ∀ a, A = some a → a.block < w.heap.size) (hfg : f ≠ g)
    (hf : w.cell? ⟨f, 0, none⟩ = some (.func (.func 63) #[.pointer (some ⟨g, 0, none⟩)] #[])) :
    Calls Try.prog 72 #[.func (.func 63) #[.pointer (some ⟨g, 0, none⟩)] #[], .func (.func 73) #[] #[.pointer (some ⟨f, 0, none⟩)]] w fun e w' =>
      ∃ X d, e = .returned (.slice X (PackM.numV b s 1) d) ∧ PackM.numV b s 1 ≤ d ∧ d ≤ maxLen ∧ IntsAt w' X (numsTo b (PackM.numS b s 1) (PackM.numV b s 1)).1 ∧ New w X ∧ Pack.RdAt w' g A b (numsTo b (PackM.numS b s 1) (PackM.numV b s 1)).2 ∧ Keeps (fun k => k = g) w w' := by
  have hlt := h.lt
  have C0 := Lib.hid (Pack.rnum_any g A b s 1 w h hbl)
  have hN := PackM.numV_lt b s 1
  obtain ⟨N, hNN⟩ : ∃ N, N = PackM.numV b s 1 := ⟨_, rfl⟩
  obtain ⟨s1, hs1⟩ : ∃ s1, s1 = PackM.numS b s 1 := ⟨_, rfl⟩
  rw [← hNN] at hN
  rw [← hNN, ← hs1] at C0 ⊢
  have HF : Hid (∀ V, Keeps (fun k => k = g) w V → V.cell? ⟨f, 0, none⟩ = some (.func (.func 63) #[.pointer (some ⟨g, 0, none⟩)] #[])) := Lib.hid fun V q => q.cell hf hfg
  have C1 := Lib.hid (fun k W (q : Pack.RdAt W g A b (numsTo b s1 k).2) (kk : Keeps (fun k => k = g) w W) => readNum_any g f A b (numsTo b s1 k).2 W q hbl (HF.out W kk))
  have HK : Hid (∀ k, (numsTo b s1 (k + 1)).1 = (numsTo b s1 k).1 ++ [((PackM.numV b (numsTo b s1 k).2 4 : Nat) : Int)]) := Lib.hid fun k => rfl
  have HS : Hid (∀ k, (numsTo b s1 (k + 1)).2 = PackM.numS b (numsTo b s1 k).2 4) := Lib.hid fun k => rfl
  have HL : Hid (∀ k, (numsTo b s1 k).1.length = k) := Lib.hid fun k => numsTo_len b s1 k
  have H0 : Hid ((numsTo b s1 0).1 = [] ∧ (numsTo b s1 0).2 = s1) := Lib.hid ⟨rfl, rfl⟩
  have HA := Lib.hid hA; have HLT := Lib.hid hlt
  clear h hf hA hs1 hNN hlt hfg
  go_enter Try.func72, Try.ntmps72
  go_wp2_with fail
  refine C0.out.mono ?_
  rintro e w1 ⟨rfl, hr, hg⟩
  have HI : Hid (OwnI w1 w.heap.size (.slice none 0 0) (numsTo b s1 0).1 ∧ Pack.RdAt w1 g A b (numsTo b s1 0).2 ∧ Keeps (fun k => k = g) w w1) := Lib.hid ⟨by rw [H0.out.1]; exact OwnI.nil _ _, by rw [H0.out.2]; exact hr, .grow hg rfl⟩
  clear hr hg C0 H0
  go_wp2_with fail
  go_loopw [5, 8] (fun v i wr => ∃ (v0 : Value) (k : Nat), v0 = v ∧ k ≤ N ∧ i = .int .i64 k ∧ Hid (OwnI wr w.heap.size v0 (numsTo b s1 k).1 ∧ Pack.RdAt wr g A b (numsTo b s1 k).2 ∧ Keeps (fun k => k = g) w wr))
    (fun _ i _ => N - (intOf i).toNat)
  case atStart => exact ⟨_, 0, rfl, Nat.zero_le _, rfl, HI⟩
  case round =>
    clear HI
    obtain ⟨v, k, hv0, hk, rfl, HJ⟩ := hrel
    subst hv0
    rename World => wr
    by_cases hlt : k < N
    · have HC := Lib.hid (C1.out k wr HJ.out.2.1 HJ.out.2.2)
      obtain ⟨x, hx⟩ : ∃ x, x = ((PackM.numV b (numsTo b s1 k).2 4 : Nat) : Int) := ⟨_, rfl⟩
      have HX := Lib.hid hx
      have HC : Hid (Calls Try.prog 73 #[.pointer (some ⟨f, 0, none⟩)] wr fun e w' => e = .returned (.int .i64 x) ∧ Pack.RdAt w' g A b (numsTo b s1 (k + 1)).2 ∧ wr.grownBy w' (some g)) := Lib.hid (by rw [HS.out k, hx]; exact HC.out)
      clear hx
      go_wp2_with fail
      refine HC.out.mono ?_
      rintro e w2 ⟨rfl, hr, hg⟩
      have HR2 := Lib.hid hr
      have HK2 : Hid (Keeps (fun k => k = g) w w2) := Lib.hid (HJ.out.2.2.trans (.grow hg rfl))
      have HO2 : Hid (OwnI w2 w.heap.size v (numsTo b s1 k).1) := Lib.hid (ownV_keep (F := fun k => k = g) HJ.out.1 (.grow hg rfl) (fun j hj e => by have h1 := (World.ownsRow.lt HJ.out.1 j hj).1; have := HLT.out; omega))
      have HB2 : Hid (w.heap.size ≤ (w2.alloc (.cells #[.int .i64 x] 3)).heap.size) := Lib.hid (Nat.le_trans HK2.out.size (by simp))
      clear hr hg HC HJ
      go_wp2_with (at_builtin; refine wpList_append_ints rfl _ _ rfl w.heap.size v (numsTo b s1 k).1 rfl (HO2.out.below (balloc _ _)) (some ⟨w2.heap.size, 0, none⟩) 1 1 [x] rfl rfl (CellsAt.lit _ _ _) (by rw [HL.out k]; omega) HB2.out ?_; intro v3 w3 ha; have HA3 := Lib.hid ha; clear ha)
      go_roundw
      case rel =>
        refine ⟨_, k + 1, rfl, by omega, by go_num, Lib.hid ⟨?_, ?_, ?_⟩⟩
        · rw [HK.out k, ← HX.out]; exact HA3.out.own
        · exact rd_new (w0 := w) (HR2.out.below (balloc _ _)) HA3.out.grow HLT.out HA.out (fun j hj => (World.ownsRow.lt HO2.out j hj).1)
        · exact keeps_new (HK2.out.trans (.of_below _ (balloc _ _))) HA3.out.grow (fun j hj => (World.ownsRow.lt HO2.out j hj).1)
      case measure => simp [intOf] <;> omega
    · obtain rfl : k = N := by omega
      obtain ⟨X, d, hv, hd1, hd2, hX, hn⟩ := HJ.out.1.ints
      rw [HL.out k] at hv hd1
      subst hv
      have HXX := Lib.hid hX; have HN := Lib.hid hn; have HR := Lib.hid HJ.out.2
      clear hX hn HJ
      go_wp2
      go_ret
      exact ⟨X, d, rfl, hd1, hd2, HXX.out, HN.out, HR.out.1, HR.out.2⟩

theorem readStrs_any (g f : Nat) (A : Option Addr) (b : List UInt8) (s : PackM.St) (w : World) (h : Pack.RdAt w g A b s) (hbl : b.length ≤ 1048576) (hA : 0 < b.length → ∀ a, A = some a → a.block < w.heap.size) (hfg : f ≠ g)
    (hf : w.cell? ⟨f, 0, none⟩ = some (.func (.func 64) #[.pointer (some ⟨g, 0, none⟩)] #[])) :
    Calls Try.prog 74 #[.func (.func 63) #[.pointer (some ⟨g, 0, none⟩)] #[], .func (.func 75) #[] #[.pointer (some ⟨f, 0, none⟩)]] w fun e w' =>
      ∃ X d, e = .returned (.slice X (PackM.numV b s 1) d) ∧ PackM.numV b s 1 ≤ d ∧ d ≤ maxLen ∧ StrsAt w' X (textsTo b (PackM.numS b s 1) (PackM.numV b s 1)).1 ∧ New w X ∧ Pack.RdAt w' g A b (textsTo b (PackM.numS b s 1) (PackM.numV b s 1)).2 ∧ Keeps (fun k => k = g) w w' := by
  have hlt := h.lt
  have C0 := Lib.hid (Pack.rnum_any g A b s 1 w h hbl)
  have hN := PackM.numV_lt b s 1
  obtain ⟨N, hNN⟩ : ∃ N, N = PackM.numV b s 1 := ⟨_, rfl⟩
  obtain ⟨s1, hs1⟩ : ∃ s1, s1 = PackM.numS b s 1 := ⟨_, rfl⟩
  rw [← hNN] at hN
  rw [← hNN, ← hs1] at C0 ⊢
  have HF : Hid (∀ V, Keeps (fun k => k = g) w V → V.cell? ⟨f, 0, none⟩ = some (.func (.func 64) #[.pointer (some ⟨g, 0, none⟩)] #[])) := Lib.hid fun V q => q.cell hf hfg
  have C1 := Lib.hid (fun k W (q : Pack.RdAt W g A b (textsTo b s1 k).2) (kk : Keeps (fun k => k = g) w W) => readText_any g f A b (textsTo b s1 k).2 W q hbl (HF.out W kk))
  have HK : Hid (∀ k, (textsTo b s1 (k + 1)).1 = (textsTo b s1 k).1 ++ [txt (PackM.textL b (textsTo b s1 k).2)]) := Lib.hid fun k => rfl
  have HS : Hid (∀ k, (textsTo b s1 (k + 1)).2 = PackM.textS b (textsTo b s1 k).2) := Lib.hid fun k => rfl
  have HL : Hid (∀ k, (textsTo b s1 k).1.length = k) := Lib.hid fun k => textsTo_len b s1 k
  have H0 : Hid ((textsTo b s1 0).1 = [] ∧ (textsTo b s1 0).2 = s1) := Lib.hid ⟨rfl, rfl⟩
  have HA := Lib.hid hA; have HLT := Lib.hid hlt
  clear h hf hA hs1 hNN hlt hfg
  go_enter Try.func74, Try.ntmps74
  go_wp2_with fail
  refine C0.out.mono ?_
  rintro e w1 ⟨rfl, hr, hg⟩
  have HI : Hid (OwnS w1 w.heap.size (.slice none 0 0) (textsTo b s1 0).1 ∧ Pack.RdAt w1 g A b (textsTo b s1 0).2 ∧ Keeps (fun k => k = g) w w1) := Lib.hid ⟨by rw [H0.out.1]; exact OwnS.nil _ _, by rw [H0.out.2]; exact hr, .grow hg rfl⟩
  clear hr hg C0 H0
  go_wp2_with fail
  go_loopw [5, 8] (fun v i wr => ∃ (v0 : Value) (k : Nat), v0 = v ∧ k ≤ N ∧ i = .int .i64 k ∧ Hid (OwnS wr w.heap.size v0 (textsTo b s1 k).1 ∧ Pack.RdAt wr g A b (textsTo b s1 k).2 ∧ Keeps (fun k => k = g) w wr))
    (fun _ i _ => N - (intOf i).toNat)
  case atStart => exact ⟨_, 0, rfl, Nat.zero_le _, rfl, HI⟩
  case round =>
    clear HI
    obtain ⟨v, k, hv0, hk, rfl, HJ⟩ := hrel
    subst hv0
    rename World => wr
    by_cases hlt : k < N
    · have HC := Lib.hid (C1.out k wr HJ.out.2.1 HJ.out.2.2)
      obtain ⟨x, hx⟩ : ∃ x, x = txt (PackM.textL b (textsTo b s1 k).2) := ⟨_, rfl⟩
      have HX := Lib.hid hx
      have HC : Hid (Calls Try.prog 75 #[.pointer (some ⟨f, 0, none⟩)] wr fun e w' => e = .returned (.string x) ∧ Pack.RdAt w' g A b (textsTo b s1 (k + 1)).2 ∧ wr.grownBy w' (some g)) := Lib.hid (by rw [HS.out k, hx]; exact HC.out)
      clear hx
      go_wp2_with fail
      refine HC.out.mono ?_
      rintro e w2 ⟨rfl, hr, hg⟩
      have HR2 := Lib.hid hr
      have HK2 : Hid (Keeps (fun k => k = g) w w2) := Lib.hid (HJ.out.2.2.trans (.grow hg rfl))
      have HO2 : Hid (OwnS w2 w.heap.size v (textsTo b s1 k).1) := Lib.hid (ownV_keep (F := fun k => k = g) HJ.out.1 (.grow hg rfl) (fun j hj e => by have h1 := (World.ownsRow.lt HJ.out.1 j hj).1; have := HLT.out; omega))
      have HB2 : Hid (w.heap.size ≤ (w2.alloc (.cells #[.string x] 9)).heap.size) := Lib.hid (Nat.le_trans HK2.out.size (by simp))
      clear hr hg HC HJ
      go_wp2_with (at_builtin; refine R07.wpList_append_strs rfl _ _ rfl w.heap.size v (textsTo b s1 k).1 rfl (HO2.out.below (balloc _ _)) (some ⟨w2.heap.size, 0, none⟩) 1 1 [x] rfl rfl (CellsAt.lit _ _ _) (by rw [HL.out k]; omega) HB2.out ?_; intro v3 w3 ha; have HA3 := Lib.hid ha; clear ha)
      go_roundw
      case rel =>
        refine ⟨_, k + 1, rfl, by omega, by go_num, Lib.hid ⟨?_, ?_, ?_⟩⟩
        · rw [HK.out k, ← HX.out]; exact HA3.out.own
        · exact rd_new (w0 := w) (HR2.out.below (balloc _ _)) HA3.out.grow HLT.out HA.out (fun j hj => (World.ownsRow.lt HO2.out j hj).1)
        · exact keeps_new (HK2.out.trans (.of_below _ (balloc _ _))) HA3.out.grow (fun j hj => (World.ownsRow.lt HO2.out j hj).1)
      case measure => simp [intOf] <;> omega
    · obtain rfl : k = N := by omega
      obtain ⟨X, d, hv, hd1, hd2, hX, hn⟩ := HJ.out.1.strs
      rw [HL.out k] at hv hd1
      subst hv
      have HXX := Lib.hid hX; have HN := Lib.hid hn; have HR := Lib.hid HJ.out.2
      clear hX hn HJ
      go_wp2
      go_ret
      exact ⟨X, d, rfl, hd1, hd2, HXX.out, HN.out, HR.out.1, HR.out.2⟩
end Go.Proofs.Ytjoocjkakgjgmaa.Msg
