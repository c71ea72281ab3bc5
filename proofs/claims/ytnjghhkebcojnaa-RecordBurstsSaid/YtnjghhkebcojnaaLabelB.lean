/- the contracts of package label: Put, Get -/
import Derived.Test.YtnjghhkebcojnaaLabelA
import Derived.Lib.ConvBytes
set_option maxRecDepth 100000
namespace Go.Proofs.Ytnjghhkebcojnaa.LabM
/-- what Put writes, as a text and noughts -/
theorem putB_text (s : List UInt8) : ∃ T : List UInt8, (right s = true → T = s) ∧ (right s = false → T = []) ∧ T.length ≤ 16 ∧ putB s = PackM.textB T ++ List.replicate (16 - T.length) 0 := by
  rcases hr : right s with _ | _
  · refine ⟨[], fun h => (by cases h), fun _ => rfl, by simp, ?_⟩
    unfold putB
    rw [if_neg (by rw [hr]; simp)]
    rfl
  · have hl := (right_len hr).2
    refine ⟨s, fun _ => rfl, fun h => (by cases h), hl, ?_⟩
    unfold putB PackM.textB
    rw [if_pos hr, Nat.min_eq_left (by omega), List.take_of_length_le (by omega)]
    simp
end Go.Proofs.Ytnjghhkebcojnaa.LabM
namespace Go.Proofs.Ytnjghhkebcojnaa.Label
open Go.RowKit R07

/-- []byte(s), of any text -/
theorem conv_any (s : ByteArray) (w : World) (hs : s.size ≤ 1048576) : ∃ (V : World) (c : Nat), (convert 9 22 (.string s)).run Try.prog w = .ok (.slice (some ⟨w.heap.size, 0, none⟩) s.size c) V ∧
    s.size ≤ c ∧ c ≤ maxLen ∧ BytesAt V (some ⟨w.heap.size, 0, none⟩) s.data.toList ∧ Below w.heap.size w V := by
  refine ⟨Lib.bytesWorld w 5 s, _, Lib.run_convert_string_bytes w 9 22 5 s Try.underlying9 Try.underlying22 Try.underlying5, grownCap_ge w s.size 0 5, grownCap_le_maxLen w s.size 0 5 (by unfold maxLen; omega), fun i hi => ⟨w.heap.size, 0, rfl, ?_⟩, ?_⟩
  · rw [Nat.zero_add, Lib.bytesWorld_cell w 5 s i (by rw [size_len]; exact hi)]
    simp [List.getD, List.getElem?_eq_getElem hi]
  · exact ⟨rfl, rfl, rfl, by rw [Lib.bytesWorld_size]; omega, fun k hk => Lib.bytesWorld_at_old w 5 s k hk⟩

theorem WPost.trans {w w1 w2 : World} {g base : Nat} {v v1 : Value} {l2 : List UInt8} {e : Ending} (q1 : Keeps (fun b => b = g ∨ v.ownBlock = some b) w w1) (p1 : v1.ownBlock = v.ownBlock ∨ ∃ j, v1.ownBlock = some j ∧ w.heap.size ≤ j)
    (h : Pack.WPost w1 g base v1 l2 e w2) : Pack.WPost w g base v l2 e w2 := by
  obtain ⟨he, v2, h2, q2, p2⟩ := h
  refine ⟨he, v2, h2, ?_, ?_⟩
  · refine ⟨q2.os.trans q1.os, q2.tape.trans q1.tape, q2.output.trans q1.output, Nat.le_trans q1.size q2.size, fun k hk hn => ?_⟩
    refine (q2.block k (Nat.lt_of_lt_of_le hk q1.size) (fun hf => ?_)).trans (q1.block k hk hn)
    rcases hf with hf | hf
    · exact hn (.inl hf)
    · rcases p1 with p | ⟨j, p, hj⟩
      · exact hn (.inr (by rw [← p]; exact hf))
      · rw [hf] at p; injection p with p; omega
  · rcases p2 with p | ⟨j, p, hj⟩
    · rcases p1 with p1 | ⟨j, p1, hj⟩
      · exact .inl (p.trans p1)
      · exact .inr ⟨j, p.trans p1, hj⟩
    · exact .inr ⟨j, p, Nat.le_trans q1.size hj⟩

set_option maxHeartbeats 1000000 in
theorem put_any (g base : Nat) (v : Value) (l : List UInt8) (s : ByteArray) (w : World) (h : Pack.WAt w g base v l) (hl : l.length ≤ 1000000) (hb : base ≤ w.heap.size) (hs : s.size ≤ 9223372036854775807) :
    Calls Try.prog 49 #[.pointer (some ⟨g, 0, none⟩), .string s] w (Pack.WPost w g base v (l ++ LabM.putB s.data.toList)) := by
  obtain ⟨T, hT1, hT2, hT3, hres⟩ := LabM.putB_text s.data.toList
  rw [hres]
  have C := fun W => right_any s W hs
  obtain ⟨m, hm⟩ : ∃ m, m = 16 - T.length := ⟨_, rfl⟩
  rw [← hm]
  have hmk := fun W' => make_u8 m (by omega) W'
  have hrl : (List.replicate m (0 : UInt8)).length = m := List.length_replicate
  have htl : (l ++ PackM.textB T).length ≤ 1048576 := by rw [List.length_append, PackM.textB_len]; omega
  obtain ⟨Z, hZ⟩ : ∃ Z, Z = List.replicate m (0 : UInt8) := ⟨_, rfl⟩
  have hZB : ∀ W : World, BytesAt (W.alloc (.cells (cells (List.replicate m 0)) 5)) (some ⟨W.heap.size, 0, none⟩) Z := fun W => by rw [hZ]; exact (Row.new W _).bytes
  rw [← hZ] at hrl ⊢
  rw [← List.append_assoc]
  have HZB := Lib.hid hZB; have HRL := Lib.hid hrl; have HTL := Lib.hid htl; have H := Lib.hid h
  clear hres hZ hZB hrl htl h
  have key : ∀ (w1 : World), Below w.heap.size w w1 → ∃ (V : World) (c : Nat) (S : ByteArray) (n : Nat), S.data.toList = T ∧ n = T.length ∧ (convert 9 22 (.string S)).run Try.prog w1 = .ok (.slice (some ⟨w1.heap.size, 0, none⟩) n c) V ∧
      n ≤ c ∧ c ≤ maxLen ∧ BytesAt V (some ⟨w1.heap.size, 0, none⟩) T ∧ Below w.heap.size w V ∧ w1.heap.size ≤ V.heap.size := fun w1 hb1 => by
    obtain ⟨V, c, h1, h2, h3, h4, h5⟩ := conv_any ⟨T.toArray⟩ w1 (by show T.toArray.size ≤ _; simp; omega)
    exact ⟨V, c, ⟨T.toArray⟩, T.length, by simp, rfl, by rw [h1]; rfl, h2, h3, by simpa using h4, bstep hb1 h5, h5.size⟩
  rcases hr : LabM.right s.data.toList with _ | _
  all_goals
    rw [hr] at C
    have HC := Lib.hid C
    clear C
    first
      | (have e1 := hT1 hr; have hS : ∀ S : ByteArray, S.data.toList = T → S = s := fun S e => by rw [e1] at e; cases S; cases s; simp at e; rw [e])
      | (have e1 := hT2 hr; have hS : ∀ S : ByteArray, S.data.toList = T → S = ⟨#[]⟩ := fun S e => by rw [e1] at e; cases S; simp at e; rw [e])
    clear hr hT1 hT2 hs
    have HS := Lib.hid hS
    clear hS e1
    go_enter Try.func49, Try.ntmps49
    go_wp2_with fail
    refine (HC.out _).mono ?_
    rintro e w1 ⟨rfl, hq⟩
    have hb1 := bquiet hq
    clear hq
    obtain ⟨V, c, S, n, hST, hn, hconv, hc1, hc2, hBT, hbV, hzV⟩ := key w1 hb1
    have hSs := HS.out S hST
    have hSn : S.size = n := by rw [size_len, hST, hn]
    clear key hST HS
    have i1 : (16 : Int) - (n : Int) = (m : Int) := by omega
    have HBT := Lib.hid hBT; have HC2 := Lib.hid hc2; have HN := Lib.hid hn
    clear hBT hc2 hn
    first
      | (have i2 : m = 16 := by (rw [hSs] at hSn; have : (⟨#[]⟩ : ByteArray).size = 0 := rfl; omega)
         subst i2; subst hSs; clear hSn hm i1; simp only [show ((16 : Nat) : Int) = 16 from rfl] at hmk)
      | (subst hSs; clear hm)
    go_wp2_with fail
    have C := Pack.wtext_any g base v l (some ⟨w1.heap.size, 0, none⟩) T c V (H.out.below hbV) hl (by have := hbV.size; omega) HBT.out (by omega) (by have := HN.out; omega) HC2.out (fun h0 a ea => by
      injection ea with ea; subst ea
      have h1 := H.out.lt
      refine ⟨by show w1.heap.size ≠ g; have := hb1.size; omega, fun h2 => ?_⟩
      have := (H.out.own.lt _ h2).2
      have h3 := hb1.size
      exact absurd this (by show ¬ w1.heap.size < w.heap.size; omega))
    rw [← HN.out] at C
    refine C.mono ?_
    clear C
    rintro e w2 hp
    obtain ⟨rfl, v1, h1, q1, p1⟩ := Pack.WPost.after hbV hp
    have hz := q1.size
    have H1 := Lib.hid h1; have Q1 := Lib.hid q1; have P1 := Lib.hid p1
    clear hp h1 q1 p1 hconv
    go_wp2_with fail
    have C := Pack.wraw_any g base v1 (l ++ PackM.textB T) (some ⟨w2.heap.size, 0, none⟩) Z Z.length _ (H1.out.below (balloc _ _)) HTL.out (by simp; omega) (HZB.out w2) (by rw [HRL.out]; omega)
    rw [HRL.out] at C
    refine C.mono ?_
    clear C
    rintro e w3 hp
    have hp2 := WPost.trans Q1.out P1.out (Pack.WPost.after (balloc _ _) hp)
    obtain ⟨rfl, _⟩ := id hp
    have HP := Lib.hid hp2
    clear hp hp2
    go_wp2
    go_end0
    first
      | exact HP.out
      | (rw [← List.append_assoc]; exact HP.out)
end Go.Proofs.Ytnjghhkebcojnaa.Label
