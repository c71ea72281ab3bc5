/- the contracts of package label: Put, Get -/
import Derived.Test.YtjoocjkakgjgmaaLabelA
import Derived.Lib.ConvBytes
set_option maxRecDepth 100000
namespace Go.Proofs.Ytjoocjkakgjgmaa.LabM
/-- what Put writes, as a text and noughts -/
theorem putB_text (s : List UInt8) : ∃ T : List UInt8, (right s = true → T = s) ∧ (right s = false → T = []) ∧ T.length ≤ 16 ∧ putB s = PackM.textB T ++ List.replicate (16 - T.length) 0 := by
  rcases hr : right s with _ | _
  · refine ⟨[], fun h => (by cases h), fun _ => rfl, by simp, ?_⟩
    unfold putB
    rw [if_neg (by rw [hr]; simp)]
    rfl
  · have hl := (right_len hr).2
    refine ⟨s, fun _ => rfl, fun h => (by cases h), hl, ?_⟩
    unfold putB PackM.textB
    rw [if_pos hr, Nat.min_eq_left (by omega), List.take_of_length_le (by omega)]
    simp
end Go.Proofs.Ytjoocjkakgjgmaa.LabM
namespace Go.Proofs.Ytjoocjkakgjgmaa.Label
open Go.RowKit R07

/-- []byte(s), of any text -/
theorem conv_any (s : ByteArray) (w : World) (hs : s.size ≤ 1048576) : ∃ (V : World) (c : Nat), (convert 9 24 (.string s)).run Try.prog w = .ok (.slice (some ⟨w.heap.size, 0, none⟩) s.size c) V ∧
    s.size ≤ c ∧ c ≤ maxLen ∧ BytesAt V (some ⟨w.heap.size, 0, none⟩) s.data.toList ∧ Below w.heap.size w V := by
  refine ⟨Lib.bytesWorld w 5 s, _, Lib.run_convert_string_bytes w 9 24 5 s Try.underlying9 Try.underlying24 Try.underlying5, grownCap_ge w s.size 0 5, grownCap_le_maxLen w s.size 0 5 (by unfold maxLen; omega), fun i hi => ⟨w.heap.size, 0, rfl, ?_⟩, ?_⟩
  · rw [Nat.zero_add, Lib.bytesWorld_cell w 5 s i (by rw [size_len]; exact hi)]
    simp [List.getD, List.getElem?_eq_getElem hi]
  · exact ⟨rfl, rfl, rfl, by rw [Lib.bytesWorld_size]; omega, fun k hk => Lib.bytesWorld_at_old w 5 s k hk⟩

theorem WPost.trans {w w1 w2 : World} {g base : Nat} {v v1 : Value} {l2 : List UInt8} {e : Ending} (q1 : Keeps (fun b => b = g ∨ v.ownBlock = some b) w w1) (p1 : v1.ownBlock = v.ownBlock ∨ ∃ j, v1.ownBlock = some j ∧ w.heap.size ≤ j)
    (h : Pack.WPost w1 g base v1 l2 e w2) : Pack.WPost w g base v l2 e w2 := by
  obtain ⟨he, v2, h2, q2, p2⟩ := h
  refine ⟨he, v2, h2, ?_, ?_⟩
  · refine ⟨q2.os.trans q1.os, q2.tape.trans q1.tape, q2.output.trans q1.output, Nat.le_trans q1.size q2.size, fun k hk hn => ?_⟩
    refine (q2.block k (Nat.lt_of_lt_of_le hk q1.size) (fun hf => ?_)).trans (q1.block k hk hn)
    rcases hf with hf | hf
    · exact hn (.inl hf)
    · rcases p1 with p | ⟨j, p, hj⟩
      · exact hn (.inr (by rw [← p]; exact hf))
      · rw [hf] at p; injection p with p; omega
  · rcases p2 with p | ⟨j, p, hj⟩
    · rcases p1 with p1 | ⟨j, p1, hj⟩
      · exact .inl (p.trans p1)
      · exact .inr ⟨j, p.trans p1, hj⟩
    · exact .inr ⟨j, p, Nat.le_trans q1.size hj⟩

end Go.Proofs.Ytjoocjkakgjgmaa.Label
