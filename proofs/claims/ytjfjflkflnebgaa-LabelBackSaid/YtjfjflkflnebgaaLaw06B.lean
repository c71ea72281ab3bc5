/- the walk of layer 6's third law -/
import Derived.Test.YtjfjflkflnebgaaLaw06
import Derived.Lib.MinMax
set_option maxRecDepth 100000
namespace Go.Proofs.Ytjfjflkflnebgaa.Law06B
open Go.RowKit Law06

/-! what was written is read back -/
theorem raw_at {b pre x rest : List UInt8} (h : b = pre ++ (x ++ rest)) : PackM.rawL b ⟨pre.length, false⟩ x.length = x ∧ PackM.rawS b ⟨pre.length, false⟩ x.length = ⟨(pre ++ x).length, false⟩ := by
  subst h
  have hn : ¬ (((pre ++ (x ++ rest)).length : Int) - (pre.length : Nat) < (x.length : Int)) := by simp only [List.length_append]; omega
  have hd : ¬ ((false || decide (((pre ++ (x ++ rest)).length : Int) - (pre.length : Nat) < (x.length : Int))) = true) := by rw [Bool.false_or, decide_eq_false hn]; simp
  constructor
  · unfold PackM.rawL
    rw [if_neg hd, Int.toNat_natCast, List.drop_left, List.take_left]
  · unfold PackM.rawS
    rw [if_neg hd, Int.toNat_natCast, List.length_append]
theorem out_split (l : List Act6) (k : Nat) (h : k < l.length) : ∃ rest, outTo l l.length = outTo l k ++ (outL l[k] ++ rest) := by
  refine ⟨(l.drop (k + 1)).flatMap outL, ?_⟩
  unfold outTo
  rw [List.take_length]
  have e : l = l.take k ++ (l[k] :: l.drop (k + 1)) := by rw [← List.drop_eq_getElem_cons h, List.take_append_drop]
  have : l.flatMap outL = (l.take k ++ (l[k] :: l.drop (k + 1))).flatMap outL := by rw [← e]
  rw [this, List.flatMap_append, List.flatMap_cons]
theorem back_num (l : List Act6) (k : Nat) (h : k < l.length) (hk : l[k].kind = 0) :
    PackM.numV (outTo l l.length) ⟨(outTo l k).length, false⟩ l[k].k = l[k].n.toNat % 256 ^ PackM.wid l[k].k ∧ PackM.numS (outTo l l.length) ⟨(outTo l k).length, false⟩ l[k].k = ⟨(outTo l (k + 1)).length, false⟩ := by
  obtain ⟨rest, hr⟩ := out_split l k h
  have ho : outL l[k] = PackM.numB l[k].k l[k].n := by unfold outL; rw [if_pos hk]
  rw [outTo_succ l k h]
  rw [ho] at hr ⊢
  obtain ⟨h1, h2⟩ := raw_at hr
  rw [PackM.numB_len] at h1 h2
  unfold PackM.numV PackM.numS
  rw [h1, h2]
  exact ⟨PackM.val_be _ _, rfl⟩
theorem back_raw (l : List Act6) (k : Nat) (h : k < l.length) (h0 : l[k].kind ≠ 0) (hk : l[k].kind = 1) :
    PackM.rawL (outTo l l.length) ⟨(outTo l k).length, false⟩ l[k].b.length = l[k].b ∧ PackM.rawS (outTo l l.length) ⟨(outTo l k).length, false⟩ l[k].b.length = ⟨(outTo l (k + 1)).length, false⟩ := by
  obtain ⟨rest, hr⟩ := out_split l k h
  have ho : outL l[k] = l[k].b := by unfold outL; rw [if_neg h0, if_pos hk]
  rw [outTo_succ l k h]
  rw [ho] at hr ⊢
  exact raw_at hr
theorem back_text (l : List Act6) (k : Nat) (h : k < l.length) (h0 : l[k].kind ≠ 0) (hk : l[k].kind ≠ 1) :
    PackM.textL (outTo l l.length) ⟨(outTo l k).length, false⟩ = l[k].b.take 255 ∧ PackM.textS (outTo l l.length) ⟨(outTo l k).length, false⟩ = ⟨(outTo l (k + 1)).length, false⟩ := by
  obtain ⟨rest, hr⟩ := out_split l k h
  have ho : outL l[k] = PackM.textB l[k].b := by unfold outL; rw [if_neg h0, if_neg hk]
  rw [outTo_succ l k h]
  rw [ho] at hr ⊢
  have e1 : PackM.textB l[k].b = [UInt8.ofNat (min l[k].b.length 255)] ++ l[k].b.take 255 := rfl
  have hr1 : outTo l l.length = outTo l k ++ ([UInt8.ofNat (min l[k].b.length 255)] ++ (l[k].b.take 255 ++ rest)) := by rw [hr, e1, List.append_assoc]
  obtain ⟨p1, p2⟩ := raw_at hr1
  have hr2 : outTo l l.length = (outTo l k ++ [UInt8.ofNat (min l[k].b.length 255)]) ++ (l[k].b.take 255 ++ rest) := by rw [hr1, List.append_assoc]
  obtain ⟨p3, p4⟩ := raw_at hr2
  have w1 : PackM.wid 1 = 1 := by decide
  have hv : PackM.numV (outTo l l.length) ⟨(outTo l k).length, false⟩ 1 = (l[k].b.take 255).length := by
    unfold PackM.numV
    rw [w1]
    have p1' : PackM.rawL (outTo l l.length) ⟨(outTo l k).length, false⟩ ((1 : Nat) : Int) = [UInt8.ofNat (min l[k].b.length 255)] := p1
    rw [p1', List.length_take]
    unfold PackM.val
    simp only [List.foldl_cons, List.foldl_nil, Nat.mul_zero, Nat.zero_add]
    rw [UInt8.toNat_ofNat_of_lt' (by simp only [UInt8.size]; omega)]
    exact Nat.min_comm _ _
  have hs : PackM.numS (outTo l l.length) ⟨(outTo l k).length, false⟩ 1 = ⟨(outTo l k ++ [UInt8.ofNat (min l[k].b.length 255)]).length, false⟩ := by
    unfold PackM.numS
    rw [w1]
    exact p2
  unfold PackM.textL PackM.textS
  rw [hv, hs, p3, p4, e1, List.append_assoc]
  exact ⟨rfl, rfl⟩

end Go.Proofs.Ytjfjflkflnebgaa.Law06B
