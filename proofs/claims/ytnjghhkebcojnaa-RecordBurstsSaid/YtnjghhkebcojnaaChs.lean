/- lists of changes of sectors in memory: read, gathered, opened -/
import Derived.Test.YtnjghhkebcojnaaStore
import Derived.Test.YtnjghhkebcojnaaMO
import Derived.Test.YtnjghhkebcojnaaMMA
set_option maxRecDepth 100000
namespace Go.Proofs.Ytnjghhkebcojnaa
open Go.RowKit

/-- numbers of an int -/
def AtIn (z : Int) : Prop := -9223372036854775808 ≤ z ∧ z ≤ 9223372036854775807
/-- a change's two cells -/
structure ChLies (w : World) (b o : Nat) (B : Option Addr) (c : Nat) (x : EntM.Ch) : Prop where
  c0 : w.cell? ⟨b, o, none⟩ = some (.int .i64 x.at_)
  c1 : w.cell? ⟨b, o + 1, none⟩ = some (.slice B x.data.length c)
  h1 : x.data.length ≤ c
  h2 : c ≤ maxLen
  bytes : BytesAt w B x.data
  i0 : AtIn x.at_
/-- the cells behind an address hold these changes, two cells each -/
def ChsAt (w : World) (A : Option Addr) (l : List EntM.Ch) : Prop :=
  ∀ i, (h : i < l.length) → ∃ b o B c, A = some ⟨b, o, none⟩ ∧ ChLies w b (o + i * 2) B c l[i]
theorem ChLies.below {w w' : World} {b o : Nat} {B : Option Addr} {c : Nat} {x : EntM.Ch} (h : ChLies w b o B c x) (hb : Below w.heap.size w w') : ChLies w' b o B c x :=
  ⟨(hb.cell (p := ⟨b, o, none⟩) (cell_lt h.c0)).trans h.c0, (hb.cell (p := ⟨b, o + 1, none⟩) (cell_lt h.c1)).trans h.c1, h.h1, h.h2, h.bytes.below hb, h.i0⟩
theorem ChsAt.below {w w' : World} {A : Option Addr} {l : List EntM.Ch} (h : ChsAt w A l) (hb : Below w.heap.size w w') : ChsAt w' A l := by
  intro i hi
  obtain ⟨b, o, B, c, hA, h0⟩ := h i hi
  exact ⟨b, o, B, c, hA, h0.below hb⟩
theorem ChsAt.drewN {w : World} {A : Option Addr} {l : List EntM.Ch} (h : ChsAt w A l) (n : Nat) : ChsAt (w.drewN n) A l := h.below (bdraw w n)
theorem ChsAt.nil (w : World) (A : Option Addr) : ChsAt w A [] := fun i hi => absurd hi (by simp)
theorem ChsAt.in_ {w : World} {A : Option Addr} {l : List EntM.Ch} (h : ChsAt w A l) : ∀ c ∈ l, AtIn c.at_ := fun c hc => by
  obtain ⟨i, hi, rfl⟩ := List.mem_iff_getElem.1 hc
  obtain ⟨_, _, _, _, _, h0⟩ := h i hi
  exact h0.i0
/-- a literal of one change -/
theorem ChsAt.one (w : World) (x : EntM.Ch) (B : Option Addr) (c : Nat) (t : TypeId) (h1 : x.data.length ≤ c) (h2 : c ≤ maxLen) (hB : BytesAt w B x.data) (hi : AtIn x.at_) :
    ChsAt (w.alloc (.cells #[.int .i64 x.at_, .slice B x.data.length c] t)) (some ⟨w.heap.size, 0, none⟩) [x] := fun i hi' => by
  obtain rfl : i = 0 := by simp at hi'; omega
  exact ⟨w.heap.size, 0, B, c, rfl, by simp, by simp, h1, h2, hB.alloc _, hi⟩

section
variable {w : World} {base : Nat} {e : TypeId} {size : Nat}
theorem append_place_s {t ty e : TypeId} {i : TypeInfo} {z : Value} {size bytes : Nat} (ht : Try.prog.underlying t = some (.slice e)) (hi : Try.prog.info? e = some i) (hz : i.zero = some z) (hsize : i.size = size) (hby : i.bytes = bytes)
    {v : Value} {n : Nat} {xs : List Value} (hown : w.ownsRow base e size v n xs) {a : Addr} {c m : Nat} {news : List Value} (hl : news.length = m * size) (hm : 0 < m) (hnews : ∀ j u, news[j]? = some u → w.cell? (a.add j) = some u) (hone : ∀ u ∈ news, u.oneCell' = true) (h63 : n + m ≤ maxLen) (hbytes : (n + m) * bytes ≤ 140737488355328)
    {v' : Value} {w' : World} (hrun : (Builtin.append_ #[t, t] ty #[v, .slice (some a) m c]).run Try.prog w = .ok v' w') : v'.ownBlock = v.ownBlock ∨ v'.ownBlock = some w.heap.size := by
  have hsmall : n + m ≤ 9223372036854775807 := by simp only [maxLen] at h63; omega
  subst hsize
  subst hby
  rcases hown.2 with ⟨rfl, rfl⟩ | ⟨g, cap, cur, rfl, hbg, hg, hnc, hcm, hcs, htake⟩
  · have hr := run_append_nil (P := Try.prog) w t ty e i z ht hi hz a m c news hl hnews hm (by omega) (by have hb := hbytes; simp only [Nat.zero_add] at hb; omega)
    rw [hr] at hrun
    injection hrun with e1 e2
    subst e1
    exact .inr rfl
  · by_cases hroom : n + m ≤ cap
    · have hfit : n * i.size + news.length ≤ cur.size := by rw [hl, hcs, ← Nat.add_mul]; exact Nat.mul_le_mul_right _ hroom
      have hr := run_append_room (P := Try.prog) w t ty e i ht hi g n cap cur hg a m c news hl hnews hone hroom hfit
      rw [hr] at hrun
      injection hrun with e1 e2
      subst e1
      exact .inl rfl
    · have holds : ∀ j u, xs[j]? = some u → w.cell? ((⟨g, 0, none⟩ : Addr).add j) = some u := hown.cells (g := g) rfl
      have hr := run_append_grow (P := Try.prog) w t ty e i z ht hi hz ⟨g, 0, none⟩ n cap xs hown.1 holds a m c news hl hnews (by omega) (by omega) (growslice_fits (by omega) hbytes)
      rw [hr] at hrun
      injection hrun with e1 e2
      subst e1
      exact .inr rfl
theorem ownsRow_keep {F : Nat → Prop} {w' : World} {v : Value} {n : Nat} {xs : List Value} (h : w.ownsRow base e size v n xs) (q : Keeps F w w') (hF : ∀ k, v.ownBlock = some k → ¬ F k) : w'.ownsRow base e size v n xs := by
  refine ⟨h.1, ?_⟩
  rcases h.2 with h2 | ⟨g, cap, cur, rfl, h2, h3, h4⟩
  · exact .inl h2
  · refine .inr ⟨g, cap, cur, rfl, h2, (q.block g ?_ (hF g rfl)).trans h3, h4⟩
    rcases Nat.lt_or_ge g w.heap.size with hlt | hge
    · exact hlt
    · rw [Array.getElem?_eq_none hge] at h3; cases h3
end

section
variable {w w' : World} {base : Nat} {G : Nat → Prop} {v : Value} {l : List EntM.Ch}
end
/-- a call that hands back changes -/
def RetChs (w : World) (l : List EntM.Ch) (e : Ending) (w' : World) : Prop :=
  ∃ A c, e = .returned (.slice A l.length c) ∧ l.length ≤ c ∧ c ≤ maxLen ∧ ChsAt w' A l ∧ Below w.heap.size w w'
end Go.Proofs.Ytnjghhkebcojnaa
namespace Go.Proofs.Ytnjghhkebcojnaa
open Go.ChangeShapes Go.WideShapes Go.ChangeAt Go.RowKit Go.Deep
section
variable {H : Type} {enc : TypeId × Value → H} {W : World} {base : Nat} {v : Value} {d : DataW H} {p : List MemPlace}
theorem open_chs {P : Program} {t e tq : TypeId} {f0 f1 : Field} (ht : P.underlying t = some (.slice e)) (he : P.underlying e = some (.struct #[f0, f1])) (hone : oneCellFields P #[f0, f1] = true) (hC : P.cellsOf e = 2)
    (t0 : P.underlying f0.type = some (.int .i64)) (t4 : P.underlying f1.type = some (.slice tq)) (tq8 : P.underlying tq = some (.int .u8)) (cq : P.cellsOf tq = 1)
    (hok : Value.okWide P W .any base t v) (h : DataW.Trod enc P W 0 (fun _ => true) true t v d p) :
    ∃ (A : Option Addr) (l : List EntM.Ch) (cap : Nat), v = .slice A l.length cap ∧ l.length ≤ cap ∧ cap ≤ maxLen ∧ ChsAt W A l := by
  obtain ⟨A, len, cap, rfl, h1, h2, hel⟩ := open_elems ht (by rw [hC]; omega) hok h
  have each : ∀ i, i < len → ∃ x : EntM.Ch, ∃ b o B c, A = some ⟨b, o, none⟩ ∧ ChLies W b (o + i * 2) B c x := by
    intro i hi
    obtain ⟨b, o, cs, n, x, hA, hcl, hat, htr⟩ := hel i hi
    rw [hC] at hat hcl
    obtain ⟨u0, m0, y0, c0, r0⟩ := trod_field he hone hC htr (j := 0) rfl
    obtain ⟨u4, m4, y4, c4, r4⟩ := trod_field he hone hC htr (j := 1) rfl
    obtain ⟨z0, rfl, b0⟩ := trod_num t0 r0
    obtain ⟨l4, B, c, rfl, k1, k2, k3⟩ := trod_bytes t4 tq8 cq r4
    exact ⟨⟨z0, l4⟩, b, o, B, c, hA, (hat 0 (by omega)).trans c0, (hat 1 (by omega)).trans c4, k1, k2, k3, i64_range b0⟩
  obtain ⟨f, hf⟩ : ∃ f : Nat → EntM.Ch, ∀ i, i < len → ∃ b o B c, A = some ⟨b, o, none⟩ ∧ ChLies W b (o + i * 2) B c (f i) := by
    refine ⟨fun i => if hi : i < len then Classical.choose (each i hi) else ⟨0, []⟩, fun i hi => ?_⟩
    simp only [hi, dif_pos]
    exact Classical.choose_spec (each i hi)
  refine ⟨A, (List.range len).map f, cap, by simp, by simpa using h1, h2, fun i hi => ?_⟩
  have hi' : i < len := by simpa using hi
  simp only [List.getElem_map, List.getElem_range]
  exact hf i hi'
end
end Go.Proofs.Ytnjghhkebcojnaa
