/- the contracts of package label: Merge -/
import Derived.Test.YtjfjflkflnebgaaTexts
import Derived.Test.YtjfjflkflnebgaaMergeMath
import Derived.Test.YtjfjflkflnebgaaShelf
import Derived.Maps.OwnIn
import Derived.Sort.OwnSorted
import Derived.StringKeys
set_option maxRecDepth 100000
namespace Go.Proofs.Ytjfjflkflnebgaa.LabM
theorem flat_len (ls : List (List ByteArray)) (h : ∀ i, (hi : i < ls.length) → ls[i].length ≤ 1000) : ls.flatten.length ≤ 1000 * ls.length := by
  induction ls with
  | nil => simp
  | cons l ls ih =>
    have h0 := h 0 (by simp)
    have h1 := ih fun i hi => by have := h (i + 1) (by simpa using hi); simpa using this
    simp only [List.getElem_cons_zero] at h0
    rw [List.flatten_cons, List.length_append, List.length_cons]
    omega
end Go.Proofs.Ytjfjflkflnebgaa.LabM
namespace Go.Proofs.Ytjfjflkflnebgaa.Label
open Go.RowKit Go.Shelf Go.Maps R07
attribute [local go_sem] Oper.semAt_some

theorem sorts (m : Nat) : AnyZ.SortsIn Try.prog laySorted_ren Fence.wide m :=
  ⟨fun blk off cap ss W hH hblk hsz => callsIn_wide.2 (AnyM.slices_Sort_string laySort blk off cap ss W hH hblk hsz),
   fun p cap W => callsIn_wide.2 (AnyM.slices_Sort_string_none laySort p cap W)⟩
/-- what every value of the map reads as -/
def unitR : Value → Option (DataW Unit × List MemPlace) := fun _ => some (.lit (.bool true), [])

theorem keys_c (mb : Option Nat) (W : World) : CallsIn Fence.wide 11 Try.prog 28 #[.map mb] W fun e w' =>
    e = .returned (.func (.func 40) #[] #[.pointer (some ⟨W.heap.size, 0, none⟩)]) ∧ w' = W.alloc (.cells #[.map mb] 50) :=
  AnyZ.keys_in layKeys Fence.wide 11 trivial rfl mb W
set_option maxHeartbeats 1000000 in
theorem sorted_c (b nn : Nat) (D0 : DataW Unit) (w : World) (hown : w.ownsMap Try.prog 9 unitR b nn D0) (hmax : Maps.size D0 ≤ 1000000) :
    CallsIn Fence.wide 11 Try.prog 27 #[.func (.func 40) #[] #[.pointer (some ⟨w.heap.size, 0, none⟩)]] (w.alloc (.cells #[.map (some b)] 50)) fun e w' =>
      ∃ (v : Value) (ss : List (List UInt8)), e = .returned v ∧ ss.Perm (strKeys D0) ∧
        w'.ownsRow (w.alloc (.cells #[.map (some b)] 50)).heap.size 9 1 v ss.length ((ss.mergeSort leB).map Go.Proofs.encStr) ∧ (v = .slice none 0 0 ↔ ss = []) ∧
        Below (w.alloc (.cells #[.map (some b)] 50)).heap.size (w.alloc (.cells #[.map (some b)] 50)) w' := by
  have hbl := hown.lt
  have hseq : SeqGives Fence.wide 8 Try.prog 40 #[.pointer (some ⟨w.heap.size, 0, none⟩)] Go.Proofs.encStr (fun ss => ss.Perm (strKeys D0)) (Maps.size D0) (w.alloc (.cells #[.map (some b)] 50)) :=
    AnyZ.keys_gives (ρ := layKeys_ren) { layKeys with } Fence.wide _ trivial rfl (by omega) w.heap.size b nn D0 _ (by simp) (by simp) (by
      obtain ⟨es, clock, hb, Ft, hs, hD⟩ := hown
      exact ⟨es, clock, (Below.heap_alloc _ _ b hbl).trans hb, Ft, hs, hD⟩)
  exact AnyZ.sorted_in laySorted Fence.wide 11 trivial trivial trivial trivial rfl (by omega) (sorts _) (enters_of Try.func39 (by kernel_rfl) rfl) 40 #[.pointer (some ⟨w.heap.size, 0, none⟩)] trivial
    (enters_of Try.func40 (by kernel_rfl) rfl) _ _ (by unfold maxLen; omega) (by omega) _ hseq
/-- the map whose keys are these texts -/
def setT (xs : List LabM.Txt) : DataW Unit := setOf (.lit (.bool true)) ((xs.map fun x => x.1.data.toList).map Lit.string)
theorem setT_snoc (xs : List LabM.Txt) (x : LabM.Txt) : setT (xs ++ [x]) = (setT xs).put (.string x.1.data.toList) (.lit (.bool true)) := by
  unfold setT
  rw [List.map_append, List.map_append]
  exact setOf_snoc _ _ _

set_option maxHeartbeats 4000000 in
theorem merge_any (A : Option Addr) (ls : List (List ByteArray)) (c : Nat) (w : World) (h : ListsAt w A ls) (hl : ls.length ≤ 1000) (hls : ∀ i, (hi : i < ls.length) → ls[i].length ≤ 1000) (hsa : ∀ i, (hi : i < ls.length) → Sane ls[i]) :
    Calls Try.prog 12 #[.slice A ls.length c] w (RetStrs w (LabM.merge ls)) := by
  obtain ⟨xs, hxs⟩ := LabM.txts ls.flatten (fun s hs => by
    obtain ⟨l, hl, hs⟩ := List.mem_flatten.1 hs
    obtain ⟨i, hi, rfl⟩ := List.mem_iff_getElem.1 hl
    exact hsa i hi s hs)
  have hxl : xs.length ≤ 1000000 := by
    have h1 := LabM.flat_len ls hls
    have h2 : xs.length = ls.flatten.length := by rw [← hxs, List.length_map]
    omega
  have H := Lib.hid h; have HX := Lib.hid hxs
  clear h hls hsa hxs
  refine (callsIn_wide (n := 12)).1 ?_
  have hmm := @run_makeMap Try.prog
  refine callsIn_of_wp_marks Try.func12 rfl trivial ?_ rfl
  simp only [Try.ntmps12, List.size_toArray, List.length_cons, List.length_nil, Nat.reduceAdd, Nat.reduceSub, Array.replicate_succ, Array.replicate_zero, List.push_toArray, List.append_toArray, List.nil_append, List.cons_append]
  gi_wp2_with fail
  refine ⟨trivial, ?_⟩
  refine (texts_in Fence.wide _ trivial rfl _ _ _ _).mono ?_
  rintro e w' ⟨rfl, rfl⟩
  gi_wp2_with fail
  have hm0 := World.ownsMap_made w Try.prog 9 unitR
  have bM := (Boxed.new (w.alloc (.map #[] 0)) 50 (.map (some w.heap.size))).alloc (.cells #[.slice A ls.length c] 30)
  have bL := Boxed.new ((w.alloc (.map #[] 0)).alloc (.cells #[.map (some w.heap.size)] 50)) 30 (.slice A ls.length c)
  simp only [World.size_alloc] at bM bL
  have hB0 : Below w.heap.size w (((w.alloc (.map #[] 0)).alloc (.cells #[.map (some w.heap.size)] 50)).alloc (.cells #[.slice A ls.length c] 30)) := (((Below.refl _ w).alloc (Nat.le_refl _) _).alloc (by simp) _).alloc (by simp; omega) _
  have hM := (hm0.alloc (.cells #[.map (some w.heap.size)] 50)).alloc (.cells #[.slice A ls.length c] 30)
  have hsz : (((w.alloc (.map #[] 0)).alloc (.cells #[.map (some w.heap.size)] 50)).alloc (.cells #[.slice A ls.length c] 30)).heap.size = w.heap.size + 3 := by simp
  obtain ⟨W0, hW0⟩ : ∃ W0, ((w.alloc (.map #[] 0)).alloc (.cells #[.map (some w.heap.size)] 50)).alloc (.cells #[.slice A ls.length c] 30) = W0 := ⟨_, rfl⟩
  rw [hW0] at bM bL hB0 hM hsz ⊢
  clear hW0 hm0 hmm
  refine wpIn_rangeFunc_ownG rfl (by omega) (gf := 37) (lb := #[.pointer (some ⟨w.heap.size + 1 + 1, 0, none⟩)]) rfl trivial (enters_of Try.func37 (by kernel_rfl) rfl)
    (texts_stops Fence.wide 11 trivial rfl (by omega) (w.heap.size + 1 + 1) w A ls c H.out (by omega) xs HX.out W0 bL.cell hB0) belowK_t (belowK_b (by omega)) (Below.refl _ _) (fun _ => rfl)
    (fun pre W => (Boxed W (w.heap.size + 1) 50 (.map (some w.heap.size)) ∧ W.ownsMap Try.prog 9 unitR w.heap.size pre.length (setT pre)) ∧ Below w.heap.size w W)
    (fun _ _ _ => False)
    (OwnFrom.and (fun s A B row hs hg hr => ⟨boxed_own _ _ (fun (_ : Unit) => Value.map (some w.heap.size)) () A B row hs.1 hg (fun r e => (hr r e).2), hs.2.kept hg (fun e => by have := (hr _ e.symm).1; omega)⟩) (ownFrom_below (Nat.le_refl _) (by omega)))
    (fun _ _ _ _ _ hs _ _ => hs)
    ⟨⟨bM, hM⟩, hB0⟩
    (fun x => { tmps := #[.slice A ls.length c, undef, .slice none 0 0, .pointer (some ⟨w.heap.size + 1, 0, none⟩), .string x.1, .map (some w.heap.size), .slice A ls.length c, .func (.func 37) #[] #[.pointer (some ⟨w.heap.size + 1 + 1, 0, none⟩)], .string x.1, undef, undef, undef, undef, undef, undef], defers := [] }) ?assign ?body ?done ?stop
  case assign =>
    intro l x W K hK
    gi_wp2
    exact hK
  case body =>
    rintro l pre x W ⟨⟨hv, hown⟩, hB⟩ hlt
    have hc := hv.cell
    gi_wp2_with (gi_at_mapUpdate; refine wpListIn_mapUpdate_own _ rfl _ _ _ 50 rfl 9 54 (Maps.string_keyed Try.underlying9) Try.underlying50 unitR w.heap.size pre.length _ rfl hown (by unfold maxLen; omega) _ _ _ rfl rfl (WideMaps.keyOf_string_mk Try.underlying9 x.2) _ [] rfl ?_; intro w1 hown1 hgrow1)
    obtain ⟨es, ck, hh, _⟩ := hown
    exact ⟨KeepsFrom.of_grownBy hgrow1 (fun j e => by cases e; omega), (Below.refl _ W).grown hgrow1 hB.size (fun k e => by cases e; exact Nat.le_refl _),
      ⟨hv.kept hgrow1 (by simp), by rw [setT_snoc, List.length_append]; exact hown1⟩, hB.grown hgrow1 hB.size (fun k e => by cases e; exact Nat.le_refl _)⟩
  case done =>
    rintro D ys W hD rfl ⟨⟨hv, hown⟩, hB⟩ hK
    have hc := hv.cell
    have hsz2 : Maps.size (setT ys) ≤ 1000000 := by
      have := LabM.size_keys (H := Unit) (.lit (.bool true)) (ys.map fun (x : LabM.Txt) => x.1.data.toList)
      rw [List.length_map] at this
      exact Nat.le_trans this hxl
    have C := sorted_c w.heap.size _ (setT ys) W hown hsz2
    have HC := Lib.hid C
    clear C hsz2 hown
    gi_wp2_with fail
    refine ⟨trivial, ?_⟩
    refine (keys_c _ _).mono ?_
    rintro e w' ⟨rfl, rfl⟩
    gi_wp2_with fail
    refine ⟨trivial, ?_⟩
    refine HC.out.mono ?_
    rintro e W3 ⟨v, ss, rfl, hS, hrow, hnil, hb⟩
    have hDlt := (Array.getElem?_eq_some_iff.1 hK).1
    have hK' : W3.heap[D]? = some (.deferred (some [])) := (hb.block D (by simp; omega)).trans ((Below.heap_alloc W _ D hDlt).trans hK)
    obtain ⟨m1, m2⟩ := LabM.sorted_keys (H := Unit) (.lit (.bool true)) (ys.map fun (x : LabM.Txt) => x.1.data.toList) (LabM.merge ls) (LabM.up_merge ls) (fun x => by
      unfold LabM.bytesOf
      rw [List.mem_map, List.mem_map]
      constructor
      · rintro ⟨s, hs, rfl⟩
        rw [LabM.mem_merge, ← HX.out, List.mem_map] at hs
        obtain ⟨y, hy, rfl⟩ := hs
        exact ⟨y, hy, rfl⟩
      · rintro ⟨y, hy, rfl⟩
        exact ⟨y.1, by rw [LabM.mem_merge, ← HX.out]; exact List.mem_map.2 ⟨y, hy, rfl⟩, rfl⟩) ss hS
    have hr2 := ownsRow_putObj hrow (.deferred none) hK' rfl
    rw [m1, m2, show (LabM.bytesOf (LabM.merge ls)).map Go.Proofs.encStr = LabM.strV (LabM.merge ls) from by
      unfold LabM.bytesOf LabM.strV
      rw [List.map_map]
      refine List.map_congr_left fun s _ => ?_
      cases s
      simp [Go.Proofs.encStr]] at hr2
    have hB3 : Below w.heap.size w (W3.putObj D (.deferred none)) := ((hB.alloc hB.size _).trans (hb.mono (by simp; have := hB.size; omega))).trans (belowK_b (w := w) (Nat.le_refl _) W3 D _ _ (by omega) hK' rfl rfl)
    obtain ⟨X, d, hv2, hd1, hd2, hX, _⟩ := OwnS.strs (base := (W.alloc (.cells #[.map (some w.heap.size)] 50)).heap.size) hr2
    have HX2 := Lib.hid hX; have HB3 := Lib.hid hB3
    clear hX hB3 hr2 m1 m2 hrow hb hS hnil HC
    gi_wp2
    refine ⟨by simp, .inl ⟨_, _, rfl, run_takeDeferred hK', ?_⟩⟩
    exact ⟨_, results_tmp rfl _ _ _, X, d, rfl, hd1, hd2, HX2.out, HB3.out⟩
  case stop =>
    rintro D c pre W _ _ h _
    exact h.elim
end Go.Proofs.Ytjfjflkflnebgaa.Label
