/- merged: JourA, JourB, JourC, JourD, JourE -/
import Derived.Test.YtapgpibindhlfaaMMA
import Derived.Test.YtapgpibindhlfaaLaw16C
import Derived.Test.YtapgpibindhlfaaMDK
import Derived.Test.YtapgpibindhlfaaMSE
import Derived.Test.YtapgpibindhlfaaRowsN
import Derived.WalkMore
import Derived.Deep.LoopGhost
import Derived.Test.YtapgpibindhlfaaInts
import Derived.Lib.MinMax
import Derived.Test.YtapgpibindhlfaaMEG
import Derived.Test.YtapgpibindhlfaaFlow

/- package journal: steps, in memory, done one behind the other -/
set_option maxRecDepth 100000
namespace Go.Proofs.Ytapgpibindhlfaa.Jour
open Go.RowKit DiskM EntM JourM Disk
open Law16 (Fine)

/-- apart from a disk's blocks -/
def Off (p g k : Nat) : Prop := k ≠ p ∧ k ≠ g
theorem Off.not {p g k : Nat} (h : Off p g k) : ¬ PG p g k := fun e => by
  rcases e with e | e
  · exact h.1 e
  · exact h.2 e
/-- a function value that is a step, and stands on blocks that P says alone -/
def StepIn (P : Nat → Prop) (w : World) (p : Nat) (v : Value) : Stp → Prop
  | .put x => ∃ a b B cp, v = .func (.func 59) #[] #[.pointer (some ⟨a, 0, none⟩), .pointer (some ⟨b, 0, none⟩)] ∧ w.cell? ⟨a, 0, none⟩ = some (.pointer (some ⟨p, 0, none⟩)) ∧ ChLies w b 0 B cp x ∧ P a ∧ P b ∧ (0 < x.data.length → ∀ q, B = some q → P q.block)
  | .clr i => i < 512 ∧ ∃ a b, v = .func (.func 61) #[] #[.pointer (some ⟨a, 0, none⟩), .pointer (some ⟨b, 0, none⟩)] ∧ w.cell? ⟨a, 0, none⟩ = some (.pointer (some ⟨p, 0, none⟩)) ∧ w.cell? ⟨b, 0, none⟩ = some (.int .i64 (i : Nat)) ∧ P a ∧ P b
abbrev StepIs (w : World) (p g : Nat) (v : Value) (s : Stp) : Prop := StepIn (Off p g) w p v s
theorem _root_.Go.Proofs.Ytapgpibindhlfaa.ChLies.keep {F : Nat → Prop} {w w' : World} {b o : Nat} {B : Option Addr} {c : Nat} {x : Ch} (h : ChLies w b o B c x) (q : Keeps F w w') (hb : ¬ F b) (hB : 0 < x.data.length → ∀ a, B = some a → ¬ F a.block) : ChLies w' b o B c x :=
  ⟨q.cell h.c0 hb, q.cell h.c1 hb, h.h1, h.h2, q.bytes' h.bytes hB, h.i0⟩
theorem StepIn.keep {P F : Nat → Prop} {w w' : World} {p : Nat} {v : Value} {s : Stp} (h : StepIn P w p v s) (q : Keeps F w w') (hF : ∀ k, P k → ¬ F k) : StepIn P w' p v s := by
  cases s with
  | put x =>
    obtain ⟨a, b, B, cp, h1, h2, h3, h4, h5, h6⟩ := h
    exact ⟨a, b, B, cp, h1, q.cell h2 (hF _ h4), h3.keep q (hF _ h5) (fun h0 a e => hF _ (h6 h0 a e)), h4, h5, h6⟩
  | clr i =>
    obtain ⟨h0, a, b, h1, h2, h3, h4, h5⟩ := h
    exact ⟨h0, a, b, h1, q.cell h2 (hF _ h4), q.cell h3 (hF _ h5), h4, h5⟩
theorem StepIn.mono {P Q : Nat → Prop} {w : World} {p : Nat} {v : Value} {s : Stp} (h : StepIn P w p v s) (hq : ∀ k, k < w.heap.size → P k → Q k) : StepIn Q w p v s := by
  cases s with
  | put x =>
    obtain ⟨a, b, B, cp, h1, h2, h3, h4, h5, h6⟩ := h
    exact ⟨a, b, B, cp, h1, h2, h3, hq _ (cell_lt h2) h4, hq _ (cell_lt h3.c0) h5, fun h0 q e => hq _ (h3.bytes.lt h0 q e) (h6 h0 q e)⟩
  | clr i =>
    obtain ⟨h0, a, b, h1, h2, h3, h4, h5⟩ := h
    exact ⟨h0, a, b, h1, h2, h3, hq _ (cell_lt h2) h4, hq _ (cell_lt h3) h5⟩
theorem StepIs.keep {w w' : World} {p g : Nat} {v : Value} {s : Stp} (h : StepIs w p g v s) (q : Keeps (PG p g) w w') : StepIs w' p g v s := StepIn.keep h q fun _ => Off.not
theorem StepIs.below {w w' : World} {p g : Nat} {v : Value} {s : Stp} (h : StepIs w p g v s) (hb : Below w.heap.size w w') : StepIs w' p g v s := StepIs.keep h (.of_below _ hb)
def StepsAt (w : World) (p g : Nat) (A : Option Addr) (ss : List Stp) : Prop := ∀ i, (h : i < ss.length) → ∃ b o v, A = some ⟨b, o, none⟩ ∧ w.cell? ⟨b, o + i, none⟩ = some v ∧ StepIs w p g v ss[i] ∧ Off p g b
theorem StepsAt.keep {w w' : World} {p g : Nat} {A : Option Addr} {ss : List Stp} (h : StepsAt w p g A ss) (q : Keeps (PG p g) w w') : StepsAt w' p g A ss := fun i hi => by
  obtain ⟨b, o, v, h1, h2, h3, h4⟩ := h i hi
  exact ⟨b, o, v, h1, q.cell h2 h4.not, StepIs.keep h3 q, h4⟩
theorem StepsAt.below {w w' : World} {p g : Nat} {A : Option Addr} {ss : List Stp} (h : StepsAt w p g A ss) (hb : Below w.heap.size w w') : StepsAt w' p g A ss := h.keep (.of_below _ hb)
/-- rows of steps -/
def RowsS (w : World) (p g : Nat) (A : Option Addr) (rows : List (List Stp)) : Prop := ∀ i, (h : i < rows.length) → ∃ b o B c, A = some ⟨b, o, none⟩ ∧ w.cell? ⟨b, o + i, none⟩ = some (.slice B rows[i].length c) ∧ rows[i].length ≤ c ∧ c ≤ maxLen ∧ StepsAt w p g B rows[i] ∧ Off p g b
theorem RowsS.keep {w w' : World} {p g : Nat} {A : Option Addr} {rows : List (List Stp)} (h : RowsS w p g A rows) (q : Keeps (PG p g) w w') : RowsS w' p g A rows := fun i hi => by
  obtain ⟨b, o, B, c, h1, h2, h3, h4, h5, h6⟩ := h i hi
  exact ⟨b, o, B, c, h1, q.cell h2 h6.not, h3, h4, h5.keep q, h6⟩
theorem Fine.run {m : Dk} (h : Fine m) (s : Stp) : Fine (s.run m).1 := by
  cases s with
  | put x => exact h.write _ _
  | clr i =>
    rw [run_clr]
    split
    · exact h
    · exact h.write _ _
theorem Fine.runS {m : Dk} (h : Fine m) (ss : List Stp) : Fine (JourM.runS m ss).1 := by
  induction ss generalizing m with
  | nil => exact h
  | cons s ss ih =>
    rw [runS_cons]
    split
    · exact ih (Fine.run h s)
    · exact Fine.run h s
theorem Fine.runW {m : Dk} (h : Fine m) (cs : List Ch) : Fine (JourM.runW m cs).1 := by rw [← runS_puts]; exact Fine.runS h _
theorem runS_snoc_ok {m m' : Dk} {xs : List Stp} (h : JourM.runS m xs = (m', true)) (s : Stp) : JourM.runS m (xs ++ [s]) = s.run m' := by
  rw [runS_append, h, if_pos rfl, runS_cons]
  show (if (s.run m').2 = true then ((s.run m').1, true) else ((s.run m').1, false)) = _
  obtain ⟨a, b⟩ := s.run m'
  cases b <;> rfl
theorem runS_stop {m m' : Dk} {xs : List Stp} (h : JourM.runS m xs = (m', false)) (ys : List Stp) : JourM.runS m (xs ++ ys) = (m', false) := by
  rw [runS_append, h]; rfl

/-! the steps' own functions -/
theorem put_step (p g c a b : Nat) (B : Option Addr) (cp : Nat) (m : Dk) (x : Ch) (w : World) (h : DAt w p g c m) (hl : m.b.length ≤ 32768) (hf : Fine m) (ha : w.cell? ⟨a, 0, none⟩ = some (.pointer (some ⟨p, 0, none⟩))) (hx : ChLies w b 0 B cp x) (hB : 0 < x.data.length → ∀ q, B = some q → q.block ≠ p) :
    Calls Try.prog 59 #[.pointer (some ⟨a, 0, none⟩), .pointer (some ⟨b, 0, none⟩)] w fun e w' => e = .returned (.bool (m.write x.at_ x.data).2) ∧ DAt w' p g c (m.write x.at_ x.data).1 ∧ Keeps (PG p g) w w' := by
  have C := Lib.hid (write_any p g c m x.at_ B x.data cp w h hl hf.1 hf.2 hx.i0 hx.bytes hB (by have := hx.h1; have := hx.h2; omega))
  have e0 := hx.c0; have e1 := hx.c1
  clear h hx hB
  generalize (m.write x.at_ x.data).2 = r at *
  generalize (m.write x.at_ x.data).1 = m' at *
  generalize x.data.length = n at *
  generalize x.at_ = z at *
  go_enter Try.func59, Try.ntmps59
  go_wp2_with fail
  refine C.out.mono ?_
  rintro e w1 ⟨rfl, hd, hk⟩
  have HD := Lib.hid hd; have HK := Lib.hid hk
  clear hd hk
  go_wp2
  go_ret
  exact ⟨rfl, HD.out, HK.out⟩
set_option maxHeartbeats 1000000 in
theorem clr_step (p g c a b i : Nat) (m : Dk) (w : World) (h : DAt w p g c m) (hl : m.b.length ≤ 32768) (hf : Fine m) (hi : i < 512) (ha : w.cell? ⟨a, 0, none⟩ = some (.pointer (some ⟨p, 0, none⟩))) (hb : w.cell? ⟨b, 0, none⟩ = some (.int .i64 (i : Nat))) :
    Calls Try.prog 61 #[.pointer (some ⟨a, 0, none⟩), .pointer (some ⟨b, 0, none⟩)] w fun e w' => e = .returned (.bool ((Stp.clr i).run m).2) ∧ DAt w' p g c ((Stp.clr i).run m).1 ∧ Keeps (PG p g) w w' := by
  have C := Lib.hid (read_any p g c m (i : Int) w h hl (by omega))
  have CW := Lib.hid (fun W hd => write_any p g c m (i : Int) none [] 0 W hd hl hf.1 hf.2 (by omega) (BytesAt.nil _ _) (fun h0 => by simp at h0) (Nat.zero_le _))
  have HD := Lib.hid h
  rw [run_clr]
  have CS := Lib.hid (fun W X d h => Sector.clear_any X (m.read (i : Int)) d W h)
  clear h
  obtain ⟨L, hL⟩ : ∃ L, L = m.read (i : Int) := ⟨_, rfl⟩
  rw [← hL] at C CS ⊢
  clear hL
  obtain ⟨cl, hcl⟩ : ∃ q, q = SecM.clear_ L := ⟨_, rfl⟩
  rw [← hcl] at CS ⊢
  clear hcl
  obtain ⟨R, hR⟩ : ∃ R, R = (if cl = true then (m, true) else m.write (i : Int) []) := ⟨_, rfl⟩
  rw [← hR]
  have HR1 : Hid (cl = true → R = (m, true)) := Lib.hid fun e => by rw [hR, e]; rfl
  have HR0 : Hid (cl = false → R = m.write (i : Int) []) := Lib.hid fun e => by rw [hR, e]; rfl
  clear hR
  obtain ⟨Rm, Rb⟩ := R
  simp only
  go_enter Try.func61, Try.ntmps61
  go_wp2_with fail
  refine C.out.mono ?_
  rintro e w1 ⟨v, rfl, ho, hb1⟩
  obtain ⟨X, d, rfl, -, -, hX⟩ := ho.bytes
  have HX := Lib.hid hX; have HB1 := Lib.hid hb1
  have e0 := (hb1.cell (p := ⟨a, 0, none⟩) (cell_lt ha)).trans ha
  have e1 := (hb1.cell (p := ⟨b, 0, none⟩) (cell_lt hb)).trans hb
  have C2 := Lib.hid (CS.out w1 X d hX)
  clear ho hX hb1 C CS
  generalize L.length = n at *
  go_wp2_with fail
  refine C2.out.mono ?_
  rintro e w2 ⟨rfl, hb2⟩
  have HB2 := Lib.hid (bstep HB1.out hb2)
  have e2 := (hb2.cell (p := ⟨a, 0, none⟩) (cell_lt e0)).trans e0
  have e3 := (hb2.cell (p := ⟨b, 0, none⟩) (cell_lt e1)).trans e1
  have HD2 := Lib.hid (HD.out.below HB2.out)
  clear hb2 e0 e1 ha hb C2 HX HB1
  cases cl
  · have C3 := Lib.hid (CW.out w2 HD2.out)
    go_wp2_with fail
    refine C3.out.mono ?_
    rintro e w3 ⟨rfl, hd, hk⟩
    have HD3 := Lib.hid hd; have HK := Lib.hid hk
    clear hd hk CW C3
    have hr := HR0.out (by first | rfl | trivial)
    rw [← hr] at HD3 ⊢
    simp only at HD3 ⊢
    clear hr HR0 HR1
    go_wp2
    go_ret
    exact ⟨rfl, HD3.out, (Keeps.of_below _ HB2.out).trans HK.out⟩
  · have hr := HR1.out (by first | rfl | trivial)
    injection hr with hr1 hr2
    subst hr1; subst hr2
    clear HR0 HR1
    go_wp2
    go_ret
    exact ⟨rfl, HD2.out, .of_below _ HB2.out⟩
/-! done -/
theorem take_flat {α : Type} (rows : List (List α)) (k j : Nat) (h : k < rows.length) : (rows.take k).flatten ++ (rows[k].take j) ++ (rows[k].drop j) = (rows.take (k + 1)).flatten := by
  rw [List.append_assoc, List.take_append_drop, List.take_succ_eq_append_getElem h, List.flatten_append]
  simp
theorem flat_split {α : Type} (rows : List (List α)) (k : Nat) : (rows.take k).flatten ++ (rows.drop k).flatten = rows.flatten := by
  rw [← List.flatten_append, List.take_append_drop]
/-- where it stands: all steps ahead are done -/
structure Dn (w : World) (p g c : Nat) (m : Dk) (xs : List Stp) (m' : Dk) (wr : World) : Prop where
  run : JourM.runS m xs = (m', true)
  dk : DAt wr p g c m'
  keeps : Keeps (PG p g) w wr
  fine : Fine m'
  len : m'.b.length = m.b.length
set_option maxHeartbeats 4000000 in
theorem done_any (p g c : Nat) (m : Dk) (R : Option Addr) (rows : List (List Stp)) (cr : Nat) (w : World) (h : DAt w p g c m) (hl : m.b.length ≤ 32768) (hf : Fine m) (hR : RowsS w p g R rows) (hn : rows.length ≤ 1000) (hrl : ∀ i, (hi : i < rows.length) → rows[i].length ≤ 1000000) :
    Calls Try.prog 32 #[.slice R rows.length cr] w fun e w' => e = .returned (.int .i64 (if (JourM.runS m rows.flatten).2 = true then 0 else 15)) ∧ DAt w' p g c (JourM.runS m rows.flatten).1 ∧ Keeps (PG p g) w w' := by
  have HR := Lib.hid hR
  have H0 : Hid (Dn w p g c m [] m w) := Lib.hid ⟨rfl, h, .refl _ _, hf, rfl⟩
  have HRL := Lib.hid hrl
  obtain ⟨n, hnn⟩ : ∃ n, n = rows.length := ⟨_, rfl⟩
  have HN := Lib.hid hnn
  rw [← hnn] at hn ⊢
  have HEND : Hid (∀ xs ys m' wr, xs ++ ys = rows.flatten → JourM.runS m xs = (m', false) → DAt wr p g c m' → Keeps (PG p g) w wr → Ending.returned (Value.int .i64 15) = .returned (.int .i64 (if (JourM.runS m rows.flatten).2 = true then 0 else 15)) ∧ DAt wr p g c (JourM.runS m rows.flatten).1 ∧ Keeps (PG p g) w wr) := Lib.hid fun xs ys m' wr e h1 h2 h3 => by
    rw [← e, runS_stop h1 ys]
    exact ⟨rfl, h2, h3⟩
  have HOK : Hid (∀ m' wr, Dn w p g c m rows.flatten m' wr → Ending.returned (Value.int .i64 0) = .returned (.int .i64 (if (JourM.runS m rows.flatten).2 = true then 0 else 15)) ∧ DAt wr p g c (JourM.runS m rows.flatten).1 ∧ Keeps (PG p g) w wr) := Lib.hid fun m' wr hd => by
    rw [hd.run]
    exact ⟨rfl, hd.dk, hd.keeps⟩
  obtain ⟨E, hE⟩ : ∃ E : Int, E = (if (JourM.runS m rows.flatten).2 = true then 0 else 15) := ⟨_, rfl⟩
  rw [← hE] at HEND HOK ⊢
  clear h hf hR hrl hnn hE
  go_enter Try.func32, Try.ntmps32
  go_wp2
  go_step3
  go_wp2
  go_step3
  go_wp2
  go_loopg [3, 10] n (fun gh ev s wx => ∃ (k : Nat) (m' : Dk), k + gh = n ∧ ev = .int .i64 0 ∧ s = .int .i64 k ∧ Dn w p g c m (rows.take k).flatten m' wx)
  case atStart => exact ⟨0, m, by omega, rfl, rfl, H0.out⟩
  case round =>
    obtain ⟨k, m', hkg, rfl, rfl, hD⟩ := hrel
    rename World => w4
    have HD := Lib.hid hD
    clear hD H0
    cases gk with
    | zero =>
      obtain rfl : k = n := by omega
      have hk : ¬ ((k : Int) < (k : Int)) := by omega
      have hall := HD.out
      rw [HN.out, List.take_length] at hall
      have HALL := Lib.hid hall
      clear hall hkg
      go_wp2
      try rw [Exit.noGoto_ret]
      go_ret
      exact HOK.out m' w4 HALL.out
    | succ g2 =>
      have hk : k < n := by omega
      have hk2 : k < rows.length := by rw [← HN.out]; exact hk
      obtain ⟨b, o, B, cb, rfl, e0, r1, r2, hst, -⟩ := (HR.out.keep HD.out.keeps) k hk2
      have HST := Lib.hid hst
      have hrk := HRL.out k hk2
      have HG := Lib.hid hkg
      have HTF : Hid (∀ j, (rows.take k).flatten ++ (rows[k].take j) ++ ((rows[k].drop j) ++ (rows.drop (k + 1)).flatten) = rows.flatten) := Lib.hid fun j => by
        rw [← List.append_assoc, take_flat rows k j hk2, flat_split]
      have HTK : Hid ((rows.take k).flatten ++ rows[k] = (rows.take (k + 1)).flatten) := Lib.hid (by have := take_flat rows k rows[k].length hk2; rwa [List.take_length, List.drop_length, List.append_nil] at this)
      clear hst hkg
      generalize rows[k] = row at *
      obtain ⟨rn, hrn⟩ : ∃ rn, rn = row.length := ⟨_, rfl⟩
      have HRN := Lib.hid hrn
      rw [← hrn] at e0 r1 hrk
      have HD0 : Hid (Dn w p g c m ((rows.take k).flatten ++ row.take 0) m' w4) := Lib.hid (by rw [List.take_zero, List.append_nil]; exact HD.out)
      have HKW : Hid (Keeps (PG p g) w w4) := Lib.hid HD.out.keeps
      clear hrn HD
      go_wp2
      go_loopg [3, 16] rn (fun gh ev s wx => ∃ (j : Nat) (m2 : Dk), j + gh = rn ∧ ev = .int .i64 0 ∧ s = .int .i64 j ∧ Dn w p g c m ((rows.take k).flatten ++ row.take j) m2 wx ∧ Keeps (PG p g) w4 wx)
      case atStart => exact ⟨0, m', by omega, rfl, rfl, HD0.out, .refl _ _⟩
      case round =>
        obtain ⟨j, m2, hjg, rfl, rfl, hD2, hk4⟩ := hrel
        rename World => w5
        have HD2 := Lib.hid hD2; have HK4 := Lib.hid hk4
        clear hD2 hk4 HD0
        cases gk with
        | zero =>
          obtain rfl : j = rn := by omega
          have hall := HD2.out
          rw [HRN.out, List.take_length, HTK.out] at hall
          have HALL := Lib.hid hall
          clear hall hjg
          go_wp2
          go_roundg g2
          case measure => omega
          case rel =>
            have hgg := HG.out
            exact ⟨k + 1, m2, by omega, rfl, by go_num, HALL.out⟩
        | succ g3 =>
          have hj : j < rn := by omega
          have hj2 : j < row.length := by rw [← HRN.out]; exact hj
          obtain ⟨b5, o5, v, rfl, e5, hsv, -⟩ := (HST.out.keep HK4.out) j hj2
          have HJG := Lib.hid hjg
          have hsn : row.take (j + 1) = row.take j ++ [row[j]] := List.take_succ_eq_append_getElem hj2
          have HSN : Hid (JourM.runS m ((rows.take k).flatten ++ row.take (j + 1)) = row[j].run m2) := Lib.hid (by
            rw [hsn, ← List.append_assoc]; exact runS_snoc_ok HD2.out.run _)
          have HFI := Lib.hid (Fine.run HD2.out.fine row[j])
          have HLE := Lib.hid (run_len m2 row[j])
          have hl2 : m2.b.length ≤ 32768 := by rw [HD2.out.len]; exact hl
          obtain ⟨s, hs⟩ : ∃ s, s = row[j] := ⟨_, rfl⟩
          rw [← hs] at hsv HSN HFI HLE
          have HCALL : Hid (∀ nf a1 a2, v = .func (.func nf) #[] #[a1, a2] → Calls Try.prog nf #[a1, a2] w5 fun e w' => e = .returned (.bool (s.run m2).2) ∧ DAt w' p g c (s.run m2).1 ∧ Keeps (PG p g) w5 w') := Lib.hid fun nf a1 a2 e => by
            cases s with
            | put x =>
              obtain ⟨a, b, B, cp, h1, h2, h3, h4, h5, h6⟩ := hsv
              rw [h1] at e
              injection e with e1 _ e2
              injection e1 with e1
              subst e1
              simp only [Array.mk.injEq, List.cons.injEq, and_true] at e2
              obtain ⟨rfl, rfl⟩ := e2
              exact put_step p g c a b B cp m2 x w5 HD2.out.dk hl2 HD2.out.fine h2 h3 (fun h0 q e => (h6 h0 q e).1)
            | clr i =>
              obtain ⟨h0, a, b, h1, h2, h3, h4, h5⟩ := hsv
              rw [h1] at e
              injection e with e1 _ e2
              injection e1 with e1
              subst e1
              simp only [Array.mk.injEq, List.cons.injEq, and_true] at e2
              obtain ⟨rfl, rfl⟩ := e2
              exact clr_step p g c a b i m2 w5 HD2.out.dk hl2 HD2.out.fine h0 h2 h3
          have hform : (∃ a1 a2, v = .func (.func 59) #[] #[a1, a2]) ∨ (∃ a1 a2, v = .func (.func 61) #[] #[a1, a2]) := by
            cases s with
            | put x => obtain ⟨a, b, _, _, h1, _⟩ := hsv; exact .inl ⟨_, _, h1⟩
            | clr i => obtain ⟨_, a, b, h1, _⟩ := hsv; exact .inr ⟨_, _, h1⟩
          generalize hst : s.run m2 = st at *
          obtain ⟨m3, r⟩ := st
          simp only at HCALL HFI HLE
          clear hs hsv hst hl2 hsn hjg HR
          have HSN3 := Lib.hid HSN.out
          have HLEN3 : Hid (m3.b.length = m.b.length) := Lib.hid (HLE.out.trans HD2.out.len)
          rcases hform with ⟨a1, a2, rfl⟩ | ⟨a1, a2, rfl⟩
          all_goals
            have C := Lib.hid (HCALL.out _ a1 a2 rfl)
            clear HCALL
            go_wp2_with fail
            refine C.out.mono ?_
            rintro e w6 ⟨rfl, hd6, hk6⟩
            have HD6 := Lib.hid hd6
            have HK6 : Hid (Keeps (PG p g) w w6) := Lib.hid (HD2.out.keeps.trans hk6)
            have HK46 := Lib.hid (HK4.out.trans hk6)
            clear hd6 hk6 C
            cases r
            · have hend := HEND.out _ _ m3 w6 (HTF.out (j + 1)) HSN3.out HD6.out HK6.out
              have HE := Lib.hid hend
              clear hend HEND
              go_wp2
              try rw [Exit.noGoto_ret]
              go_ret
              exact HE.out
            · have hdn : Dn w p g c m ((rows.take k).flatten ++ row.take (j + 1)) m3 w6 := ⟨HSN3.out, HD6.out, HK6.out, HFI.out, HLEN3.out⟩
              have HDN := Lib.hid hdn
              clear hdn HEND
              go_wp2
              go_roundg g3
              case measure => omega
              case rel =>
                have hgg := HJG.out
                exact ⟨j + 1, m3, by omega, rfl, by go_num, HDN.out, HK46.out⟩
end Go.Proofs.Ytapgpibindhlfaa.Jour

/- package journal: the steps that write changes, those that make the journal clean; its places and sectors -/
set_option maxRecDepth 100000
namespace Go.Proofs.Ytapgpibindhlfaa.Jour
open Go.RowKit DiskM EntM JourM Disk
open Law16 (Fine)

theorem step_info : (Try.prog.info? 91).map (fun i => (i.zero, i.size, i.bytes)) = some (some .nilFunc, 1, 8) := by kernel_rfl
theorem step_info' : ∃ i, Try.prog.info? 91 = some i ∧ i.zero = some .nilFunc ∧ i.size = 1 ∧ i.bytes = 8 := by
  have h := step_info
  match hh : Try.prog.info? 91, h with
  | some i, h => simp at h; exact ⟨i, rfl, h.1, h.2.1, h.2.2⟩
/-- steps that the call has gathered; what they stand on is not the list's own block -/
def OwnS (w : World) (base p g : Nat) (v : Value) (ss : List Stp) : Prop := ∃ xs : List Value, w.ownsRow base 91 1 v ss.length xs ∧ ∀ i, (h : i < ss.length) → ∃ u, xs[i]? = some u ∧ StepIn (fun k => Off p g k ∧ v.ownBlock ≠ some k) w p u ss[i]
theorem OwnS.nil (w : World) (base p g : Nat) : OwnS w base p g (.slice none 0 0) [] := ⟨[], ownV_nil _ _ _, fun i hi => absurd hi (by simp)⟩
theorem OwnS.below {w w' : World} {base p g : Nat} {v : Value} {ss : List Stp} (h : OwnS w base p g v ss) (hb : Below w.heap.size w w') : OwnS w' base p g v ss := by
  obtain ⟨xs, h1, h2⟩ := h
  refine ⟨xs, ownV_below h1 hb, fun i hi => ?_⟩
  obtain ⟨u, k1, k2⟩ := h2 i hi
  exact ⟨u, k1, k2.keep (F := fun _ => False) (.of_below _ hb) fun _ _ => id⟩
theorem OwnS.lt {w : World} {base p g : Nat} {v : Value} {ss : List Stp} (h : OwnS w base p g v ss) : ∀ k, v.ownBlock = some k → base ≤ k ∧ k < w.heap.size := by
  obtain ⟨xs, h1, _⟩ := h
  exact World.ownsRow.lt h1
/-- a call that hands back steps -/
def RetSteps (w : World) (p g : Nat) (ss : List Stp) (e : Ending) (w' : World) : Prop :=
  ∃ B c, e = .returned (.slice B ss.length c) ∧ ss.length ≤ c ∧ c ≤ maxLen ∧ StepsAt w' p g B ss ∧ Below w.heap.size w w'
theorem OwnS.steps {w : World} {base p g : Nat} {v : Value} {ss : List Stp} (h : OwnS w base p g v ss) (hp : p < base) (hg : g < base) : ∃ B c, v = .slice B ss.length c ∧ ss.length ≤ c ∧ c ≤ maxLen ∧ StepsAt w p g B ss := by
  obtain ⟨xs, h1, h2⟩ := h
  obtain ⟨B, c, hv, k1, k2, k3, k4, k5⟩ := ownV_cells h1
  refine ⟨B, c, hv, k1, k2, fun i hi => ?_⟩
  obtain ⟨u, q1, q2⟩ := h2 i hi
  obtain ⟨b, o, hB, hc⟩ := k4 i (by rw [k3]; exact hi)
  have hx : xs[i]'(by rw [k3]; exact hi) = u := by
    rw [List.getElem?_eq_getElem (by rw [k3]; exact hi)] at q1
    injection q1
  rw [hx] at hc
  have hb := k5 _ hB
  simp only at hb
  exact ⟨b, o, u, hB, hc, q2.mono fun _ _ h => h.1, by omega, by omega⟩
theorem wpList_append_step {ops : Array Oper} {rest : List Oper} {o : Oper} {a : Act} {w : World} {Q : Exit → Act → World → Prop} (hgd : o.guard = none) (s x : Operand)
    (ho : o.op = .call { callee := .builtin .append, args := #[s, x], argTypes := #[68, 68] })
    (base p g : Nat) (v : Value) (ss : List Stp) (hs : a.eval s = v) (hown : OwnS w base p g v ss) (b : Nat) (st : Stp) (f : Fn) (y z : Array Value) (hx : a.eval x = .slice (some ⟨b, 0, none⟩) 1 1) (hc : w.cell? ⟨b, 0, none⟩ = some (.func f y z))
    (hu : StepIn (fun k => Off p g k ∧ v.ownBlock ≠ some k) w p (.func f y z) st) (hl : ss.length < 1099511627775) (hbase : base ≤ w.heap.size)
    (h : ∀ v' w', OwnS w' base p g v' (ss ++ [st]) → Below base w w' → wpList Try.prog ops Q rest (a.put o.dst v') w') : wpList Try.prog ops Q (o :: rest) a w := by
  obtain ⟨i0, hi, hz, hsz, hby⟩ := step_info'
  obtain ⟨xs, h1, h2⟩ := hown
  refine wpList_append_cells Try.underlying68 hi hz hsz hby rfl hgd s x ho base v ss.length xs hs h1 (some ⟨b, 0, none⟩) 1 1 [.func f y z] hx rfl (fun i hi => ?_) (fun u hu => by simp at hu; subst hu; rfl) (by omega) (by omega) hbase ?_
  · obtain rfl : i = 0 := by simp at hi; omega
    exact ⟨b, 0, rfl, hc⟩
  · intro v' w' ha
    have hb : Below base w w' := ha.below h1 (Below.refl _ _) (Nat.le_refl _) hbase
    have hk : Keeps (fun k => v.ownBlock = some k) w w' := ⟨ha.grow.os, ha.grow.tape, ha.grow.output, ha.grow.size, fun k hk hn => ha.grow.block k hk (fun e => hn e.symm)⟩
    have step : ∀ u s, StepIn (fun k => Off p g k ∧ v.ownBlock ≠ some k) w p u s → StepIn (fun k => Off p g k ∧ v'.ownBlock ≠ some k) w' p u s := fun u s hs =>
      StepIn.mono (P := fun k => Off p g k ∧ v.ownBlock ≠ some k ∧ k < w.heap.size) ((hs.mono fun k hk h => ⟨h.1, h.2, hk⟩).keep hk fun k h => h.2.1) fun k _ h => ⟨h.1, by
        rcases ha.place with e | e
        · rw [e]; exact h.2.1
        · rw [e]; intro e; injection e with e; have := h.2.2; omega⟩
    have hxl : xs.length = ss.length := by have := h1.1; omega
    refine h v' w' ⟨xs ++ [.func f y z], by rw [List.length_append, List.length_singleton]; exact ha.own, fun i hi => ?_⟩ hb
    by_cases h : i < ss.length
    · obtain ⟨y, k1, k2⟩ := h2 i h
      exact ⟨y, by rw [List.getElem?_append_left (by omega)]; exact k1, by rw [List.getElem_append_left h]; exact step _ _ k2⟩
    · have e : i = ss.length := by simp at hi; omega
      subst e
      exact ⟨.func f y z, by rw [List.getElem?_append_right (by omega), hxl]; simp, by simp; exact step _ _ hu⟩

/-! the steps that write -/
set_option maxHeartbeats 2000000 in
theorem writes_any (p g : Nat) (A : Option Addr) (l : List Ch) (c : Nat) (w : World) (h : ChsP (Off p g) w A l) (hp : p < w.heap.size) (hg : g < w.heap.size) (hl : l.length ≤ 1000000) :
    Calls Try.prog 33 #[.pointer (some ⟨p, 0, none⟩), .slice A l.length c] w (RetSteps w p g (l.map .put)) := by
  have hb0 := balloc w (.cells #[.pointer (some ⟨p, 0, none⟩)] 28)
  have H := Lib.hid (h.below hb0)
  have H0 := Lib.hid h
  have HB0 := Lib.hid hb0
  have HC0 : Hid ((w.alloc (.cells #[.pointer (some ⟨p, 0, none⟩)] 28)).cell? ⟨w.heap.size, 0, none⟩ = some (.pointer (some ⟨p, 0, none⟩))) := Lib.hid (by simp)
  obtain ⟨n, hnn⟩ : ∃ n, n = l.length := ⟨_, rfl⟩
  have HN := Lib.hid hnn
  rw [← hnn] at hl ⊢
  clear h hnn hb0
  go_enter Try.func33, Try.ntmps33
  go_wp2
  obtain ⟨q, hq⟩ : ∃ q, q = w.heap.size := ⟨_, rfl⟩
  rw [← hq] at HC0 ⊢
  have hz1 : (w.alloc (.cells #[.pointer (some ⟨p, 0, none⟩)] 28)).heap.size = q + 1 := by rw [hq]; simp
  generalize w.alloc (.cells #[.pointer (some ⟨p, 0, none⟩)] 28) = w1 at *
  have HQ := Lib.hid hq
  clear hq
  go_loopw [5, 10] (fun v i wr => ∃ k : Nat, k ≤ n ∧ i = .int .i64 k ∧ OwnS wr w1.heap.size p g v ((l.take k).map .put) ∧ Below w1.heap.size w1 wr)
    (fun _ i _ => n - (intOf i).toNat)
  case atStart => exact ⟨0, Nat.zero_le _, rfl, OwnS.nil _ _ _ _, Below.refl _ _⟩
  case round =>
    obtain ⟨k, hk, rfl, hown, hb⟩ := hrel
    rename World => wr
    have HO := Lib.hid hown; have HB := Lib.hid hb
    clear hown hb
    by_cases hlt : k < n
    · have hk2 : k < l.length := by rw [← HN.out]; exact hlt
      obtain ⟨b, o, rfl, B, d, hx0, hxP⟩ := H.out k hk2
      have hBlt : 0 < l[k].data.length → ∀ a, B = some a → a.block < w1.heap.size := fun h0 a e => hx0.bytes.lt h0 a e
      have hx := hx0.below HB.out
      have e0 := hx.c0; have e1 := hx.c1
      have HX := Lib.hid hx; have HXP := Lib.hid hxP; have HBL := Lib.hid hBlt
      have hsn : (l.take (k + 1)).map Stp.put = (l.take k).map Stp.put ++ [Stp.put l[k]] := by rw [List.take_succ_eq_append_getElem hk2, List.map_append]; rfl
      have HSN := Lib.hid hsn
      have hll : ((l.take k).map Stp.put).length ≤ k := by rw [List.length_map, List.length_take]; omega
      have HLL := Lib.hid hll
      clear hx hx0 hxP hBlt hsn hll
      generalize l[k] = x at *
      obtain ⟨z, dt⟩ := x
      simp only at e0 e1 HXP HBL
      obtain ⟨dn, hdn⟩ : ∃ dn, dn = dt.length := ⟨_, rfl⟩
      have HDN := Lib.hid hdn
      rw [← hdn] at e1
      clear hdn
      have hW2 := balloc wr (.cells #[.int .i64 z, .slice B dn d] 50)
      have hW3 := balloc (wr.alloc (.cells #[.int .i64 z, .slice B dn d] 50)) (.cells #[.func (.func 59) #[] #[.pointer (some ⟨q, 0, none⟩), .pointer (some ⟨wr.heap.size, 0, none⟩)]] 91)
      have hW := bstep hW2 hW3
      have hsz2 : (wr.alloc (.cells #[.int .i64 z, .slice B dn d] 50)).heap.size = wr.heap.size + 1 := by simp
      have hox := HO.out.lt
      have HO3 := Lib.hid (HO.out.below hW)
      have HCF : Hid (((wr.alloc (.cells #[.int .i64 z, .slice B dn d] 50)).alloc (.cells #[.func (.func 59) #[] #[.pointer (some ⟨q, 0, none⟩), .pointer (some ⟨wr.heap.size, 0, none⟩)]] 91)).cell? ⟨wr.heap.size + 1, 0, none⟩ = some (.func (.func 59) #[] #[.pointer (some ⟨q, 0, none⟩), .pointer (some ⟨wr.heap.size, 0, none⟩)])) := Lib.hid (by rw [← hsz2]; simp)
      have hch : ChLies (wr.alloc (.cells #[.int .i64 z, .slice B dn d] 50)) wr.heap.size 0 B d ⟨z, dt⟩ :=
        ⟨by simp, by simp [HDN.out], HX.out.h1, HX.out.h2, HX.out.bytes.below hW2, HX.out.i0⟩
      have hws := HB.out.size
      have HST : Hid (StepIn (fun k' => Off p g k' ∧ u5.ownBlock ≠ some k') ((wr.alloc (.cells #[.int .i64 z, .slice B dn d] 50)).alloc (.cells #[.func (.func 59) #[] #[.pointer (some ⟨q, 0, none⟩), .pointer (some ⟨wr.heap.size, 0, none⟩)]] 91)) p (.func (.func 59) #[] #[.pointer (some ⟨q, 0, none⟩), .pointer (some ⟨wr.heap.size, 0, none⟩)]) (.put ⟨z, dt⟩)) := Lib.hid (by
        have hq := HQ.out
        refine ⟨q, wr.heap.size, B, d, rfl, ?_, hch.below hW3, ⟨⟨by omega, by omega⟩, fun e => ?_⟩, ⟨⟨by omega, by omega⟩, fun e => ?_⟩, fun h0 a e => ⟨HXP.out h0 a e, fun e2 => ?_⟩⟩
        · exact ((HB.out.trans (hW.mono hws)).cell (p := ⟨q, 0, none⟩) (by show q < w1.heap.size; omega)).trans HC0.out
        · have := (hox _ e).1; omega
        · have := (hox _ e).2; omega
        · have := (hox _ e2).1; have := HBL.out h0 a e; omega)
      have HBW := Lib.hid (HB.out.trans (hW.mono hws))
      have HLN : Hid (((l.take k).map Stp.put).length < 1099511627775) := Lib.hid (by have := HLL.out; omega)
      clear hW hW2 hW3 hsz2 hox hch hws
      go_wp2_with (at_builtin; refine wpList_append_step rfl (.tmp 14) (.tmp 16) rfl w1.heap.size p g u5 _ rfl HO3.out (wr.heap.size + 1) (.put ⟨z, dt⟩) _ _ _ rfl HCF.out HST.out HLN.out HBW.out.size ?_; rw [← HSN.out]; intro v5 w5 own5 hb5; have HO5 := Lib.hid own5; have HB5 := Lib.hid (HBW.out.trans hb5); clear own5 hb5)
      go_roundw
      case rel => exact ⟨k + 1, by omega, by go_num, HO5.out, HB5.out⟩
      case measure => simp [intOf] <;> omega
    · obtain rfl : k = n := by omega
      go_wp2
      go_ret
      obtain ⟨B, cb, rfl, r1, r2, r3⟩ := HO.out.steps (by have := HQ.out; omega) (by have := HQ.out; omega)
      rw [HN.out, List.take_length] at r1 r3 ⊢
      exact ⟨B, cb, rfl, r1, r2, r3, bstep HB0.out HB.out⟩
/-! the journal's places -/
def placesZ (n : Nat) : List Int := (places n).map fun (i : Nat) => (i : Int)
theorem placesZ_len (n : Nat) : (placesZ n).length = nj n := by unfold placesZ places; simp
theorem placesZ_get {n k : Nat} (h : k < nj n) : (placesZ n)[k]'(by rw [placesZ_len]; exact h) = ((1 + k : Nat) : Int) := by
  unfold placesZ places; simp
theorem placesZ_take {n k : Nat} (h : k < nj n) : (placesZ n).take (k + 1) = (placesZ n).take k ++ [((1 + k : Nat) : Int)] := by
  rw [List.take_succ_eq_append_getElem (by rw [placesZ_len]; exact h), placesZ_get h]
theorem places_any (p g c n : Nat) (m : Dk) (w : World) (h : DAt w p g c m) (hb : m.b.length = 64 * n) (hn : n ≤ 512) :
    Calls Try.prog 60 #[.pointer (some ⟨p, 0, none⟩)] w (RetInts w (placesZ n)) := by
  have C := Lib.hid (fun W (hd : DAt W p g c m) => size_any p g c m W hd (by omega))
  rw [show m.b.length / 64 = n from by omega] at C
  have HD := Lib.hid h
  have hmin : min 34 (n : Int) = ((min 34 n : Nat) : Int) := by omega
  have hnj : nj n = min 34 n - 1 := rfl
  have HL := Lib.hid (placesZ_len n)
  have HT : Hid (∀ k, k < nj n → (placesZ n).take (k + 1) = (placesZ n).take k ++ [((1 + k : Nat) : Int)]) := Lib.hid fun k hk => placesZ_take hk
  have H0 : Hid (OwnI w w.heap.size (.slice none 0 0) ((placesZ n).take 0)) := Lib.hid (OwnI.nil _ _)
  have HTL : Hid (∀ k, ((placesZ n).take k).length ≤ k) := Lib.hid fun k => by rw [List.length_take]; omega
  generalize placesZ n = Z at *
  generalize nj n = J at *
  generalize min 34 n = M at *
  clear h hb
  go_enter Try.func60, Try.ntmps60
  go_wp2
  go_loopw [3, 4] (fun v i wr => ∃ k a : Nat, (k ≤ J ∨ k = 0) ∧ a = 1 + k ∧ i = .int .i64 (a : Nat) ∧ OwnI wr w.heap.size v (Z.take k) ∧ Below w.heap.size w wr)
    (fun _ i _ => M - (intOf i).toNat)
  case atStart => exact ⟨0, 1, .inr rfl, rfl, rfl, H0.out, Below.refl _ _⟩
  case round =>
    obtain ⟨k, a, hk, ha, rfl, hown, hb⟩ := hrel
    rename World => wr
    have HO := Lib.hid hown; have HB := Lib.hid hb
    have C2 := Lib.hid (C.out wr (HD.out.below hb))
    clear hown hb
    by_cases hlt : a < M
    · go_wp2_with fail
      refine C2.out.mono ?_
      rintro e w1 ⟨rfl, rfl⟩
      have HBA := Lib.hid (HB.out.trans ((balloc wr (.cells #[.int .i64 (a : Nat)] 3)).mono HB.out.size))
      have hz : w.heap.size ≤ (wr.alloc (.cells #[.int .i64 (a : Nat)] 3)).heap.size := HBA.out.size
      have HZ := Lib.hid hz
      have ht1 := HT.out k (by omega)
      rw [← ha] at ht1
      have HT1 := Lib.hid ht1
      have HAK := Lib.hid ha
      clear ha ht1
      have HLT := Lib.hid (HTL.out k)
      go_wp2_with (at_builtin; refine wpList_append_ints rfl _ _ rfl w.heap.size _ (Z.take k) rfl (HO.out.below (balloc _ _)) (some ⟨wr.heap.size, 0, none⟩) 1 1 [(a : Nat)] rfl rfl (CellsAt.lit _ _ _) (by have := HLT.out; omega) HZ.out ?_; intro v' w1 happ; have hb1 : Below w.heap.size w w1 := happ.below (HO.out.below (balloc _ _)) HBA.out (Nat.le_refl _) HZ.out; have HA := Lib.hid happ.own; have HB1 := Lib.hid hb1; clear happ hb1)
      go_roundw
      case rel => have := HAK.out
                  exact ⟨k + 1, a + 1, .inl (by omega), by omega, by go_num, by rw [HT1.out]; exact HA.out, HB1.out⟩
      case measure => have := HAK.out; simp [intOf] <;> omega
    · go_wp2_with fail
      refine C2.out.mono ?_
      rintro e w1 ⟨rfl, rfl⟩
      go_wp2
      go_ret
      have hall : Z.take k = Z := List.take_of_length_le (by rw [HL.out]; omega)
      have ho := HO.out
      rw [hall] at ho
      obtain ⟨A, ca, rfl, r1, r2, r3, r4⟩ := ho.ints
      exact ⟨A, ca, rfl, r1, r2, r3, HB.out, r4⟩
theorem places_len (n : Nat) : (places n).length = nj n := by unfold places; simp
theorem places_take {n k : Nat} (h : k < nj n) : (places n).take (k + 1) = (places n).take k ++ [1 + k] := by
  rw [List.take_succ_eq_append_getElem (by rw [places_len]; exact h)]
  congr 2
  unfold places; simp
theorem jourN_len (n : Nat) (b : List UInt8) : (jourN n b).length = nj n := by unfold jourN; simp
theorem jourN_take {n k : Nat} (b : List UInt8) (h : k < nj n) : (jourN n b).take (k + 1) = (jourN n b).take k ++ [sect b (1 + k)] := by
  rw [List.take_succ_eq_append_getElem (by rw [jourN_len]; exact h)]
  congr 2
  unfold jourN; simp
theorem nj_le (n : Nat) : nj n ≤ 33 := by unfold nj; omega
set_option maxHeartbeats 2000000 in
theorem clears_any (p g c n : Nat) (m : Dk) (w : World) (h : DAt w p g c m) (hb : m.b.length = 64 * n) (hn : n ≤ 512) :
    Calls Try.prog 34 #[.pointer (some ⟨p, 0, none⟩)] w (RetSteps w p g ((places n).map .clr)) := by
  have hb0 := balloc w (.cells #[.pointer (some ⟨p, 0, none⟩)] 28)
  have C := Lib.hid (places_any p g c n m _ (h.below hb0) hb hn)
  have hp := h.lt.1; have hg := h.lt.2
  have HB0 := Lib.hid hb0
  have HC0 : Hid ((w.alloc (.cells #[.pointer (some ⟨p, 0, none⟩)] 28)).cell? ⟨w.heap.size, 0, none⟩ = some (.pointer (some ⟨p, 0, none⟩))) := Lib.hid (by simp)
  have HZL := Lib.hid (placesZ_len n)
  have HPL := Lib.hid (places_len n)
  have HPG : Hid (∀ k, (hk : k < (placesZ n).length) → (placesZ n)[k] = ((1 + k : Nat) : Int)) := Lib.hid fun k hk => placesZ_get (by rw [placesZ_len] at hk; exact hk)
  have HPT : Hid (∀ k, k < nj n → ((places n).take (k + 1)).map Stp.clr = ((places n).take k).map Stp.clr ++ [Stp.clr (1 + k)]) := Lib.hid fun k hk => by rw [places_take hk, List.map_append]; rfl
  have HTL : Hid (∀ k, (((places n).take k).map Stp.clr).length ≤ k) := Lib.hid fun k => by rw [List.length_map, List.length_take]; omega
  have hJ := nj_le n
  generalize placesZ n = Z at *
  generalize places n = Pl at *
  generalize nj n = J at *
  clear h hb0
  go_enter Try.func34, Try.ntmps34
  go_wp2_with fail
  obtain ⟨q, hq⟩ : ∃ q, q = w.heap.size := ⟨_, rfl⟩
  rw [← hq] at HC0 ⊢
  have hz1 : (w.alloc (.cells #[.pointer (some ⟨p, 0, none⟩)] 28)).heap.size = q + 1 := by rw [hq]; simp
  generalize w.alloc (.cells #[.pointer (some ⟨p, 0, none⟩)] 28) = w1 at *
  have HQ := Lib.hid hq
  clear hq
  refine C.out.mono ?_
  rintro e w2 ⟨A, ca, rfl, a1, a2, a3, hb2, -⟩
  have HI := Lib.hid a3
  have HB2 := Lib.hid hb2
  have hc2 := (hb2.cell (p := ⟨q, 0, none⟩) (cell_lt HC0.out)).trans HC0.out
  have HC2 := Lib.hid hc2
  have hz2 : q + 1 ≤ w2.heap.size := by have := hb2.size; omega
  clear a3 hb2 C HC0 hc2
  obtain ⟨zn, hzn⟩ : ∃ zn, zn = Z.length := ⟨_, rfl⟩
  have HZN := Lib.hid hzn
  rw [← hzn] at a1 ⊢
  clear hzn
  go_wp2
  go_loopw [3, 9] (fun v i wr => ∃ k : Nat, k ≤ zn ∧ i = .int .i64 k ∧ OwnS wr w2.heap.size p g v ((Pl.take k).map .clr) ∧ Below w2.heap.size w2 wr)
    (fun _ i _ => zn - (intOf i).toNat)
  case atStart => exact ⟨0, Nat.zero_le _, rfl, OwnS.nil _ _ _ _, Below.refl _ _⟩
  case round =>
    obtain ⟨k, hk, rfl, hown, hb⟩ := hrel
    rename World => wr
    have HO := Lib.hid hown; have HB := Lib.hid hb
    clear hown hb
    by_cases hlt : k < zn
    · have hk2 : k < Z.length := by rw [← HZN.out]; exact hlt
      have hkj : k < J := by rw [← HZL.out]; exact hk2
      obtain ⟨b, o, rfl, hcx⟩ := HI.out.at hk2
      have e0 := (HB.out.cell (p := ⟨b, o + k, none⟩) (cell_lt hcx)).trans hcx
      rw [HPG.out k hk2] at e0
      have HSN := Lib.hid (HPT.out k hkj)
      have HLL := Lib.hid (HTL.out k)
      obtain ⟨a, ha⟩ : ∃ a, a = 1 + k := ⟨_, rfl⟩
      rw [← ha] at e0 HSN
      have hal : a < 512 := by omega
      have HAL := Lib.hid hal
      clear hcx ha hal
      have hW2 := balloc wr (.cells #[.int .i64 (a : Nat)] 3)
      have hW3 := balloc (wr.alloc (.cells #[.int .i64 (a : Nat)] 3)) (.cells #[.func (.func 61) #[] #[.pointer (some ⟨q, 0, none⟩), .pointer (some ⟨wr.heap.size, 0, none⟩)]] 91)
      have hW := bstep hW2 hW3
      have hsz2 : (wr.alloc (.cells #[.int .i64 (a : Nat)] 3)).heap.size = wr.heap.size + 1 := by simp
      have hox := HO.out.lt
      have HO3 := Lib.hid (HO.out.below hW)
      have HCF : Hid (((wr.alloc (.cells #[.int .i64 (a : Nat)] 3)).alloc (.cells #[.func (.func 61) #[] #[.pointer (some ⟨q, 0, none⟩), .pointer (some ⟨wr.heap.size, 0, none⟩)]] 91)).cell? ⟨wr.heap.size + 1, 0, none⟩ = some (.func (.func 61) #[] #[.pointer (some ⟨q, 0, none⟩), .pointer (some ⟨wr.heap.size, 0, none⟩)])) := Lib.hid (by rw [← hsz2]; simp)
      have hws := HB.out.size
      have HST : Hid (StepIn (fun k' => Off p g k' ∧ u3.ownBlock ≠ some k') ((wr.alloc (.cells #[.int .i64 (a : Nat)] 3)).alloc (.cells #[.func (.func 61) #[] #[.pointer (some ⟨q, 0, none⟩), .pointer (some ⟨wr.heap.size, 0, none⟩)]] 91)) p (.func (.func 61) #[] #[.pointer (some ⟨q, 0, none⟩), .pointer (some ⟨wr.heap.size, 0, none⟩)]) (.clr a)) := Lib.hid (by
        have hq := HQ.out
        refine ⟨HAL.out, q, wr.heap.size, rfl, ?_, ?_, ⟨⟨by omega, by omega⟩, fun e => ?_⟩, ⟨⟨by omega, by omega⟩, fun e => ?_⟩⟩
        · exact ((HB.out.trans (hW.mono hws)).cell (p := ⟨q, 0, none⟩) (by show q < w2.heap.size; omega)).trans HC2.out
        · exact (hW3.cell (p := ⟨wr.heap.size, 0, none⟩) (by show wr.heap.size < _; omega)).trans (by simp)
        · have := (hox _ e).1; omega
        · have := (hox _ e).2; omega)
      have HBW := Lib.hid (HB.out.trans (hW.mono hws))
      have HLN : Hid (((Pl.take k).map Stp.clr).length < 1099511627775) := Lib.hid (by have := HLL.out; omega)
      clear hW hW2 hW3 hsz2 hox hws
      go_wp2_with (at_builtin; refine wpList_append_step rfl (.tmp 13) (.tmp 15) rfl w2.heap.size p g u3 _ rfl HO3.out (wr.heap.size + 1) (.clr a) _ _ _ rfl HCF.out HST.out HLN.out HBW.out.size ?_; rw [← HSN.out]; intro v5 w5 own5 hb5; have HO5 := Lib.hid own5; have HB5 := Lib.hid (HBW.out.trans hb5); clear own5 hb5)
      go_roundw
      case rel => exact ⟨k + 1, by omega, by go_num, HO5.out, HB5.out⟩
      case measure => simp [intOf] <;> omega
    · obtain rfl : k = zn := by omega
      go_wp2
      go_ret
      obtain ⟨B, cb, rfl, r1, r2, r3⟩ := HO.out.steps (by have := HQ.out; omega) (by have := HQ.out; omega)
      rw [List.take_of_length_le (by rw [HPL.out, HZN.out, HZL.out]; exact Nat.le_refl _)] at r1 r3 ⊢
      exact ⟨B, cb, rfl, r1, r2, r3, (bstep HB0.out HB2.out).trans (HB.out.mono (Nat.le_trans HB0.out.size HB2.out.size))⟩
set_option maxHeartbeats 2000000 in
theorem sectors_any (p g c n : Nat) (m : Dk) (w : World) (h : DAt w p g c m) (hb : m.b.length = 64 * n) (hn : n ≤ 512) :
    Calls Try.prog 36 #[.pointer (some ⟨p, 0, none⟩)] w (RetRows w (jourN n m.b)) := by
  have C := Lib.hid (places_any p g c n m w h hb hn)
  have HD := Lib.hid h
  have CR := Lib.hid (fun W i (hd : DAt W p g c m) (hi : i < 64) => read_any p g c m ((i : Nat) : Int) W hd (by omega) (by omega))
  have HRD : Hid (∀ i, i < nj n → m.read ((1 + i : Nat) : Int) = sect m.b (1 + i)) := Lib.hid fun i hi => read_nat (b := m.b) (l := m.left) (d := m.dead) hb (by unfold nj at hi; omega)
  have HSL : Hid (∀ i, i < nj n → (sect m.b (1 + i)).length = 64) := Lib.hid fun i hi => sect_len _ _ (by unfold nj at hi; omega)
  have HZL := Lib.hid (placesZ_len n)
  have HJL := Lib.hid (jourN_len n m.b)
  have HPG : Hid (∀ k, (hk : k < (placesZ n).length) → (placesZ n)[k] = ((1 + k : Nat) : Int)) := Lib.hid fun k hk => placesZ_get (by rw [placesZ_len] at hk; exact hk)
  have HJT : Hid (∀ k, k < nj n → (jourN n m.b).take (k + 1) = (jourN n m.b).take k ++ [sect m.b (1 + k)]) := Lib.hid fun k hk => jourN_take m.b hk
  have HTL : Hid (∀ k, ((jourN n m.b).take k).length ≤ k) := Lib.hid fun k => by rw [List.length_take]; omega
  have hJ := nj_le n
  generalize placesZ n = Z at *
  generalize jourN n m.b = R at *
  generalize nj n = J at *
  clear h
  go_enter Try.func36, Try.ntmps36
  go_wp2_with fail
  refine C.out.mono ?_
  rintro e w2 ⟨A, ca, rfl, a1, a2, a3, hb2, -⟩
  have HI := Lib.hid a3
  have HB2 := Lib.hid hb2
  clear a3 hb2 C
  obtain ⟨zn, hzn⟩ : ∃ zn, zn = Z.length := ⟨_, rfl⟩
  have HZN := Lib.hid hzn
  rw [← hzn] at a1 ⊢
  clear hzn
  go_wp2
  go_loopw [3, 9] (fun v i wr => ∃ k : Nat, k ≤ zn ∧ i = .int .i64 k ∧ OwnM wr w2.heap.size v (R.take k) ∧ Below w2.heap.size w2 wr)
    (fun _ i _ => zn - (intOf i).toNat)
  case atStart => exact ⟨0, Nat.zero_le _, rfl, OwnM.nil _ _, Below.refl _ _⟩
  case round =>
    obtain ⟨k, hk, rfl, hown, hb⟩ := hrel
    rename World => wr
    have HO := Lib.hid hown; have HB := Lib.hid hb
    clear hown hb
    by_cases hlt : k < zn
    · have hk2 : k < Z.length := by rw [← HZN.out]; exact hlt
      have hkj : k < J := by rw [← HZL.out]; exact hk2
      obtain ⟨b, o, rfl, hcx⟩ := HI.out.at hk2
      have e0 := (HB.out.cell (p := ⟨b, o + k, none⟩) (cell_lt hcx)).trans hcx
      rw [HPG.out k hk2] at e0
      have HSN := Lib.hid (HJT.out k hkj)
      have HLL := Lib.hid (HTL.out k)
      have C2 := CR.out wr (1 + k) (HD.out.below (bstep HB2.out HB.out)) (by omega)
      rw [HRD.out k hkj] at C2
      have hs64 := HSL.out k hkj
      generalize sect m.b (1 + k) = S at *
      obtain ⟨a, ha⟩ : ∃ a, a = 1 + k := ⟨_, rfl⟩
      rw [← ha] at e0 C2
      have C3 := Lib.hid C2
      have HS64 := Lib.hid hs64
      clear hcx ha C2 hs64
      go_wp2_with fail
      refine C3.out.mono ?_
      rintro e w3 ⟨v, rfl, ho, hb3⟩
      obtain ⟨X, d, rfl, x1, x2, hX⟩ := ho.bytes
      have hXn : ∀ a, X = some a → wr.heap.size ≤ a.block := fun a e => (ho.lt a.block (by rw [e]; rfl)).1
      rw [HS64.out] at x1 ⊢
      have hox := HO.out.ownlt
      have HB4 := Lib.hid (bstep hb3 (balloc w3 (.cells #[.slice X 64 d] 23)))
      have HO4 := Lib.hid (HO.out.below HB4.out)
      have HX4 := Lib.hid (hX.alloc (.cells #[.slice X 64 d] 23))
      have HC4 : Hid ((w3.alloc (.cells #[.slice X 64 d] 23)).cell? ⟨w3.heap.size, 0, none⟩ = some (.slice X S.length d)) := Lib.hid (by rw [HS64.out]; simp)
      have HNE : Hid (∀ a, X = some a → u3.ownBlock ≠ some a.block) := Lib.hid fun a e e2 => by have h1 := (hox _ e2).2; have h2 := hXn a e; omega
      have Q1 : Hid (S.length ≤ d) := Lib.hid (by rw [HS64.out]; exact x1)
      have Q2 := Lib.hid x2
      have HBW := Lib.hid (HB.out.trans (HB4.out.mono HB.out.size))
      clear ho hb3 x1 x2 hX hXn hox C3
      go_wp2_with (at_builtin; refine wpList_append_row rfl (.tmp 13) (.tmp 17) rfl w2.heap.size u3 (R.take k) rfl HO4.out w3.heap.size 1 S X d rfl HC4.out Q1.out Q2.out HX4.out (fun _ a e => HNE.out a e) (by have := HLL.out; omega) HBW.out.size ?_; rw [← HSN.out]; intro v6 w6 own6 hb6; have HO6 := Lib.hid own6; have HB6 := Lib.hid (HBW.out.trans hb6); clear own6 hb6)
      go_roundw
      case rel => exact ⟨k + 1, by omega, by go_num, HO6.out, HB6.out⟩
      case measure => simp [intOf] <;> omega
    · obtain rfl : k = zn := by omega
      go_wp2
      go_ret
      have hall := HO.out
      rw [List.take_of_length_le (by rw [HJL.out, HZN.out, HZL.out]; exact Nat.le_refl _)] at hall
      obtain ⟨A9, c9, rfl, r1, r2, r3, r4⟩ := hall.rows
      exact ⟨A9, c9, rfl, r1, r2, r3, bstep HB2.out HB.out, fun a e => Nat.le_trans HB2.out.size (r4 a e)⟩
end Go.Proofs.Ytapgpibindhlfaa.Jour

/- package journal: sectors as changes; whether a disk has changes' sectors, whether its journal is clean -/
set_option maxRecDepth 100000
namespace Go.Proofs.Ytapgpibindhlfaa.Jour
open Go.RowKit DiskM EntM JourM Disk
open Law16 (Fine)

/-- sectors, one behind the other, from a place on -/
def placedL (f : Nat) (ss : List (List UInt8)) : List Ch := (List.range ss.length).map fun k => ⟨((f + k : Nat) : Int), ss.getD k []⟩
theorem placedL_len (f : Nat) (ss : List (List UInt8)) : (placedL f ss).length = ss.length := by unfold placedL; simp
theorem placedL_take {f k : Nat} {ss : List (List UInt8)} (h : k < ss.length) : (placedL f ss).take (k + 1) = (placedL f ss).take k ++ [⟨((f + k : Nat) : Int), ss[k]⟩] := by
  rw [List.take_succ_eq_append_getElem (by rw [placedL_len]; exact h)]
  congr 2
  unfold placedL
  rw [List.getElem_map, List.getElem_range, List.getD_eq_getElem?_getD, List.getElem?_eq_getElem h]
  rfl
set_option maxHeartbeats 2000000 in
theorem placed_any (p g f : Nat) (A : Option Addr) (ss : List (List UInt8)) (c : Nat) (w : World) (h : RowsP (Off p g) w A ss) (hp : p < w.heap.size) (hg : g < w.heap.size) (hf : f ≤ 1000) (hl : ss.length ≤ 1000000) :
    Calls Try.prog 31 #[.int .i64 (f : Nat), .slice A ss.length c] w fun e w' => ∃ B d, e = .returned (.slice B ss.length d) ∧ ss.length ≤ d ∧ d ≤ maxLen ∧ ChsP (Off p g) w' B (placedL f ss) ∧ Below w.heap.size w w' := by
  have H := Lib.hid h
  have HT : Hid (∀ k, (hk : k < ss.length) → (placedL f ss).take (k + 1) = (placedL f ss).take k ++ [⟨((f + k : Nat) : Int), ss[k]⟩]) := Lib.hid fun k hk => placedL_take hk
  have HLN := Lib.hid (placedL_len f ss)
  have HTL : Hid (∀ k, k ≤ ss.length → ((placedL f ss).take k).length = k) := Lib.hid fun k hk => by rw [List.length_take, placedL_len]; omega
  have H0 : Hid (OwnC w w.heap.size (PG p g) (.slice none 0 0) ((placedL f ss).take 0)) := Lib.hid (OwnC.nil _ _ _)
  generalize placedL f ss = Z at *
  obtain ⟨n, hnn⟩ : ∃ n, n = ss.length := ⟨_, rfl⟩
  have HN := Lib.hid hnn
  rw [← hnn] at hl ⊢
  clear h hnn
  go_enter Try.func31, Try.ntmps31
  go_wp2
  go_loopw [5, 10] (fun v i wr => ∃ k : Nat, k ≤ n ∧ i = .int .i64 k ∧ OwnC wr w.heap.size (PG p g) v (Z.take k) ∧ Below w.heap.size w wr)
    (fun _ i _ => n - (intOf i).toNat)
  case atStart => exact ⟨0, Nat.zero_le _, rfl, H0.out, Below.refl _ _⟩
  case round =>
    obtain ⟨k, hk, rfl, hown, hb⟩ := hrel
    rename World => wr
    have HO := Lib.hid hown; have HB := Lib.hid hb
    clear hown hb H0
    by_cases hlt : k < n
    · have hk2 : k < ss.length := by rw [← HN.out]; exact hlt
      obtain ⟨b, o, rfl, B, d, e10, x1, x2, hX0, hXP⟩ := H.out k hk2
      have hBw : 0 < ss[k].length → ∀ a, B = some a → a.block < w.heap.size := fun h0 a e => hX0.lt h0 a e
      have e1 := (HB.out.cell (p := ⟨b, o + k, none⟩) (cell_lt e10)).trans e10
      have hX := hX0.below HB.out
      have HBW := Lib.hid hBw
      have HX := Lib.hid hX; have HXP := Lib.hid hXP; have X1 := Lib.hid x1; have X2 := Lib.hid x2
      have hsn := HT.out k hk2
      have HTK := Lib.hid (HTL.out k (by omega))
      clear hX hX0 hXP x1 x2 hBw e10
      generalize ss[k] = dt at *
      obtain ⟨a, ha⟩ : ∃ a, a = f + k := ⟨_, rfl⟩
      have haw : IntKind.i64.wrap ((f : Int) + (k : Int)) = (a : Int) := by rw [IntWalk.i64_in _ (by omega)]; omega
      rw [← ha] at hsn
      have hai : AtIn ((a : Nat) : Int) := by unfold AtIn; omega
      have HAI := Lib.hid hai
      have HSN := Lib.hid hsn
      clear hsn ha hai
      obtain ⟨dn, hdn⟩ : ∃ dn, dn = dt.length := ⟨_, rfl⟩
      have HDN := Lib.hid hdn
      rw [← hdn] at e1
      clear hdn
      have hW := balloc wr (.cells #[.int .i64 (a : Nat), .slice B dn d] 50)
      have HO3 := Lib.hid (HO.out.below hW)
      have hox := HO.out.lt
      have hws := HB.out.size
      have HC0 : Hid ((wr.alloc (.cells #[.int .i64 (a : Nat), .slice B dn d] 50)).cell? ⟨wr.heap.size, 0, none⟩ = some (.int .i64 (a : Nat))) := Lib.hid (by simp)
      have HC1 : Hid ((wr.alloc (.cells #[.int .i64 (a : Nat), .slice B dn d] 50)).cell? ⟨wr.heap.size, 1, none⟩ = some (.slice B dt.length d)) := Lib.hid (by rw [← HDN.out]; simp)
      have HX3 := Lib.hid (HX.out.below hW)
      have HNE : Hid (0 < dt.length → ∀ x, B = some x → u5.ownBlock ≠ some x.block ∧ ¬ PG p g x.block) := Lib.hid fun h0 x e => ⟨fun e2 => by
        have := (hox _ e2).1; have := HBW.out h0 x e; omega, (HXP.out h0 x e).not⟩
      have hsz : (wr.alloc (.cells #[.int .i64 (a : Nat), .slice B dn d] 50)).heap.size = wr.heap.size + 1 := by simp
      have HGS : Hid (∀ j, PG p g j → j < (wr.alloc (.cells #[.int .i64 (a : Nat), .slice B dn d] 50)).heap.size) := Lib.hid fun j hj => by
        rcases hj with hj | hj <;> omega
      have HBW2 := Lib.hid (HB.out.trans (hW.mono hws))
      clear hW hox hws hsz
      go_wp2_with (at_builtin; go_loud (refine wpList_append_ch rfl (.tmp 15) (.tmp 21) rfl w.heap.size (PG p g) u5 (Z.take k) rfl HO3.out wr.heap.size 1 ⟨(a : Nat), dt⟩ B d rfl HC0.out HC1.out X1.out X2.out HX3.out HAI.out HNE.out HGS.out (by rw [HTK.out]; omega) HBW2.out.size ?_; rw [← HSN.out]; intro v5 w5 own5 hg5 _; have HB5 := Lib.hid (HBW2.out.grown hg5 HBW2.out.size fun k hk => (HO3.out.lt k hk).1); have HO5 := Lib.hid own5; clear own5 hg5))
      go_roundw
      case rel => exact ⟨k + 1, by omega, by go_num, HO5.out, HB5.out⟩
      case measure => simp [intOf] <;> omega
    · obtain rfl : k = n := by omega
      go_wp2
      go_ret
      have hall := HO.out
      rw [List.take_of_length_le (by rw [HLN.out, HN.out]; exact Nat.le_refl _)] at hall
      obtain ⟨B, cb, hv, r1, r2, r3, -⟩ := hall.chsP (P := Off p g) fun k hk => ⟨fun e => hk (.inl e), fun e => hk (.inr e)⟩
      rw [HLN.out, ← HN.out] at hv r1
      exact ⟨B, cb, by rw [hv]; rfl, r1, r2, r3, HB.out⟩
/-! whether a disk has changes' sectors -/
def behind (z : Int) (x : Ch) : Bool := decide (z ≤ x.at_)
theorem behind_any (z : Int) (s : Nat) (a : Int) (B : Option Addr) (n c : Nat) (d : List UInt8) (w : World) (hs : w.cell? ⟨s, 0, none⟩ = some (.int .i64 z)) :
    Calls Try.prog 57 #[.agg #[.int .i64 a, .slice B n c], .pointer (some ⟨s, 0, none⟩)] w fun e w' => e = .returned (.bool (behind z ⟨a, d⟩)) ∧ Below w.heap.size w w' := by
  have hb := balloc w (.cells #[.int .i64 a, .slice B n c] 50)
  have hs2 := (hb.cell (p := ⟨s, 0, none⟩) (cell_lt hs)).trans hs
  have e0 : (w.alloc (.cells #[.int .i64 a, .slice B n c] 50)).cell? ⟨w.heap.size, 0, none⟩ = some (.int .i64 a) := by simp
  have HB := Lib.hid hb
  obtain ⟨r, hr⟩ : ∃ r, r = behind z ⟨a, d⟩ := ⟨_, rfl⟩
  have hr2 : decide (z ≤ a) = r := hr.symm
  rw [← hr]
  clear hb hs hr
  go_enter Try.func57, Try.ntmps57
  go_wp2
  go_ret
  exact ⟨by first | rfl | (simp; done), HB.out⟩
/-- the first change of which a function of the program says so -/
theorem index_behind (z : Int) (s : Nat)
    (A : Option Addr) (l : List Ch) (c : Nat) (w : World) (hs : w.cell? ⟨s, 0, none⟩ = some (.int .i64 z)) (h : ChsAt w A l) (hl : l.length ≤ 1048576) :
    Calls Try.prog 89 #[.slice A l.length c, .func (.func 57) #[] #[.pointer (some ⟨s, 0, none⟩)]] w fun e w' => (∃ r : Int, e = .returned (.int .i64 r) ∧ decide (0 ≤ r) = l.any (behind z)) ∧ Below w.heap.size w w' := by
  have H := Lib.hid h
  have HF : Hid (∀ (x : Ch) B c W, Below w.heap.size w W → Calls Try.prog 57 #[.agg #[.int .i64 x.at_, .slice B x.data.length c], .pointer (some ⟨s, 0, none⟩)] W fun e w' => e = .returned (.bool (behind z x)) ∧ Below W.heap.size W w') := Lib.hid (fun x B c W hb => behind_any z s x.at_ B x.data.length c x.data W ((hb.cell (p := ⟨s, 0, none⟩) (cell_lt hs)).trans hs))
  clear h
  obtain ⟨n, hn⟩ : ∃ n, n = l.length := ⟨_, rfl⟩
  have HN := Lib.hid hn
  rw [← hn] at hl ⊢
  clear hn
  go_enter Try.func89, Try.ntmps89
  go_wp2
  go_loopw [8] (fun i wr => ∃ k : Nat, k ≤ n ∧ i = .int .i64 k ∧ Below w.heap.size w wr ∧ ∀ j, (hj : j < l.length) → j < k → behind z l[j] = false)
    (fun i _ => n - (intOf i).toNat)
  case atStart => exact ⟨0, Nat.zero_le _, rfl, Below.refl _ _, fun j _ h => by omega⟩
  case round =>
    obtain ⟨k, hk, rfl, hb, hall⟩ := hrel
    rename World => w1
    have HALL := Lib.hid hall
    have HB := Lib.hid hb
    clear hall
    by_cases hlt : k < n
    · have hk2 : k < l.length := by rw [← HN.out]; exact hlt
      obtain ⟨b, o, B, d, hA, hx⟩ := H.out.below hb k hk2
      subst hA
      have e0 := hx.c0; have e1 := hx.c1
      clear hx hb
      have C := Lib.hid (HF.out l[k] B d w1 HB.out)
      have HX : Hid (∀ q, behind z l[k] = q → behind z l[k] = q) := Lib.hid fun _ h => h
      obtain ⟨q, hq⟩ : ∃ q, q = behind z l[k] := ⟨_, rfl⟩
      rw [← hq] at C
      have HQ := Lib.hid hq
      clear hq HX
      generalize l[k].data.length = m at *
      generalize l[k].at_ = a at *
      cases q
      · go_wp2_with fail
        refine C.out.mono ?_
        rintro e w2 ⟨rfl, hb2⟩
        have HB2 := Lib.hid (bstep HB.out hb2)
        clear hb2
        go_wp2
        go_roundw
        case rel =>
          refine ⟨k + 1, by omega, by go_num, HB2.out, fun j hj hjk => ?_⟩
          by_cases e : j = k
          · subst e; exact HQ.out.symm
          · exact HALL.out j hj (by omega)
        case measure => simp [intOf] <;> omega
      · go_wp2_with fail
        refine C.out.mono ?_
        rintro e w2 ⟨rfl, hb2⟩
        have HB2 := Lib.hid (bstep HB.out hb2)
        clear hb2
        go_wp2
        go_ret
        have ha : l.any (behind z) = true := List.any_eq_true.2 ⟨l[k], List.getElem_mem hk2, HQ.out.symm⟩
        exact ⟨⟨k, rfl, by rw [ha]; simp⟩, HB2.out⟩
    · obtain rfl : k = n := by omega
      go_wp2
      go_ret
      have ha : l.any (behind z) = false := any_false.2 fun x hx => by
        obtain ⟨j, hj, rfl⟩ := List.mem_iff_getElem.1 hx
        exact HALL.out j hj (by rw [HN.out]; exact hj)
      exact ⟨⟨-1, rfl, by rw [ha]; rfl⟩, HB.out⟩
theorem contains_behind (z : Int) (s : Nat)
    (A : Option Addr) (l : List Ch) (c : Nat) (w : World) (hs : w.cell? ⟨s, 0, none⟩ = some (.int .i64 z)) (h : ChsAt w A l) (hl : l.length ≤ 1048576) :
    Calls Try.prog 58 #[.slice A l.length c, .func (.func 57) #[] #[.pointer (some ⟨s, 0, none⟩)]] w fun e w' => e = .returned (.bool (l.any (behind z))) ∧ Below w.heap.size w w' := by
  have hC := index_behind z s A l c w hs h hl
  clear h hs
  generalize l.any (behind z) = al at *
  have HC := Lib.hid hC
  clear hC
  go_enter Try.func58, Try.ntmps58
  go_wp2_with fail
  refine HC.out.mono ?_
  rintro e w' ⟨⟨r, rfl, hr⟩, hb⟩
  have HB := Lib.hid hb
  clear hb
  rcases al with _ | _
  · have h0 : ¬ 0 ≤ r := of_decide_eq_false hr
    clear hr
    go_wp2
    go_ret
    exact ⟨by first | (simp; done) | (simp; omega), HB.out⟩
  · have h0 : 0 ≤ r := of_decide_eq_true hr
    clear hr
    go_wp2
    go_ret
    exact ⟨by first | (simp; done) | (simp; omega), HB.out⟩
theorem there_any (n : Nat) (l : List Ch) : decide (there n l) = (decide (34 ≤ n) && !(l.any (behind (n : Int)))) := by
  have key : (l.any (behind (n : Int)) = false) ↔ ∀ c ∈ l, c.at_ < n := by
    rw [List.any_eq_false]
    constructor
    · intro h c hc
      have := h c hc
      unfold behind at this
      simp only [decide_eq_true_eq] at this
      omega
    · intro h c hc e
      have := h c hc
      have := of_decide_eq_true e
      omega
  by_cases h1 : 34 ≤ n
  · rcases hq : l.any (behind (n : Int)) with _ | _
    · have ht : there n l := ⟨h1, key.1 hq⟩
      rw [decide_eq_true ht, decide_eq_true h1]; rfl
    · have ht : ¬ there n l := fun h => by rw [key.2 h.2] at hq; cases hq
      rw [decide_eq_false ht, decide_eq_true h1]; rfl
  · have ht : ¬ there n l := fun h => h1 h.1
    rw [decide_eq_false ht, decide_eq_false h1]; rfl
set_option maxHeartbeats 1000000 in
theorem fits_any (p g c n : Nat) (m : Dk) (A : Option Addr) (l : List Ch) (cl : Nat) (w : World) (h : DAt w p g c m) (hb : m.b.length = 64 * n) (hn : n ≤ 512) (hl : ChsAt w A l) (hll : l.length ≤ 1048576) :
    Calls Try.prog 30 #[.pointer (some ⟨p, 0, none⟩), .slice A l.length cl] w fun e w' => e = .returned (.bool (decide (there n l))) ∧ Below w.heap.size w w' := by
  have C := Lib.hid (size_any p g c m w h (by omega))
  rw [show m.b.length / 64 = n from by omega] at C
  have hbl := balloc w (.cells #[.int .i64 (n : Nat)] 3)
  have HB := Lib.hid hbl
  have CC := Lib.hid (contains_behind (n : Int) w.heap.size A l cl (w.alloc (.cells #[.int .i64 (n : Nat)] 3)) (by simp) (hl.below hbl) hll)
  rw [there_any]
  have he0 : (w.alloc (.cells #[.int .i64 (n : Nat)] 3)).cell? ⟨w.heap.size, 0, none⟩ = some (.int .i64 (n : Nat)) := by simp
  have HE0 := Lib.hid he0
  clear h hl hbl he0
  generalize l.any (behind (n : Int)) = q at *
  by_cases h34 : 34 ≤ n
  · have hq : decide ((34 : Int) ≤ (n : Int)) = true := decide_eq_true (by omega)
    rw [decide_eq_true h34]
    go_enter Try.func30, Try.ntmps30
    go_wp2_with fail
    refine C.out.mono ?_
    rintro e w1 ⟨rfl, rfl⟩
    have e0 := HE0.out
    go_wp2_with fail
    refine CC.out.mono ?_
    rintro e w2 ⟨rfl, hb2⟩
    have HB2 := Lib.hid (bstep HB.out hb2)
    clear hb2 e0
    go_wp2
    go_ret
    exact ⟨by first | rfl | (simp; done), HB2.out⟩
  · have hq : decide ((34 : Int) ≤ (n : Int)) = false := decide_eq_false (by omega)
    rw [decide_eq_false h34]
    clear CC
    go_enter Try.func30, Try.ntmps30
    go_wp2_with fail
    refine C.out.mono ?_
    rintro e w1 ⟨rfl, rfl⟩
    have e0 := HE0.out
    go_wp2
    go_ret
    exact ⟨by first | rfl | (simp; done), HB.out⟩

/-! whether a journal is clean -/
def used (x : List UInt8) : Bool := !SecM.clear_ x
theorem any_none {l : List (List UInt8)} {q : List UInt8 → Bool} (h : ∀ x ∈ l, q x = false) : l.any q = false := by
  rw [List.any_eq_false]; intro x hx; rw [h x hx]; decide
theorem used_any (B : Option Addr) (x : List UInt8) (c : Nat) (w : World) (h : BytesAt w B x) :
    Calls Try.prog 37 #[.slice B x.length c] w fun e w' => e = .returned (.bool (used x)) ∧ Below w.heap.size w w' := by
  have C := Lib.hid (Sector.clear_any B x c w h)
  obtain ⟨r, hr⟩ : ∃ r, r = SecM.clear_ x := ⟨_, rfl⟩
  have hr2 : used x = !r := by rw [hr]; rfl
  rw [← hr] at C
  rw [hr2]
  clear h hr hr2
  generalize x.length = n at *
  go_enter Try.func37, Try.ntmps37
  go_wp2_with fail
  refine C.out.mono ?_
  rintro e w1 ⟨rfl, hb⟩
  have HB := Lib.hid hb
  clear hb
  go_wp2
  go_ret
  exact ⟨rfl, HB.out⟩
/-- the first row of which a function of the program says so -/
theorem index_used
    (A : Option Addr) (l : List (List UInt8)) (c : Nat) (w : World) (h : RowsAt w A l) (hl : l.length ≤ 1048576) :
    Calls Try.prog 71 #[.slice A l.length c, .func (.func 37) #[] #[]] w fun e w' => (∃ r : Int, e = .returned (.int .i64 r) ∧ decide (0 ≤ r) = l.any used) ∧ Below w.heap.size w w' := by
  have H := Lib.hid h
  have HF : Hid (∀ (x : List UInt8) B c W, BytesAt W B x → Calls Try.prog 37 #[.slice B x.length c] W fun e w' => e = .returned (.bool (used x)) ∧ Below W.heap.size W w') := Lib.hid (fun x B c W h => used_any B x c W h)
  clear h
  obtain ⟨n, hn⟩ : ∃ n, n = l.length := ⟨_, rfl⟩
  have HN := Lib.hid hn
  rw [← hn] at hl ⊢
  clear hn
  go_enter Try.func71, Try.ntmps71
  go_wp2
  go_loopw [8] (fun i wr => ∃ k : Nat, k ≤ n ∧ i = .int .i64 k ∧ Below w.heap.size w wr ∧ ∀ j, (hj : j < l.length) → j < k → used l[j] = false)
    (fun i _ => n - (intOf i).toNat)
  case atStart => exact ⟨0, Nat.zero_le _, rfl, Below.refl _ _, fun j _ h => by omega⟩
  case round =>
    obtain ⟨k, hk, rfl, hb, hall⟩ := hrel
    rename World => w1
    have HALL := Lib.hid hall
    have HB := Lib.hid hb
    clear hall
    by_cases hlt : k < n
    · have hk2 : k < l.length := by rw [← HN.out]; exact hlt
      obtain ⟨b, o, B, d, hA, e0, hd1, hd2, hX⟩ := (H.out.below HB.out).row hk2
      subst hA
      have C := Lib.hid (HF.out l[k] B d w1 hX)
      clear hX hb
      have HX : Hid (∀ q, used l[k] = q → used l[k] = q) := Lib.hid fun _ h => h
      obtain ⟨q, hq⟩ : ∃ q, q = used l[k] := ⟨_, rfl⟩
      rw [← hq] at C
      have HQ := Lib.hid hq
      clear hq HX
      generalize l[k].length = m at *
      cases q
      · go_wp2_with fail
        refine C.out.mono ?_
        rintro e w2 ⟨rfl, hb2⟩
        have HB2 := Lib.hid (bstep HB.out hb2)
        clear hb2
        go_wp2
        go_roundw
        case rel =>
          refine ⟨k + 1, by omega, by go_num, HB2.out, fun j hj hjk => ?_⟩
          by_cases e : j = k
          · subst e; exact HQ.out.symm
          · exact HALL.out j hj (by omega)
        case measure => simp [intOf] <;> omega
      · go_wp2_with fail
        refine C.out.mono ?_
        rintro e w2 ⟨rfl, hb2⟩
        have HB2 := Lib.hid (bstep HB.out hb2)
        clear hb2
        go_wp2
        go_ret
        have ha : l.any used = true := List.any_eq_true.2 ⟨l[k], List.getElem_mem hk2, HQ.out.symm⟩
        exact ⟨⟨k, rfl, by rw [ha]; simp⟩, HB2.out⟩
    · obtain rfl : k = n := by omega
      go_wp2
      go_ret
      have ha : l.any used = false := any_none fun x hx => by
        obtain ⟨j, hj, rfl⟩ := List.mem_iff_getElem.1 hx
        exact HALL.out j hj (by rw [HN.out]; exact hj)
      exact ⟨⟨-1, rfl, by rw [ha]; rfl⟩, HB.out⟩
theorem contains_used
    (A : Option Addr) (l : List (List UInt8)) (c : Nat) (w : World) (h : RowsAt w A l) (hl : l.length ≤ 1048576) :
    Calls Try.prog 39 #[.slice A l.length c, .func (.func 37) #[] #[]] w fun e w' => e = .returned (.bool (l.any used)) ∧ Below w.heap.size w w' := by
  have hC := index_used A l c w h hl
  clear h
  generalize l.any used = al at *
  have HC := Lib.hid hC
  clear hC
  go_enter Try.func39, Try.ntmps39
  go_wp2_with fail
  refine HC.out.mono ?_
  rintro e w' ⟨⟨r, rfl, hr⟩, hb⟩
  have HB := Lib.hid hb
  clear hb
  rcases al with _ | _
  · have h0 : ¬ 0 ≤ r := of_decide_eq_false hr
    clear hr
    go_wp2
    go_ret
    exact ⟨by first | (simp; done) | (simp; omega), HB.out⟩
  · have h0 : 0 ≤ r := of_decide_eq_true hr
    clear hr
    go_wp2
    go_ret
    exact ⟨by first | (simp; done) | (simp; omega), HB.out⟩
theorem clean_used (n : Nat) (b : List UInt8) : cleanV n b = !((jourN n b).any used) := by
  unfold cleanV
  rw [List.all_eq_not_any_not]
  rfl
set_option maxHeartbeats 1000000 in
theorem clean_any (p g c n : Nat) (m : Dk) (w : World) (h : DAt w p g c m) (hb : m.b.length = 64 * n) (hn : n ≤ 512) :
    Calls Try.prog 14 #[.pointer (some ⟨p, 0, none⟩)] w fun e w' => e = .returned (.bool (cleanV n m.b)) ∧ Below w.heap.size w w' := by
  have C := Lib.hid (sectors_any p g c n m w h hb hn)
  have CU := Lib.hid (fun A d W hR => contains_used A (jourN n m.b) d W hR (by rw [jourN_len]; have := nj_le n; omega))
  rw [clean_used]
  clear h hb
  generalize (jourN n m.b).any used = q at *
  generalize jourN n m.b = R at *
  go_enter Try.func14, Try.ntmps14
  go_wp2_with fail
  refine C.out.mono ?_
  rintro e w1 ⟨A, d, rfl, -, -, hR, hb1, -⟩
  have C2 := Lib.hid (CU.out A d w1 hR)
  have HB1 := Lib.hid hb1
  clear hR hb1 C CU
  generalize R.length = rn at *
  go_wp2_with fail
  refine C2.out.mono ?_
  rintro e w2 ⟨rfl, hb2⟩
  have HB2 := Lib.hid (bstep HB1.out hb2)
  clear hb2
  go_wp2
  go_ret
  exact ⟨by first | rfl | (cases q <;> rfl), HB2.out⟩
theorem clean_none (w : World) : Calls Try.prog 14 #[.pointer none] w fun e w' => e = .returned (.bool false) ∧ w = w' := by
  go_enter Try.func14, Try.ntmps14
  go_wp2
  go_ret
  exact ⟨rfl, rfl⟩
end Go.Proofs.Ytapgpibindhlfaa.Jour

/- package journal: Recover, Do -/
set_option maxRecDepth 100000
namespace Go.Proofs.Ytapgpibindhlfaa.Jour
open Go.RowKit DiskM EntM JourM Disk
open Law16 (Fine)

theorem rows2 (w : World) (p g : Nat) (B1 B2 : Option Addr) (s1 s2 : List Stp) (n1 c1 n2 c2 : Nat) (h1 : n1 = s1.length) (h2 : n2 = s2.length) (q1 : n1 ≤ c1) (q2 : c1 ≤ maxLen) (r1 : n2 ≤ c2) (r2 : c2 ≤ maxLen) (hs1 : StepsAt w p g B1 s1) (hs2 : StepsAt w p g B2 s2) (hp : p < w.heap.size) (hg : g < w.heap.size) :
    RowsS (w.alloc (.cells #[.slice B1 n1 c1, .slice B2 n2 c2] 68)) p g (some ⟨w.heap.size, 0, none⟩) [s1, s2] := fun i hi => by
  subst h1; subst h2
  have hb := balloc w (.cells #[.slice B1 s1.length c1, .slice B2 s2.length c2] 68)
  match i, hi with
  | 0, _ => exact ⟨w.heap.size, 0, B1, c1, rfl, by simp, q1, q2, hs1.below hb, by omega, by omega⟩
  | 1, _ => exact ⟨w.heap.size, 0, B2, c2, rfl, by simp, r1, r2, hs2.below hb, by omega, by omega⟩
theorem rows2_len {s1 s2 : List Stp} (h1 : s1.length ≤ 1000000) (h2 : s2.length ≤ 1000000) : ∀ i, (hi : i < [s1, s2].length) → [s1, s2][i].length ≤ 1000000 := fun i hi => by
  match i, hi with
  | 0, _ => exact h1
  | 1, _ => exact h2
theorem jourN_rows {n : Nat} {b : List UInt8} (hb : b.length = 64 * n) : ∀ s ∈ jourN n b, s.length = 64 := fun s hs => by
  unfold jourN nj at hs
  simp only [List.mem_map, List.mem_range] at hs
  obtain ⟨i, hi, rfl⟩ := hs
  exact sect_len _ _ (by omega)
theorem fit_64 {ss : List (List UInt8)} (h : ∀ s ∈ ss, s.length = 64) : Entry.Fit ss := fun s rest e => by
  subst e
  refine ⟨by rw [h s (by simp)]; omega, fun i hi _ => ?_⟩
  rw [h rest[i] (by simp)]; omega
theorem got_getE {ss : List (List UInt8)} {l : List Ch} {ok : Bool} (h : Got ss l ok) : getE ss = if ok = true then some l else none := by
  rcases h with ⟨rfl, h⟩ | ⟨rfl, rfl, h⟩
  · rw [if_pos rfl]; exact getE_some.2 h
  · rw [if_neg (by decide)]
    rcases hg : getE ss with _ | m
    · rfl
    · exact absurd (getE_some.1 hg) (h m)
theorem said_of {n : Nat} {b : List UInt8} {l : List Ch} {ok : Bool} (h : Got (jourN n b) l ok) : said n b = if ok = true ∧ there n l then l else [] := by
  unfold said
  rw [got_getE h]
  cases ok
  · rfl
  · by_cases ht : there n l
    · rw [if_pos rfl, if_pos ⟨rfl, ht⟩]
      show (if there n l then l else []) = l
      rw [if_pos ht]
    · rw [if_pos rfl, if_neg (fun h => ht h.2)]
      show (if there n l then l else []) = []
      rw [if_neg ht]
theorem got_few {ss : List (List UInt8)} {l : List Ch} {ok : Bool} (h : Got ss l ok) : l.length ≤ 618 := by
  rcases h with ⟨_, h⟩ | ⟨_, rfl, _⟩
  · exact h.1.few
  · simp
set_option maxHeartbeats 4000000 in
theorem recover_any (tb p g c n : Nat) (m : Dk) (w : World) (ht : Crc.Tab w tb) (h : DAt w p g c m) (hb : m.b.length = 64 * n) (hn : n ≤ 512) (hf : Fine m) :
    Calls Try.prog 13 #[.pointer (some ⟨tb, 0, none⟩), .pointer (some ⟨p, 0, none⟩)] w fun e w' => e = .returned (.int .i64 (if (recD n m).2 = true then 0 else 15)) ∧ DAt w' p g c (recD n m).1 ∧ Keeps (PG p g) w w' := by
  have HD := Lib.hid h; have HT := Lib.hid ht; have HF := Lib.hid hf
  have CS := Lib.hid (sectors_any p g c n m w h hb hn)
  have hjl := jourN_len n m.b
  have hnj := nj_le n
  have CG := Lib.hid (fun A d W (hT : Crc.Tab W tb) hR h1 h2 => Entry.get_new tb A (jourN n m.b) d W hT hR h1 h2 (by omega) (fit_64 (jourN_rows hb)))
  have CF := Lib.hid (fun W A l cl (hd : DAt W p g c m) hl hll => fits_any p g c n m A l cl W hd hb hn hl hll)
  have CCL := Lib.hid (fun W (hd : DAt W p g c m) => clears_any p g c n m W hd hb hn)
  have HSD : Hid (∀ l ok, Got (jourN n m.b) l ok → said n m.b = if ok = true ∧ there n l then l else []) := Lib.hid fun l ok h => said_of h
  have HST := Lib.hid (recD_steps hb)
  have hml : m.b.length ≤ 32768 := by omega
  have HPL : Hid (((places n).map Stp.clr).length ≤ 33) := Lib.hid (by rw [List.length_map, places_len]; exact hnj)
  obtain ⟨E, hE⟩ : ∃ E : Int, E = (if (recD n m).2 = true then 0 else 15) := ⟨_, rfl⟩
  obtain ⟨M, hM⟩ : ∃ M, M = (recD n m).1 := ⟨_, rfl⟩
  rw [← hE, ← hM]
  have HE := Lib.hid hE; have HM := Lib.hid hM
  generalize jourN n m.b = R at *
  obtain ⟨S, hS⟩ : ∃ S, S = said n m.b := ⟨_, rfl⟩
  rw [← hS] at HSD HST
  clear h ht hf hE hM hS hnj hjl
  go_enter Try.func13, Try.ntmps13
  go_wp2_with fail
  refine CS.out.mono ?_
  rintro e w1 ⟨A, d, rfl, a1, a2, a3, hb1, -⟩
  have CG2 := Lib.hid (CG.out A d w1 (HT.out.below hb1) a3 a1 a2)
  have HB1 := Lib.hid hb1
  have hp1 := HD.out.lt
  have hs1 := hb1.size
  clear a3 hb1 CS CG
  generalize R.length = rn at *
  go_wp2_with fail
  refine CG2.out.mono ?_
  rintro e w2 ⟨l, ok, X, dx, rfl, b1, b2, b3, hgot, hb2⟩
  have hsd := HSD.out l ok hgot
  have hfew := got_few hgot
  have HFEW := Lib.hid hfew
  have HCH := Lib.hid (b3.mono (Q := Off p g) fun k _ hk => ⟨by omega, by omega⟩)
  have HB2 := Lib.hid (bstep HB1.out hb2)
  have HD2 := Lib.hid (HD.out.below HB2.out)
  obtain ⟨xn, hxn⟩ : ∃ xn, xn = l.length := ⟨_, rfl⟩
  have HXN := Lib.hid hxn
  have hzp := HD2.out.lt
  have CW := Lib.hid (fun W (hW : ChsP (Off p g) W X l) hp hg => writes_any p g X l dx W hW hp hg (by omega))
  have CF2 := Lib.hid (CF.out w2 X l dx HD2.out b3.chs (by omega))
  have HCN := Lib.hid (fun W hp hg => writes_any p g none [] 0 W (ChsP.nil _ _ _) hp hg (by simp))
  rw [← hxn] at b1 CW CF2 ⊢
  clear hxn hgot b3 hb2 CG2 HSD CF hfew
  cases ok
  · obtain ⟨L, hL⟩ : ∃ L : List Ch, L = [] := ⟨_, rfl⟩
    rw [if_neg (by simp), ← hL] at hsd
    have HEQ : Hid (runS m (L.map Stp.put ++ (places n).map Stp.clr) = recD n m) := Lib.hid (by rw [← hsd]; exact HST.out)
    have HLE : Hid (L.length ≤ 618) := Lib.hid (by rw [hL]; simp)
    have CWR : Hid (∀ W, (p < W.heap.size ∧ g < W.heap.size) → Calls Try.prog 33 #[.pointer (some ⟨p, 0, none⟩), .slice none 0 0] W (RetSteps W p g (L.map Stp.put))) := Lib.hid fun W hW => by rw [hL]; exact HCN.out W hW.1 hW.2
    clear hsd hL HST CW HCH CF2 HCN HXN b1
    go_wp2_with fail
    refine (CWR.out w2 hzp).mono ?_
    rintro e v1 ⟨B1, c1, rfl, q1, q2, q3, hv1⟩
    have HS1 := Lib.hid q3; have HV1 := Lib.hid hv1
    have HDV := Lib.hid (HD2.out.below hv1)
    clear q3 hv1 CWR
    obtain ⟨ln, hln⟩ : ∃ ln, ln = (L.map Stp.put).length := ⟨_, rfl⟩
    have HLN := Lib.hid hln
    rw [← hln] at q1 ⊢
    clear hln
    go_wp2_with fail
    refine (CCL.out v1 HDV.out).mono ?_
    rintro e v2 ⟨B2, c2, rfl, r1, r2, r3, hv2⟩
    have HS2 := Lib.hid r3
    have HV2 := Lib.hid (bstep HV1.out hv2)
    have HS1' := Lib.hid (HS1.out.below hv2)
    have HDV2 := Lib.hid (HDV.out.below hv2)
    clear r3 hv2 CCL HS1 HDV
    obtain ⟨pn, hpn⟩ : ∃ pn, pn = ((places n).map Stp.clr).length := ⟨_, rfl⟩
    have HPN := Lib.hid hpn
    rw [← hpn] at r1 ⊢
    clear hpn
    have hlit := balloc v2 (.cells #[.slice B1 ln c1, .slice B2 pn c2] 68)
    have HROW : Hid (RowsS (v2.alloc (.cells #[.slice B1 ln c1, .slice B2 pn c2] 68)) p g (some ⟨v2.heap.size, 0, none⟩) [L.map Stp.put, (places n).map Stp.clr]) := Lib.hid (rows2 v2 p g B1 B2 _ _ ln c1 pn c2 HLN.out HPN.out q1 q2 r1 r2 HS1'.out HS2.out (by have := HDV2.out.lt; omega) (by have := HDV2.out.lt; omega))
    have HDV3 := Lib.hid (HDV2.out.below hlit)
    have HV3 := Lib.hid (bstep HV2.out hlit)
    have CD := done_any p g c m (some ⟨v2.heap.size, 0, none⟩) [L.map Stp.put, (places n).map Stp.clr] 2 (v2.alloc (.cells #[.slice B1 ln c1, .slice B2 pn c2] 68)) HDV3.out (by omega) HF.out HROW.out (by simp) (rows2_len (by rw [List.length_map]; have := HLE.out; omega) (Nat.le_trans HPL.out (by omega)))
    rw [show [L.map Stp.put, (places n).map Stp.clr].flatten = L.map Stp.put ++ (places n).map Stp.clr from by simp, HEQ.out] at CD
    have hCD : Hid (Calls Try.prog 32 #[.slice (some ⟨v2.heap.size, 0, none⟩) 2 2] (v2.alloc (.cells #[.slice B1 ln c1, .slice B2 pn c2] 68)) fun e w' => e = .returned (.int .i64 E) ∧ DAt w' p g c M ∧ Keeps (PG p g) (v2.alloc (.cells #[.slice B1 ln c1, .slice B2 pn c2] 68)) w') := Lib.hid (by
      have he := HE.out
      have hm := HM.out
      rw [he, hm]; exact CD)
    clear CD hlit HROW HDV3 HS2 HS1' HDV2 q1 q2 r1 r2
    go_wp2_with fail
    refine hCD.out.mono ?_
    rintro e v4 ⟨rfl, hd4, hk4⟩
    have HD4 := Lib.hid hd4
    have HK4 := Lib.hid ((Keeps.of_below (PG p g) (bstep HB2.out HV3.out)).trans hk4)
    clear hd4 hk4 hCD
    go_wp2
    go_ret
    exact ⟨rfl, HD4.out, HK4.out⟩
  · by_cases hth : there n l
    · obtain ⟨L, hL⟩ : ∃ L : List Ch, L = l := ⟨_, rfl⟩
      rw [if_pos ⟨rfl, hth⟩, ← hL] at hsd
      have HEQ : Hid (runS m (L.map Stp.put ++ (places n).map Stp.clr) = recD n m) := Lib.hid (by rw [← hsd]; exact HST.out)
      have HLE : Hid (L.length ≤ 618) := Lib.hid (by rw [hL]; exact HFEW.out)
      have CWR : Hid (∀ W, (ChsP (Off p g) W X l ∧ p < W.heap.size ∧ g < W.heap.size) → Calls Try.prog 33 #[.pointer (some ⟨p, 0, none⟩), .slice X xn dx] W (RetSteps W p g (L.map Stp.put))) := Lib.hid fun W hW => by rw [hL]; exact CW.out W hW.1 hW.2.1 hW.2.2
      rw [decide_eq_true hth] at CF2
      clear hsd hL HST CW HCN hth b1
      go_wp2_with fail
      refine CF2.out.mono ?_
      rintro e w3 ⟨rfl, hb3⟩
      have HB3 := Lib.hid (bstep HB2.out hb3)
      have HD3 := Lib.hid (HD2.out.below hb3)
      have HZ3 : Hid (ChsP (Off p g) w3 X l ∧ p < w3.heap.size ∧ g < w3.heap.size) := Lib.hid ⟨HCH.out.below hb3, HD3.out.lt⟩
      clear hb3 CF2 HD2 HB2
      go_wp2_with fail
      refine (CWR.out w3 HZ3.out).mono ?_
      rintro e v1 ⟨B1, c1, rfl, q1, q2, q3, hv1⟩
      have HS1 := Lib.hid q3; have HV1 := Lib.hid hv1
      have HDV := Lib.hid (HD3.out.below hv1)
      clear q3 hv1 CWR
      obtain ⟨ln, hln⟩ : ∃ ln, ln = (L.map Stp.put).length := ⟨_, rfl⟩
      have HLN := Lib.hid hln
      rw [← hln] at q1 ⊢
      clear hln
      go_wp2_with fail
      refine (CCL.out v1 HDV.out).mono ?_
      rintro e v2 ⟨B2, c2, rfl, r1, r2, r3, hv2⟩
      have HS2 := Lib.hid r3
      have HV2 := Lib.hid (bstep HV1.out hv2)
      have HS1' := Lib.hid (HS1.out.below hv2)
      have HDV2 := Lib.hid (HDV.out.below hv2)
      clear r3 hv2 CCL HS1 HDV
      obtain ⟨pn, hpn⟩ : ∃ pn, pn = ((places n).map Stp.clr).length := ⟨_, rfl⟩
      have HPN := Lib.hid hpn
      rw [← hpn] at r1 ⊢
      clear hpn
      have hlit := balloc v2 (.cells #[.slice B1 ln c1, .slice B2 pn c2] 68)
      have HROW : Hid (RowsS (v2.alloc (.cells #[.slice B1 ln c1, .slice B2 pn c2] 68)) p g (some ⟨v2.heap.size, 0, none⟩) [L.map Stp.put, (places n).map Stp.clr]) := Lib.hid (rows2 v2 p g B1 B2 _ _ ln c1 pn c2 HLN.out HPN.out q1 q2 r1 r2 HS1'.out HS2.out (by have := HDV2.out.lt; omega) (by have := HDV2.out.lt; omega))
      have HDV3 := Lib.hid (HDV2.out.below hlit)
      have HV3 := Lib.hid (bstep HV2.out hlit)
      have CD := done_any p g c m (some ⟨v2.heap.size, 0, none⟩) [L.map Stp.put, (places n).map Stp.clr] 2 (v2.alloc (.cells #[.slice B1 ln c1, .slice B2 pn c2] 68)) HDV3.out (by omega) HF.out HROW.out (by simp) (rows2_len (by rw [List.length_map]; have := HLE.out; omega) (Nat.le_trans HPL.out (by omega)))
      rw [show [L.map Stp.put, (places n).map Stp.clr].flatten = L.map Stp.put ++ (places n).map Stp.clr from by simp, HEQ.out] at CD
      have hCD : Hid (Calls Try.prog 32 #[.slice (some ⟨v2.heap.size, 0, none⟩) 2 2] (v2.alloc (.cells #[.slice B1 ln c1, .slice B2 pn c2] 68)) fun e w' => e = .returned (.int .i64 E) ∧ DAt w' p g c M ∧ Keeps (PG p g) (v2.alloc (.cells #[.slice B1 ln c1, .slice B2 pn c2] 68)) w') := Lib.hid (by
        have he := HE.out
        have hm := HM.out
        rw [he, hm]; exact CD)
      clear CD hlit HROW HDV3 HS2 HS1' HDV2 q1 q2 r1 r2
      go_wp2_with fail
      refine hCD.out.mono ?_
      rintro e v4 ⟨rfl, hd4, hk4⟩
      have HD4 := Lib.hid hd4
      have HK4 := Lib.hid ((Keeps.of_below (PG p g) (bstep HB3.out HV3.out)).trans hk4)
      clear hd4 hk4 hCD
      go_wp2
      go_ret
      exact ⟨rfl, HD4.out, HK4.out⟩
    · obtain ⟨L, hL⟩ : ∃ L : List Ch, L = [] := ⟨_, rfl⟩
      rw [if_neg (fun h => hth h.2), ← hL] at hsd
      have HEQ : Hid (runS m (L.map Stp.put ++ (places n).map Stp.clr) = recD n m) := Lib.hid (by rw [← hsd]; exact HST.out)
      have HLE : Hid (L.length ≤ 618) := Lib.hid (by rw [hL]; simp)
      have CWR : Hid (∀ W, (p < W.heap.size ∧ g < W.heap.size) → Calls Try.prog 33 #[.pointer (some ⟨p, 0, none⟩), .slice none 0 0] W (RetSteps W p g (L.map Stp.put))) := Lib.hid fun W hW => by rw [hL]; exact HCN.out W hW.1 hW.2
      rw [decide_eq_false hth] at CF2
      clear hsd hL HST CW HCH HCN hth b1
      go_wp2_with fail
      refine CF2.out.mono ?_
      rintro e w3 ⟨rfl, hb3⟩
      have HB3 := Lib.hid (bstep HB2.out hb3)
      have HD3 := Lib.hid (HD2.out.below hb3)
      clear hb3 CF2 HD2 HB2
      go_wp2_with fail
      refine (CWR.out w3 HD3.out.lt).mono ?_
      rintro e v1 ⟨B1, c1, rfl, q1, q2, q3, hv1⟩
      have HS1 := Lib.hid q3; have HV1 := Lib.hid hv1
      have HDV := Lib.hid (HD3.out.below hv1)
      clear q3 hv1 CWR
      obtain ⟨ln, hln⟩ : ∃ ln, ln = (L.map Stp.put).length := ⟨_, rfl⟩
      have HLN := Lib.hid hln
      rw [← hln] at q1 ⊢
      clear hln
      go_wp2_with fail
      refine (CCL.out v1 HDV.out).mono ?_
      rintro e v2 ⟨B2, c2, rfl, r1, r2, r3, hv2⟩
      have HS2 := Lib.hid r3
      have HV2 := Lib.hid (bstep HV1.out hv2)
      have HS1' := Lib.hid (HS1.out.below hv2)
      have HDV2 := Lib.hid (HDV.out.below hv2)
      clear r3 hv2 CCL HS1 HDV
      obtain ⟨pn, hpn⟩ : ∃ pn, pn = ((places n).map Stp.clr).length := ⟨_, rfl⟩
      have HPN := Lib.hid hpn
      rw [← hpn] at r1 ⊢
      clear hpn
      have hlit := balloc v2 (.cells #[.slice B1 ln c1, .slice B2 pn c2] 68)
      have HROW : Hid (RowsS (v2.alloc (.cells #[.slice B1 ln c1, .slice B2 pn c2] 68)) p g (some ⟨v2.heap.size, 0, none⟩) [L.map Stp.put, (places n).map Stp.clr]) := Lib.hid (rows2 v2 p g B1 B2 _ _ ln c1 pn c2 HLN.out HPN.out q1 q2 r1 r2 HS1'.out HS2.out (by have := HDV2.out.lt; omega) (by have := HDV2.out.lt; omega))
      have HDV3 := Lib.hid (HDV2.out.below hlit)
      have HV3 := Lib.hid (bstep HV2.out hlit)
      have CD := done_any p g c m (some ⟨v2.heap.size, 0, none⟩) [L.map Stp.put, (places n).map Stp.clr] 2 (v2.alloc (.cells #[.slice B1 ln c1, .slice B2 pn c2] 68)) HDV3.out (by omega) HF.out HROW.out (by simp) (rows2_len (by rw [List.length_map]; have := HLE.out; omega) (Nat.le_trans HPL.out (by omega)))
      rw [show [L.map Stp.put, (places n).map Stp.clr].flatten = L.map Stp.put ++ (places n).map Stp.clr from by simp, HEQ.out] at CD
      have hCD : Hid (Calls Try.prog 32 #[.slice (some ⟨v2.heap.size, 0, none⟩) 2 2] (v2.alloc (.cells #[.slice B1 ln c1, .slice B2 pn c2] 68)) fun e w' => e = .returned (.int .i64 E) ∧ DAt w' p g c M ∧ Keeps (PG p g) (v2.alloc (.cells #[.slice B1 ln c1, .slice B2 pn c2] 68)) w') := Lib.hid (by
        have he := HE.out
        have hm := HM.out
        rw [he, hm]; exact CD)
      clear CD hlit HROW HDV3 HS2 HS1' HDV2 q1 q2 r1 r2
      go_wp2_with fail
      refine hCD.out.mono ?_
      rintro e v4 ⟨rfl, hd4, hk4⟩
      have HD4 := Lib.hid hd4
      have HK4 := Lib.hid ((Keeps.of_below (PG p g) (bstep HB3.out HV3.out)).trans hk4)
      clear hd4 hk4 hCD
      go_wp2
      go_ret
      exact ⟨rfl, HD4.out, HK4.out⟩
theorem recover_none (tb : Nat) (w : World) : Calls Try.prog 13 #[.pointer (some ⟨tb, 0, none⟩), .pointer none] w fun e w' => e = .returned (.int .i64 15) ∧ w = w' := by
  go_enter Try.func13, Try.ntmps13
  go_wp2
  go_ret
  exact ⟨rfl, rfl⟩
end Go.Proofs.Ytapgpibindhlfaa.Jour

/- package journal: Do -/
set_option maxRecDepth 100000
namespace Go.Proofs.Ytapgpibindhlfaa.Jour
open Go.RowKit DiskM EntM JourM Disk
open Law16 (Fine)

/-- changes, apart from a disk -/
def SP.chs (p g : Nat) (L : List Ch) : Drawn.SP := ⟨fun v w => ∃ B d, v = .slice B L.length d ∧ L.length ≤ d ∧ d ≤ maxLen ∧ ChsP (Off p g) w B L, fun _ _ _ h hb => by
  obtain ⟨B, d, h1, h2, h3, h4⟩ := h
  exact ⟨B, d, h1, h2, h3, h4.below hb⟩⟩
def placedB (l : List Ch) : List Ch := placedL 2 ((put l).drop 1)
def placedH (l : List Ch) : List Ch := placedL 1 ((put l).take 1)
theorem placed_firsts (l : List Ch) : firsts l = placedB l ++ (placedH l ++ l) := by
  have hl := put_len l
  unfold firsts placedB placedH placedL
  rw [List.length_drop, List.length_take, hl, Nat.add_sub_cancel, show min 1 (bodies (text l) + 1) = 1 from by omega]
  congr 1
  refine List.map_congr_left fun i _ => ?_
  unfold bodyW
  rw [List.getD_eq_getElem?_getD, List.getD_eq_getElem?_getD, List.getElem?_drop]
/-- what Do does, whatever lies in the journal -/
def doS (n : Nat) (m : Dk) (l : List Ch) : Dk × Int :=
  if checkV l ≠ 0 then (m, checkV l) else if ¬ there n l then (m, 2) else if l = [] then (m, 0) else ((runS m ((firsts l).map .put ++ (places n).map .clr)).1, if (runS m ((firsts l).map .put ++ (places n).map .clr)).2 = true then 0 else 15)
theorem rows4 (w : World) (p g : Nat) (B1 B2 B3 B4 : Option Addr) (s1 s2 s3 s4 : List Stp) (n1 c1 n2 c2 n3 c3 n4 c4 : Nat) (h1 : n1 = s1.length) (h2 : n2 = s2.length) (h3 : n3 = s3.length) (h4 : n4 = s4.length) (q1 : n1 ≤ c1 ∧ c1 ≤ maxLen) (q2 : n2 ≤ c2 ∧ c2 ≤ maxLen) (q3 : n3 ≤ c3 ∧ c3 ≤ maxLen) (q4 : n4 ≤ c4 ∧ c4 ≤ maxLen)
    (hs1 : StepsAt w p g B1 s1) (hs2 : StepsAt w p g B2 s2) (hs3 : StepsAt w p g B3 s3) (hs4 : StepsAt w p g B4 s4) (hp : p < w.heap.size) (hg : g < w.heap.size) :
    RowsS (w.alloc (.cells #[.slice B1 n1 c1, .slice B2 n2 c2, .slice B3 n3 c3, .slice B4 n4 c4] 68)) p g (some ⟨w.heap.size, 0, none⟩) [s1, s2, s3, s4] := fun i hi => by
  subst h1; subst h2; subst h3; subst h4
  have hb := balloc w (.cells #[.slice B1 s1.length c1, .slice B2 s2.length c2, .slice B3 s3.length c3, .slice B4 s4.length c4] 68)
  match i, hi with
  | 0, _ => exact ⟨w.heap.size, 0, B1, c1, rfl, by simp, q1.1, q1.2, hs1.below hb, by omega, by omega⟩
  | 1, _ => exact ⟨w.heap.size, 0, B2, c2, rfl, by simp, q2.1, q2.2, hs2.below hb, by omega, by omega⟩
  | 2, _ => exact ⟨w.heap.size, 0, B3, c3, rfl, by simp, q3.1, q3.2, hs3.below hb, by omega, by omega⟩
  | 3, _ => exact ⟨w.heap.size, 0, B4, c4, rfl, by simp, q4.1, q4.2, hs4.below hb, by omega, by omega⟩
theorem rows4_len {s1 s2 s3 s4 : List Stp} (h1 : s1.length ≤ 1000000) (h2 : s2.length ≤ 1000000) (h3 : s3.length ≤ 1000000) (h4 : s4.length ≤ 1000000) : ∀ i, (hi : i < [s1, s2, s3, s4].length) → [s1, s2, s3, s4][i].length ≤ 1000000 := fun i hi => by
  match i, hi with
  | 0, _ => exact h1
  | 1, _ => exact h2
  | 2, _ => exact h3
  | 3, _ => exact h4
set_option maxHeartbeats 4000000 in
theorem do_any (tb p g c n : Nat) (m : Dk) (A : Option Addr) (l : List Ch) (cl : Nat) (w : World) (ht : Crc.Tab w tb) (h : DAt w p g c m) (hb : m.b.length = 64 * n) (hn : n ≤ 512) (hf : Fine m) (hl : ChsP (Off p g) w A l) (hll : l.length ≤ 15000) :
    Calls Try.prog 12 #[.pointer (some ⟨tb, 0, none⟩), .pointer (some ⟨p, 0, none⟩), .slice A l.length cl] w fun e w' => e = .returned (.int .i64 (doS n m l).2) ∧ DAt w' p g c (doS n m l).1 ∧ Keeps (PG p g) w w' := by
  have HD := Lib.hid h; have HF := Lib.hid hf; have HL := Lib.hid hl
  have CP := Lib.hid (Entry.put_new tb A l cl w ht hl.chs hll)
  have CF := Lib.hid (fun W (hd : DAt W p g c m) (hl : ChsAt W A l) => fits_any p g c n m A l cl W hd hb hn hl (by omega))
  have CCL := Lib.hid (fun W (hd : DAt W p g c m) => clears_any p g c n m W hd hb hn)
  have hml : m.b.length ≤ 32768 := by omega
  have hp0 := h.lt
  obtain ⟨E, hE⟩ : ∃ E, E = (doS n m l).2 := ⟨_, rfl⟩
  obtain ⟨M, hM⟩ : ∃ M, M = (doS n m l).1 := ⟨_, rfl⟩
  rw [← hE, ← hM]
  by_cases hv : checkV l = 0
  case neg =>
    have hds : doS n m l = (m, checkV l) := if_pos hv
    rw [hds] at hE hM
    have hq : (checkV l != 0) = true := by rw [bne_iff_ne]; exact hv
    simp only at hE hM
    rw [← hE] at CP hq
    subst hM
    clear h ht hf hl hE hv hds CF CCL
    generalize (putV l).length = pn at *
    generalize putV l = P at *
    obtain ⟨ln, hln⟩ : ∃ ln, ln = l.length := ⟨_, rfl⟩
    rw [← hln] at CP ⊢
    clear hln hll
    go_enter Try.func12, Try.ntmps12
    go_wp2_with fail
    refine CP.out.mono ?_
    rintro e w1 ⟨X, d, rfl, -, -, -, hb1⟩
    have HB1 := Lib.hid hb1
    clear hb1 CP
    go_wp2
    go_ret
    exact ⟨rfl, HD.out.below HB1.out, .of_below _ HB1.out⟩
  have hm := (checkV_may l).1 hv
  have hfew := hm.few
  by_cases hth : there n l
  case neg =>
    have hds : doS n m l = (m, 2) := by unfold doS; rw [if_neg (by simpa using hv), if_pos hth]
    rw [hds] at hE hM
    simp only at hE hM
    subst hE; subst hM
    rw [hv] at CP
    rw [decide_eq_false hth] at CF
    clear h ht hf hl hv hds CCL hm hfew hth
    generalize putV l = P at *
    obtain ⟨ln, hln⟩ : ∃ ln, ln = l.length := ⟨_, rfl⟩
    rw [← hln] at CP CF ⊢
    clear hln hll
    go_enter Try.func12, Try.ntmps12
    go_wp2_with fail
    refine CP.out.mono ?_
    rintro e w1 ⟨X, d, rfl, -, -, -, hb1⟩
    have HB1 := Lib.hid hb1
    have C2 := Lib.hid (CF.out w1 (HD.out.below hb1) (HL.out.below hb1).chs)
    clear hb1 CP CF
    generalize P.length = pn at *
    go_wp2_with fail
    refine C2.out.mono ?_
    rintro e w2 ⟨rfl, hb2⟩
    have HB2 := Lib.hid (bstep HB1.out hb2)
    clear hb2 C2
    go_wp2
    go_ret
    exact ⟨rfl, HD.out.below HB2.out, .of_below _ HB2.out⟩
  by_cases hnil : l = []
  case pos =>
    have hds : doS n m l = (m, 0) := by unfold doS; rw [if_neg (by simpa using hv), if_neg (by simpa using hth), if_pos hnil]
    rw [hds] at hE hM
    simp only at hE hM
    subst hE; subst hM
    rw [hv] at CP
    rw [decide_eq_true hth] at CF
    rw [hnil] at CP CF HL ⊢
    rw [List.length_nil] at CP CF ⊢
    clear h ht hf hl hv hds CCL hm hfew hth hnil hll
    generalize putV [] = P at *
    go_enter Try.func12, Try.ntmps12
    go_wp2_with fail
    refine CP.out.mono ?_
    rintro e w1 ⟨X, d, rfl, -, -, -, hb1⟩
    have HB1 := Lib.hid hb1
    have C2 := Lib.hid (CF.out w1 (HD.out.below hb1) (HL.out.below hb1).chs)
    clear hb1 CP CF
    generalize P.length = pn at *
    go_wp2_with fail
    refine C2.out.mono ?_
    rintro e w2 ⟨rfl, hb2⟩
    have HB2 := Lib.hid (bstep HB1.out hb2)
    clear hb2 C2
    go_wp2
    go_ret
    exact ⟨rfl, HD.out.below HB2.out, .of_below _ HB2.out⟩
  have hds : doS n m l = ((runS m ((firsts l).map .put ++ (places n).map .clr)).1, if (runS m ((firsts l).map .put ++ (places n).map .clr)).2 = true then 0 else 15) := by
    unfold doS; rw [if_neg (by simpa using hv), if_neg (by simpa using hth), if_neg hnil]
  rw [hds] at hE hM
  have HE := Lib.hid hE; have HM := Lib.hid hM
  rw [hv, putV_may hm] at CP
  rw [decide_eq_true hth] at CF
  have HPF := Lib.hid (placed_firsts l)
  have hpl := put_len l
  have hbl := JourM.bodies_le hm
  have hb1 : 1 ≤ bodies (text l) := by
    have : 2 ≤ (text l).length := by unfold text; rw [List.length_append, PackM.be_len]; omega
    unfold bodies; omega
  have hlen0 : l.length ≠ 0 := fun e => hnil (List.eq_nil_of_length_eq_zero e)
  have HLB : Hid ((placedB l).length ≤ 32) := Lib.hid (by unfold placedB; rw [placedL_len, List.length_drop]; omega)
  have HLH : Hid ((placedH l).length ≤ 32) := Lib.hid (by unfold placedH; rw [placedL_len, List.length_take]; omega)
  have HPL : Hid (((places n).map Stp.clr).length ≤ 33) := Lib.hid (by rw [List.length_map, places_len]; exact nj_le n)
  have hLBn : (placedB l).length = (put l).length - 1 := by unfold placedB; rw [placedL_len, List.length_drop]
  have hLHn : (placedH l).length = 1 := by unfold placedH; rw [placedL_len, List.length_take]; omega
  have CPH0 := Lib.hid (fun X d W (hX : RowsP (Off p g) W X ((put l).take 1)) hp hg => placed_any p g 1 X ((put l).take 1) d W hX hp hg (by omega) (by rw [List.length_take]; omega))
  have CPB0 := Lib.hid (fun X d W (hX : RowsP (Off p g) W X ((put l).drop 1)) hp hg => placed_any p g 2 X ((put l).drop 1) d W hX hp hg (by omega) (by rw [List.length_drop]; omega))
  rw [show placedL 2 ((put l).drop 1) = placedB l from rfl, List.length_drop] at CPB0
  rw [show placedL 1 ((put l).take 1) = placedH l from rfl, show ((put l).take 1).length = 1 from by rw [List.length_take]; omega] at CPH0
  generalize placedB l = LB at *
  generalize placedH l = LH at *
  generalize put l = P at *
  obtain ⟨tn, htn⟩ : ∃ tn, tn = P.length := ⟨_, rfl⟩
  have htn2 : 2 ≤ tn := by omega
  have htn33 : tn ≤ 33 := by omega
  rw [← htn] at CPB0 hLBn
  have HTN := Lib.hid htn
  obtain ⟨ln, hln⟩ : ∃ ln, ln = l.length := ⟨_, rfl⟩
  have hln0 : ¬ ln = 0 := by omega
  have hln6 : ln ≤ 618 := by omega
  have CW := Lib.hid (fun W (hW : ChsP (Off p g) W A l) hp hg => writes_any p g A l cl W hW hp hg (by omega))
  have HLN6 : Hid ((l.map Stp.put).length ≤ 618) := Lib.hid (by rw [List.length_map]; omega)
  have CWB := Lib.hid (fun W B d (hW : ChsP (Off p g) W B LB) hp hg => writes_any p g B LB d W hW hp hg (by have := HLB.out; omega))
  have CWH := Lib.hid (fun W B d (hW : ChsP (Off p g) W B LH) hp hg => writes_any p g B LH d W hW hp hg (by have := HLH.out; omega))
  rw [hLHn] at CWH
  rw [hLBn] at CWB
  rw [← hln] at CP CF CW ⊢
  have HLBN := Lib.hid hLBn; have HLHN := Lib.hid hLHn
  clear h ht hf hl hv hds hm hfew hth hnil hll hE hM hpl hbl hb1 hlen0 hln htn hLBn hLHn
  go_enter Try.func12, Try.ntmps12
  go_wp2_with fail
  refine CP.out.mono ?_
  rintro e w1 ⟨X, dx, rfl, x1, x2, x3, hb1⟩
  rw [← HTN.out] at x1 ⊢
  have HX0 := Lib.hid (x3.mono (Q := Off p g) fun k _ hk => ⟨by omega, by omega⟩)
  have HB1 := Lib.hid hb1
  have C2 := Lib.hid (CF.out w1 (HD.out.below hb1) (HL.out.below hb1).chs)
  obtain ⟨bx, ox, hXa, -⟩ := x3 0 (by rw [← HTN.out]; omega)
  subst hXa
  clear x3 hb1 CP CF
  go_wp2_with fail
  refine C2.out.mono ?_
  rintro e w2 ⟨rfl, hb2⟩
  have HB2 := Lib.hid (bstep HB1.out hb2)
  have HX2 := Lib.hid (HX0.out.below hb2)
  have HD2 := Lib.hid (HD.out.below HB2.out)
  have hpg2 := HD2.out.lt
  have CPH : Hid (∀ W, Below w2.heap.size w2 W → Calls Try.prog 31 #[.int .i64 1, .slice (some ⟨bx, ox, none⟩) 1 dx] W fun e w' => ∃ B d, e = .returned (.slice B LH.length d) ∧ LH.length ≤ d ∧ d ≤ maxLen ∧ ChsP (Off p g) w' B LH ∧ Below W.heap.size W w') := Lib.hid fun W hb => by
    have hs := hb.size
    rw [HLHN.out]
    exact CPH0.out _ dx W ((HX2.out.below hb).take 1) (by omega) (by omega)
  have CPB : Hid (∀ W, Below w2.heap.size w2 W → Calls Try.prog 31 #[.int .i64 2, .slice (some ⟨bx, ox + 1, none⟩) (tn - 1) (dx - 1)] W fun e w' => ∃ B d, e = .returned (.slice B LB.length d) ∧ LB.length ≤ d ∧ d ≤ maxLen ∧ ChsP (Off p g) w' B LB ∧ Below W.heap.size W w') := Lib.hid fun W hb => by
    have hs := hb.size
    rw [HLBN.out]
    exact CPB0.out _ (dx - 1) W ((HX2.out.below hb).drop 1) (by omega) (by omega)
  have j1 : 1 ≤ tn := by omega
  have j2 : (1 : Int) ≤ (dx : Int) := by omega
  have j5 : (1 : Int) ≤ (tn : Int) := by omega
  have j3 : ¬ dx = 1 := by omega
  have j4 : tn ≤ dx := x1
  clear hb2 C2 CPH0 CPB0 HX0 HX2 HB1 HTN
  go_wp2_with fail
  refine Drawn.wp_region_flowL 8 [Drawn.SP.is (.slice (some ⟨bx, ox, none⟩) tn dx), Drawn.SP.is (.slice (some ⟨bx, ox, none⟩) 1 dx), SP.chs p g LH, Drawn.SP.is (.slice (some ⟨bx, ox, none⟩) tn dx), Drawn.SP.is (.slice (some ⟨bx, ox + 1, none⟩) (tn - 1) (dx - 1)), SP.chs p g LB, SP.chs p g LH, SP.chs p g LB] (by kernel_rfl) (by kernel_rfl) ?_ ?_
  · intro i hi a w3 hb hev hdep
    rcases (show i = 0 ∨ i = 1 ∨ i = 2 ∨ i = 3 ∨ i = 4 ∨ i = 5 ∨ i = 6 ∨ i = 7 by omega) with rfl | rfl | rfl | rfl | rfl | rfl | rfl | rfl
    · have e7 : a.tmps[7]?.getD undef = .slice (some ⟨bx, ox, none⟩) tn dx := hev 7 rfl
      refine Drawn.wpOp_flow 34 rfl rfl rfl ?_
      clear hev hdep hb
      go_simp
      exact ⟨_, rfl, rfl, Below.refl _ _⟩
    · have d0 : a.tmps[34]?.getD undef = .slice (some ⟨bx, ox, none⟩) tn dx := hdep 0 rfl
      refine Drawn.wpOp_flow 35 rfl rfl rfl ?_
      clear hev hdep hb
      go_simp
      exact ⟨_, rfl, rfl, Below.refl _ _⟩
    · have d1 : a.tmps[35]?.getD undef = .slice (some ⟨bx, ox, none⟩) 1 dx := hdep 1 rfl
      refine Drawn.wpOp_flow 36 rfl rfl rfl ?_
      clear hev hdep
      have C := CPH.out w3 hb
      clear hb
      go_simp
      refine C.mono ?_
      rintro e w' ⟨B, d, rfl, q1, q2, q3, hb'⟩
      exact ⟨_, rfl, ⟨B, d, rfl, q1, q2, q3⟩, hb'⟩
    · have e7 : a.tmps[7]?.getD undef = .slice (some ⟨bx, ox, none⟩) tn dx := hev 7 rfl
      refine Drawn.wpOp_flow 37 rfl rfl rfl ?_
      clear hev hdep hb
      go_simp
      exact ⟨_, rfl, rfl, Below.refl _ _⟩
    · have d3 : a.tmps[37]?.getD undef = .slice (some ⟨bx, ox, none⟩) tn dx := hdep 3 rfl
      refine Drawn.wpOp_flow 38 rfl rfl rfl ?_
      clear hev hdep hb
      go_simp
      exact ⟨_, rfl, rfl, Below.refl _ _⟩
    · have d4 : a.tmps[38]?.getD undef = .slice (some ⟨bx, ox + 1, none⟩) (tn - 1) (dx - 1) := hdep 4 rfl
      refine Drawn.wpOp_flow 39 rfl rfl rfl ?_
      clear hev hdep
      have C := CPB.out w3 hb
      clear hb
      go_simp
      refine C.mono ?_
      rintro e w' ⟨B, d, rfl, q1, q2, q3, hb'⟩
      exact ⟨_, rfl, ⟨B, d, rfl, q1, q2, q3⟩, hb'⟩
    · have d2 := hdep 2 rfl
      refine Drawn.wpOp_flow 9 rfl rfl rfl ?_
      clear hev hdep hb
      go_simp
      exact ⟨_, rfl, d2, Below.refl _ _⟩
    · have d5 := hdep 5 rfl
      refine Drawn.wpOp_flow 10 rfl rfl rfl ?_
      clear hev hdep hb
      go_simp
      exact ⟨_, rfl, d5, Below.refl _ _⟩
  · intro xq w3 hb hxq
    have vq0 : xq 0 = .slice (some ⟨bx, ox, none⟩) tn dx := hxq 0 (by omega)
    have vq1 : xq 1 = .slice (some ⟨bx, ox, none⟩) 1 dx := hxq 1 (by omega)
    have vq3 : xq 3 = .slice (some ⟨bx, ox, none⟩) tn dx := hxq 3 (by omega)
    have vq4 : xq 4 = .slice (some ⟨bx, ox + 1, none⟩) (tn - 1) (dx - 1) := hxq 4 (by omega)
    obtain ⟨Bvq6, dvq6, vq6, hvq6, kvq6, qvq6⟩ : (SP.chs p g LH).p (xq 6) w3 := hxq 6 (by omega)
    obtain ⟨Bvq7, dvq7, vq7, hvq7, kvq7, qvq7⟩ : (SP.chs p g LB).p (xq 7) w3 := hxq 7 (by omega)
    show Exit.then _ _ Exit.normal (Drawn.acts _ [(10, some (xq 7)), (9, some (xq 6)), (39, some (xq 5)), (38, some (xq 4)), (37, some (xq 3)), (36, some (xq 2)), (35, some (xq 1)), (34, some (xq 0))]) _
    rw [vq0, vq1, vq3, vq4, vq6, vq7]
    clear hxq vq0 vq1 vq3 vq4 vq6 vq7
    generalize xq 2 = yq2
    generalize xq 5 = yq5
    clear xq
    simp only [Drawn.acts]
    go_simp
    have HBB := Lib.hid qvq7; have HBH := Lib.hid qvq6
    have HB3 := Lib.hid (bstep HB2.out hb)
    have HD3 := Lib.hid (HD2.out.below hb)
    rw [HLBN.out] at hvq7 ⊢
    rw [HLHN.out] at hvq6 ⊢
    clear qvq6 qvq7 hb CPH CPB HD2 HB2 hpg2 j1 j2 j3 j4 j5 x1 x2
    go_wp2_with fail
    refine (CWB.out w3 Bvq7 dvq7 HBB.out HD3.out.lt.1 HD3.out.lt.2).mono ?_
    rintro e v1 ⟨B1, c1, rfl, q1, q1', q1s, hv1⟩
    have HS1 := Lib.hid q1s
    have HV1 := Lib.hid (bstep HB3.out hv1)
    have HDV1 := Lib.hid (HD3.out.below hv1)
    have HBH1 := Lib.hid (HBH.out.below hv1)
    clear q1s hv1 CWB HBB HBH HD3 HB3
    obtain ⟨n1, hn1⟩ : ∃ n1, n1 = (LB.map Stp.put).length := ⟨_, rfl⟩
    have HN1 := Lib.hid hn1
    rw [← hn1] at q1 ⊢
    clear hn1
    go_wp2_with fail
    refine (CWH.out v1 Bvq6 dvq6 HBH1.out HDV1.out.lt.1 HDV1.out.lt.2).mono ?_
    rintro e v2 ⟨B2, c2, rfl, q2, q2', q2s, hv2⟩
    have HS2 := Lib.hid q2s
    have HS1b := Lib.hid (HS1.out.below hv2)
    have HV2 := Lib.hid (bstep HV1.out hv2)
    have HDV2 := Lib.hid (HDV1.out.below hv2)
    have HL2 := Lib.hid (HL.out.below HV2.out)
    clear q2s hv2 CWH HBH1 HDV1 HV1 HS1
    obtain ⟨n2, hn2⟩ : ∃ n2, n2 = (LH.map Stp.put).length := ⟨_, rfl⟩
    have HN2 := Lib.hid hn2
    rw [← hn2] at q2 ⊢
    clear hn2
    go_wp2_with fail
    refine (CW.out v2 HL2.out HDV2.out.lt.1 HDV2.out.lt.2).mono ?_
    rintro e v3 ⟨B3, c3, rfl, q3, q3', q3s, hv3⟩
    have HS3 := Lib.hid q3s
    have HS2b := Lib.hid (HS2.out.below hv3)
    have HS1c := Lib.hid (HS1b.out.below hv3)
    have HV3 := Lib.hid (bstep HV2.out hv3)
    have HDV3 := Lib.hid (HDV2.out.below hv3)
    clear q3s hv3 CW HL2 HDV2 HV2 HS2 HS1b
    obtain ⟨n3, hn3⟩ : ∃ n3, n3 = (l.map Stp.put).length := ⟨_, rfl⟩
    have HN3 := Lib.hid hn3
    rw [← hn3] at q3 ⊢
    clear hn3
    go_wp2_with fail
    refine (CCL.out v3 HDV3.out).mono ?_
    rintro e v4 ⟨B4, c4, rfl, q4, q4', q4s, hv4⟩
    have HS4 := Lib.hid q4s
    have HS3b := Lib.hid (HS3.out.below hv4)
    have HS2c := Lib.hid (HS2b.out.below hv4)
    have HS1d := Lib.hid (HS1c.out.below hv4)
    have HV4 := Lib.hid (bstep HV3.out hv4)
    have HDV4 := Lib.hid (HDV3.out.below hv4)
    clear q4s hv4 CCL HDV3 HV3 HS3 HS2b HS1c
    obtain ⟨n4, hn4⟩ : ∃ n4, n4 = ((places n).map Stp.clr).length := ⟨_, rfl⟩
    have HN4 := Lib.hid hn4
    rw [← hn4] at q4 ⊢
    clear hn4
    have hlit := balloc v4 (.cells #[.slice B1 n1 c1, .slice B2 n2 c2, .slice B3 n3 c3, .slice B4 n4 c4] 68)
    have hROW := rows4 v4 p g B1 B2 B3 B4 _ _ _ _ n1 c1 n2 c2 n3 c3 n4 c4 HN1.out HN2.out HN3.out HN4.out ⟨q1, q1'⟩ ⟨q2, q2'⟩ ⟨q3, q3'⟩ ⟨q4, q4'⟩ HS1d.out HS2c.out HS3b.out HS4.out HDV4.out.lt.1 HDV4.out.lt.2
    have HDV5 := Lib.hid (HDV4.out.below hlit)
    have HV5 := Lib.hid (bstep HV4.out hlit)
    have CD := done_any p g c m (some ⟨v4.heap.size, 0, none⟩) _ 4 (v4.alloc (.cells #[.slice B1 n1 c1, .slice B2 n2 c2, .slice B3 n3 c3, .slice B4 n4 c4] 68)) HDV5.out hml HF.out hROW (by simp) (rows4_len (by rw [List.length_map]; have := HLB.out; omega) (by rw [List.length_map]; have := HLH.out; omega) (Nat.le_trans HLN6.out (by omega)) (Nat.le_trans HPL.out (by omega)))
    rw [show [LB.map Stp.put, LH.map Stp.put, l.map Stp.put, (places n).map Stp.clr].flatten = (firsts l).map Stp.put ++ (places n).map Stp.clr from by rw [HPF.out]; simp] at CD
    have hCD : Hid (Calls Try.prog 32 #[.slice (some ⟨v4.heap.size, 0, none⟩) 4 4] (v4.alloc (.cells #[.slice B1 n1 c1, .slice B2 n2 c2, .slice B3 n3 c3, .slice B4 n4 c4] 68)) fun e w' => e = .returned (.int .i64 E) ∧ DAt w' p g c M ∧ Keeps (PG p g) (v4.alloc (.cells #[.slice B1 n1 c1, .slice B2 n2 c2, .slice B3 n3 c3, .slice B4 n4 c4] 68)) w') := Lib.hid (by
      have he := HE.out
      have hm := HM.out
      try simp only at he hm
      rw [he, hm]; exact CD)
    clear CD hlit hROW HDV5 HS1d HS2c HS3b HS4 HDV4 HV4 q1 q1' q2 q2' q3 q3' q4 q4'
    go_wp2_with fail
    refine hCD.out.mono ?_
    rintro e v6 ⟨rfl, hd6, hk6⟩
    have HD6 := Lib.hid hd6
    have HK6 := Lib.hid ((Keeps.of_below (PG p g) HV5.out).trans hk6)
    clear hd6 hk6 hCD
    go_wp2
    go_ret
    exact ⟨rfl, HD6.out, HK6.out⟩
end Go.Proofs.Ytapgpibindhlfaa.Jour
