/- the walk of DiskPlays -/
import Derived.Test.YteiemkaeeghhhaaLaw16B
import Derived.Test.YteiemkaeeghhhaaR16B
import Derived.Test.YteiemkaeeghhhaaKnown
import Derived.Test.YteiemkaeeghhhaaFlow
set_option maxRecDepth 100000
namespace Go.Proofs.Yteiemkaeeghhhaa.Law16
open Go.RowKit DiskM Disk

/-- as the document tells it: below 0 power is for ever -/
def nrm (m : Dk) : Dk := ⟨m.b, if m.left < 0 then -1 else m.left, m.dead⟩
theorem nrm_off {m : Dk} : (nrm m).off = m.off := by
  unfold Dk.off nrm
  show (decide ((if m.left < 0 then -1 else m.left) = 0) || m.dead) = (decide (m.left = 0) || m.dead)
  congr 1
  rw [decide_eq_decide]
  split <;> omega
theorem nrm_write (m : Dk) (i : Int) (d : List UInt8) : (nrm m).write i d = (nrm (m.write i d).1, (m.write i d).2) := by
  have hm : (nrm m).may i d = m.may i d := rfl
  unfold Dk.write
  rw [hm, nrm_off]
  split
  · split
    · rfl
    · show (⟨setS m.b i.toNat (full d), if 0 < (if m.left < 0 then -1 else m.left) then (if m.left < 0 then -1 else m.left) - 1 else (if m.left < 0 then -1 else m.left), false⟩, true) = (nrm ⟨setS m.b i.toNat (full d), if 0 < m.left then m.left - 1 else m.left, false⟩, true)
      unfold nrm
      have e : (if 0 < (if m.left < 0 then (-1 : Int) else m.left) then (if m.left < 0 then (-1 : Int) else m.left) - 1 else (if m.left < 0 then (-1 : Int) else m.left)) = if (if 0 < m.left then m.left - 1 else m.left) < 0 then -1 else (if 0 < m.left then m.left - 1 else m.left) := by
        repeat' split
        all_goals omega
      rw [e]
  · rfl
theorem nrm_power (m : Dk) (n : Int) : (nrm m).power n = nrm ⟨m.b, n, false⟩ := rfl
theorem nrm_rot (m : Dk) (i bit : Int) (mask : Nat) : (nrm m).rot i bit mask = (nrm (m.rot i bit mask).1, (m.rot i bit mask).2) := by
  unfold Dk.rot
  show (if isS m.b i && decide (0 ≤ bit) then _ else _) = _
  split
  · rfl
  · rfl
theorem nrm_range {m : Dk} (h : Fine m) : -9223372036854775808 ≤ (nrm m).left ∧ (nrm m).left ≤ 9223372036854775807 := by
  have := h.2
  show _ ≤ (if m.left < 0 then -1 else m.left) ∧ (if m.left < 0 then -1 else m.left) ≤ _
  split <;> omega
theorem ActLies.keep {F : Nat → Prop} {w w' : World} {t o : Nat} {B : Option Addr} {c : Nat} {a : Act16} (h : ActLies w t o B c a) (q : Keeps F w w') (ht : ¬ F t) (hB : 0 < a.b.length → ∀ x, B = some x → ¬ F x.block) : ActLies w' t o B c a :=
  ⟨q.cell h.c0 ht, q.cell h.c1 ht, q.cell h.c2 ht, q.cell h.c3 ht, q.cell h.c4 ht, h.h1, h.h2, q.bytes' h.bytes hB, h.i0, h.i1, h.i2, h.i3⟩
/-- two disks, whose calls come up in any order: x the one's, y the other's -/
structure Two (w0 : World) (p1 g1 c1 p2 g2 c2 t : Nat) (B : Option Addr) (c : Nat) (a : Act16) (m m' n n' : Dk) (x y : Nat) (f : Nat → Bool) (w : World) : Prop where
  below : Below w0.heap.size w0 w
  act : ActLies w t 0 B c a
  d1 : f x = true → DAt w p1 g1 c1 m'
  d10 : f x = false → DAt w p1 g1 c1 m
  d2 : f y = true → DAt w p2 g2 c2 n'
  d20 : f y = false → DAt w p2 g2 c2 n
/-- what is apart -/
structure Far (w0 : World) (p1 g1 p2 g2 t : Nat) (B : Option Addr) (a : Act16) : Prop where
  a1 : p1 ≠ p2
  a2 : p1 ≠ g2
  a3 : g1 ≠ p2
  a4 : g1 ≠ g2
  t1 : t ≠ p1
  t2 : t ≠ g1
  t3 : t ≠ p2
  t4 : t ≠ g2
  b1 : 0 < a.b.length → ∀ x, B = some x → x.block ≠ p1 ∧ x.block ≠ g1 ∧ x.block ≠ p2 ∧ x.block ≠ g2
  l1 : w0.heap.size ≤ p1
  l2 : w0.heap.size ≤ g1
  l3 : w0.heap.size ≤ p2
  l4 : w0.heap.size ≤ g2
section
variable {w0 w w' : World} {p1 g1 c1 p2 g2 c2 t c x y : Nat} {B : Option Addr} {a : Act16} {m m' n n' : Dk} {f : Nat → Bool}
theorem Two.start (hx : f x = false) (hy : f y = false) (hb : Below w0.heap.size w0 w) (ha : ActLies w t 0 B c a) (h1 : DAt w p1 g1 c1 m) (h2 : DAt w p2 g2 c2 n) : Two w0 p1 g1 c1 p2 g2 c2 t B c a m m' n n' x y f w.drew :=
  ⟨hb.trans (bdraw w 1 |>.mono hb.size), ha.below (bdraw w 1), (fun e => by rw [hx] at e; cases e), fun _ => h1.below (bdraw w 1), (fun e => by rw [hy] at e; cases e), fun _ => h2.below (bdraw w 1)⟩
theorem upd_other {i j : Nat} (h : i ≠ j) : Drawn.upd f i j = f j := by
  unfold Drawn.upd
  have : Nat.beq j i = false := by rw [← Bool.not_eq_true, Nat.beq_eq]; exact fun e => h e.symm
  rw [this, Bool.or_false]
theorem upd_self {i : Nat} : Drawn.upd f i i = true := by
  unfold Drawn.upd
  have : Nat.beq i i = true := by rw [Nat.beq_eq]
  rw [this, Bool.or_true]
theorem Two.skip {i : Nat} (h : Two w0 p1 g1 c1 p2 g2 c2 t B c a m m' n n' x y f w) (hx : i ≠ x) (hy : i ≠ y) : Two w0 p1 g1 c1 p2 g2 c2 t B c a m m' n n' x y (Drawn.upd f i) w :=
  ⟨h.below, h.act, (fun e => h.d1 (by rwa [upd_other hx] at e)), (fun e => h.d10 (by rwa [upd_other hx] at e)), (fun e => h.d2 (by rwa [upd_other hy] at e)), (fun e => h.d20 (by rwa [upd_other hy] at e))⟩
theorem Two.d1go (h : Two w0 p1 g1 c1 p2 g2 c2 t B c a m m' n n' x y f w) (hd : DAt w' p1 g1 c1 m') (q : Keeps (PG p1 g1) w w') (hF : Far w0 p1 g1 p2 g2 t B a) (hxy : x ≠ y) : Two w0 p1 g1 c1 p2 g2 c2 t B c a m m' n n' x y (Drawn.upd f x) w' := by
  have k2 : ∀ {u}, DAt w p2 g2 c2 u → DAt w' p2 g2 c2 u := fun h => keep_far q h (fun e => hF.a1 e.symm) (fun e => hF.a3 e.symm) (fun e => hF.a2 e.symm) (fun e => hF.a4 e.symm)
  refine ⟨own_keep h.below q hF.l1 hF.l2, ActLies.keep h.act q (fun e => by rcases e with e | e; exact hF.t1 e; exact hF.t2 e) (fun h0 z e => fun e2 => by have := hF.b1 h0 z e; rcases e2 with e2 | e2; exact this.1 e2; exact this.2.1 e2), fun _ => hd, (fun e => by rw [upd_self] at e; cases e), (fun e => k2 (h.d2 (by rwa [upd_other hxy] at e))), (fun e => k2 (h.d20 (by rwa [upd_other hxy] at e)))⟩
theorem Two.d2go (h : Two w0 p1 g1 c1 p2 g2 c2 t B c a m m' n n' x y f w) (hd : DAt w' p2 g2 c2 n') (q : Keeps (PG p2 g2) w w') (hF : Far w0 p1 g1 p2 g2 t B a) (hxy : x ≠ y) : Two w0 p1 g1 c1 p2 g2 c2 t B c a m m' n n' x y (Drawn.upd f y) w' := by
  have k1 : ∀ {u}, DAt w p1 g1 c1 u → DAt w' p1 g1 c1 u := fun h => keep_far q h hF.a1 hF.a2 hF.a3 hF.a4
  refine ⟨own_keep h.below q hF.l3 hF.l4, ActLies.keep h.act q (fun e => by rcases e with e | e; exact hF.t3 e; exact hF.t4 e) (fun h0 z e => fun e2 => by have := hF.b1 h0 z e; rcases e2 with e2 | e2; exact this.2.2.1 e2; exact this.2.2.2 e2), (fun e => k1 (h.d1 (by rwa [upd_other (fun e => hxy e.symm)] at e))), (fun e => k1 (h.d10 (by rwa [upd_other (fun e => hxy e.symm)] at e))), fun _ => hd, (fun e => by rw [upd_self] at e; cases e)⟩
end
/-- the document's disk has other bytes, all 0, of its own -/
theorem rebased {w : World} {p g c : Nat} {m : Dk} (h : DAt w p g c m) (n : Nat) (hn : n ≤ 32768) :
    DAt ((w.setCell ⟨p, 0, none⟩ (.slice (some ⟨w.heap.size, 0, none⟩) n n)).alloc (.cells (cells (List.replicate n 0)) 5)) p w.heap.size n ⟨SecM.noughts n, m.left, m.dead⟩ ∧
      Keeps (fun k => k = p) w ((w.setCell ⟨p, 0, none⟩ (.slice (some ⟨w.heap.size, 0, none⟩) n n)).alloc (.cells (cells (List.replicate n 0)) 5)) := by
  have hlt := h.lt.1
  have hl : (SecM.noughts n).length = n := SecM.noughts_len n
  have hk : Keeps (fun k => k = p) w (w.setCell ⟨p, 0, none⟩ (.slice (some ⟨w.heap.size, 0, none⟩) n n)) := .set _ _ _ _ rfl
  have hsz : (w.setCell ⟨p, 0, none⟩ (.slice (some ⟨w.heap.size, 0, none⟩) n n)).heap.size = w.heap.size := by simp [World.setCell]
  have c0 : (w.setCell ⟨p, 0, none⟩ (.slice (some ⟨w.heap.size, 0, none⟩) n n)).cell? ⟨p, 0, none⟩ = some (.slice (some ⟨w.heap.size, 0, none⟩) n n) := by rw [cell_store h.c0]; rfl
  have c1 : (w.setCell ⟨p, 0, none⟩ (.slice (some ⟨w.heap.size, 0, none⟩) n n)).cell? ⟨p, 1, none⟩ = some (.int .i64 m.left) := by rw [cell_store h.c1]; rfl
  have c2 : (w.setCell ⟨p, 0, none⟩ (.slice (some ⟨w.heap.size, 0, none⟩) n n)).cell? ⟨p, 2, none⟩ = some (.bool m.dead) := by rw [cell_store h.c2]; rfl
  have f0 : (w.setCell ⟨p, 0, none⟩ (.slice (some ⟨w.heap.size, 0, none⟩) n n)).frozen? ⟨p, 0, none⟩ = false := by rw [World.frozen?_setCell]; exact h.f0
  have f1 : (w.setCell ⟨p, 0, none⟩ (.slice (some ⟨w.heap.size, 0, none⟩) n n)).frozen? ⟨p, 1, none⟩ = false := by rw [World.frozen?_setCell]; exact h.f1
  have f2 : (w.setCell ⟨p, 0, none⟩ (.slice (some ⟨w.heap.size, 0, none⟩) n n)).frozen? ⟨p, 2, none⟩ = false := by rw [World.frozen?_setCell]; exact h.f2
  have ho := Own.make (w.setCell ⟨p, 0, none⟩ (.slice (some ⟨w.heap.size, 0, none⟩) n n)) n (by unfold maxLen; omega)
  rw [hsz] at ho
  generalize w.setCell ⟨p, 0, none⟩ (.slice (some ⟨w.heap.size, 0, none⟩) n n) = w1 at *
  have hb := balloc w1 (.cells (cells (List.replicate n 0)) 5)
  have k := Keeps.of_below (fun _ => False) hb
  refine ⟨⟨?_, k.cell c1 id, k.cell c2 id, k.frozen c0 id f0, k.frozen c1 id f1, k.frozen c2 id f2, ?_, by omega⟩, hk.trans (.of_below _ hb)⟩
  · show World.cell? _ _ = some (Value.slice (some ⟨w.heap.size, 0, none⟩) (SecM.noughts n).length n)
    rw [hl]; exact k.cell c0 id
  · show Own _ 0 (.slice (some ⟨w.heap.size, 0, none⟩) (SecM.noughts n).length n) (SecM.noughts n)
    rw [hl]; exact ho
theorem new_len (n : Int) : (new_ n).b.length = 64 * size n := by unfold new_; exact SecM.noughts_len _

set_option maxHeartbeats 8000000 in
theorem plays_any (n : Int) (A : Option Addr) (l : List Act16) (cl : Nat) (w : World) (hn : -9223372036854775808 ≤ n ∧ n ≤ 9223372036854775807) (h : ActsAt16 w A l) (hlc : l.length ≤ cl) (hcm : cl ≤ maxLen) :
    Calls Try.prog 3 #[.int .i64 n, .slice A l.length cl] w fun e w' => e = .returned (.bool true) ∧ Below w.heap.size w w' := by
  have hll : l.length ≤ 9223372036854775807 := by unfold maxLen at hcm; omega
  have HLi := Lib.hid (light_any A l cl w h hll)
  rcases hlight : lightB l with _ | _
  · rw [hlight] at HLi
    clear h
    go_enter Try.func3, Try.ntmps3
    go_wp2_with fail
    refine HLi.out.mono ?_
    rintro e w1 ⟨rfl, hb1⟩
    go_wp2_with fail
    refine (alive_any w1).mono ?_
    rintro e w2 ⟨rfl, hb2⟩
    go_wp2
    go_ret
    exact ⟨rfl, bstep hb1 hb2⟩
  rw [hlight] at HLi
  by_cases hn40 : 40 < n
  · clear h
    go_enter Try.func3, Try.ntmps3
    go_wp2_with fail
    refine HLi.out.mono ?_
    rintro e w1 ⟨rfl, hb1⟩
    go_wp2_with fail
    refine (alive_any w1).mono ?_
    rintro e w2 ⟨rfl, hb2⟩
    go_wp2
    go_ret
    exact ⟨rfl, bstep hb1 hb2⟩
  obtain ⟨hl100, hl60⟩ := (lightB_iff l).1 hlight
  have HL100 := Lib.hid hl100
  have hsz := size_range n
  have hnl := new_len n
  have HN1 := Lib.hid (fun W => new_any n W hn)
  have HN2 := Lib.hid (fun W => R16.new_any n W hn)
  have hnrm : nrm (new_ n) = new_ n := rfl
  have hfin : Fine (new_ n) := ⟨(fun e => nomatch e), by show _ ≤ (-1 : Int); omega, by show (-1 : Int) ≤ _; omega⟩
  generalize size n = sz at *
  generalize new_ n = m0 at *
  have HSZ := Lib.hid hsz; have HNL := Lib.hid hnl; have HNR := Lib.hid hnrm; have HFI0 := Lib.hid hfin
  have HA := Lib.hid h
  clear h hlight hl100 hnl hnrm hfin hsz
  go_enter Try.func3, Try.ntmps3
  go_wp2_with fail
  refine HLi.out.mono ?_
  rintro e w1 ⟨rfl, hb1⟩
  have HB1 := Lib.hid hb1
  clear HLi hb1
  go_wp2_with fail
  refine (HN1.out w1).mono ?_
  rintro e w2 ⟨p1, g1, c1, rfl, d2, hp1, hg1, hb2⟩
  have D2 := Lib.hid d2; have HB2 := Lib.hid (bstep HB1.out hb2)
  have hs1 := HB1.out.size
  have hF1 : Hid (w.heap.size ≤ p1 ∧ w.heap.size ≤ g1 ∧ p1 < w2.heap.size ∧ g1 < w2.heap.size) := Lib.hid (by have := d2.lt; omega)
  clear d2 hb2 hp1 hg1 hs1 HB1 HN1
  go_wp2_with fail
  refine (HN2.out w2).mono ?_
  rintro e w3 ⟨p2, g2, c2, rfl, d3, hp2, hg2, hb3⟩
  have hs2 := HB2.out.size
  have D3 := Lib.hid (D2.out.below hb3)
  have E3 : Hid (DAt w3 p2 g2 c2 (nrm m0)) := Lib.hid (by rw [HNR.out]; exact d3)
  have HB3 := Lib.hid (bstep HB2.out hb3)
  have hF : Hid (p1 ≠ p2 ∧ g1 ≠ p2 ∧ w.heap.size ≤ p1 ∧ w.heap.size ≤ g1 ∧ w.heap.size ≤ p2) := Lib.hid (by have := hF1.out; omega)
  have hG : Hid (g2 ≠ p1 ∧ g2 ≠ g1 ∧ w.heap.size ≤ g2) := Lib.hid (by have := hF1.out; omega)
  clear d3 hp2 hg2 hb3 D2 HB2 HN2 hF1 hs2
  go_wp2_with fail
  go_loopw [23] (fun iv wr => ∃ (k : Nat) (m : Dk) (g2 c2 : Nat), k ≤ l.length ∧ iv = .int .i64 (k : Nat) ∧ Fine m ∧ m.b.length = 64 * sz ∧ DAt wr p1 g1 c1 m ∧ DAt wr p2 g2 c2 (nrm m) ∧ (g2 ≠ p1 ∧ g2 ≠ g1 ∧ w.heap.size ≤ g2) ∧ Below w.heap.size w wr)
    (fun iv _ => l.length - (intOf iv).toNat)
  case atStart => exact ⟨0, m0, g2, c2, Nat.zero_le _, rfl, HFI0.out, HNL.out, D3.out, E3.out, hG.out, HB3.out⟩
  case round =>
    clear D3 E3 HB3 hG HNR
    obtain ⟨k, m, g2, c2, hk, rfl, hfi, hml, hd1, hd2, hg, hb⟩ := hrel
    rename World => wr
    have HD1 := Lib.hid hd1; have HD2 := Lib.hid hd2; have HB := Lib.hid hb; have HFI := Lib.hid hfi; have HML := Lib.hid hml; have HG := Lib.hid hg
    clear hd1 hd2 hb hfi hml hg
    by_cases hlt : k < l.length
    · obtain ⟨b', o, BA, cb, hA, hact⟩ := HA.out k hlt
      subst hA
      have hact' := hact.below HB.out
      have e0 := hact'.c0; have e1 := hact'.c1; have e2 := hact'.c2; have e3 := hact'.c3; have e4 := hact'.c4
      have h100 := HL100.out k hlt
      have HACT0 := Lib.hid hact
      have hak := hact.i0
      have hai := hact.i1
      have han := hact.i2
      have ham := hact.i3
      unfold i64In at hak hai han
      clear hact hact'
      generalize l[k] = a at *
      obtain ⟨kind, at_, an, mask, ab⟩ := a
      simp only at e0 e1 e2 e3 e4 h100 hak hai han ham
      have hwsz := HB.out.size
      have HBW : Hid (Below w.heap.size w (wr.alloc (.cells #[.int .i64 kind, .int .i64 at_, .int .i64 an, .int .u32 (mask : Nat), .slice BA ab.length cb] 32))) := Lib.hid (HB.out.alloc hwsz _)
      have hbl5 := balloc wr (.cells #[.int .i64 kind, .int .i64 at_, .int .i64 an, .int .u32 (mask : Nat), .slice BA ab.length cb] 32)
      have hact5 : ActLies (wr.alloc (.cells #[.int .i64 kind, .int .i64 at_, .int .i64 an, .int .u32 (mask : Nat), .slice BA ab.length cb] 32)) wr.heap.size 0 BA cb ⟨kind, at_, an, mask, ab⟩ :=
        ⟨by simp, by simp, by simp, by simp, by simp, HACT0.out.h1, HACT0.out.h2, HACT0.out.bytes.below HBW.out, HACT0.out.i0, HACT0.out.i1, HACT0.out.i2, HACT0.out.i3⟩
      have hfar : Far w p1 g1 p2 g2 wr.heap.size BA ⟨kind, at_, an, mask, ab⟩ := by
        have f1 := hF.out; have f2 := HG.out; have f3 := HD1.out.lt; have f4 := HD2.out.lt
        refine ⟨f1.1, fun e => f2.1 e.symm, f1.2.1, fun e => f2.2.1 e.symm, by omega, by omega, by omega, by omega, fun h0 x e => ?_, f1.2.2.1, f1.2.2.2.1, f1.2.2.2.2, f2.2.2⟩
        have := HACT0.out.bytes.lt h0 x e
        omega
      have HFAR := Lib.hid hfar
      have HACT := Lib.hid hact5
      have HD1 := Lib.hid (HD1.out.below hbl5)
      have HD2 := Lib.hid (HD2.out.below hbl5)
      have HBA := HBW
      clear hact5 hfar hbl5 HBW HACT0 HB
      have step0 : ∀ r : Bool, (r != r) = false := fun r => by cases r <;> rfl
      by_cases hk0 : kind = 0
      · have q0 : (kind == 0) = true := by rw [hk0]; rfl
        obtain ⟨m2, hm2⟩ : ∃ m2, m2 = (m.write at_ ab).1 := ⟨_, rfl⟩
        obtain ⟨r, hr⟩ : ∃ r, r = (m.write at_ ab).2 := ⟨_, rfl⟩
        have HFI2 : Hid (Fine m2) := Lib.hid (by rw [hm2]; exact HFI.out.write _ _)
        have HML2 : Hid (m2.b.length = 64 * sz) := Lib.hid (by rw [hm2, write_len, HML.out])
        have hl0 : m.b.length ≤ 32768 := by rw [HML.out]; have := HSZ.out; omega
        have hCW : Hid (∀ W, DAt W p1 g1 c1 m → BytesAt W BA ab → Calls Try.prog 10 #[.pointer (some ⟨p1, 0, none⟩), .int .i64 at_, .slice BA ab.length cb] W fun e w' => e = .returned (.bool r) ∧ DAt w' p1 g1 c1 m2 ∧ Keeps (PG p1 g1) W w') := Lib.hid (fun W hd hW => by
          rw [hm2, hr]
          exact write_any p1 g1 c1 m at_ BA ab cb W hd hl0 HFI.out.1 HFI.out.2 hai hW (fun h0 x e => (HFAR.out.b1 h0 x e).1) (by unfold maxLen; omega))
        have hCR : Hid (∀ W, DAt W p2 g2 c2 (nrm m) → BytesAt W BA ab → Calls Try.prog 11 #[.pointer (some ⟨p2, 0, none⟩), .int .i64 at_, .slice BA ab.length cb] W fun e w' => e = .returned (.bool r) ∧ DAt w' p2 g2 c2 (nrm m2) ∧ Keeps (PG p2 g2) W w') := Lib.hid (fun W hd hW => by
          have := R16.write_any p2 g2 c2 (nrm m) at_ BA ab cb W hd hl0 (nrm_range HFI.out) hW (fun h0 x e => ⟨(HFAR.out.b1 h0 x e).2.2.1, (HFAR.out.b1 h0 x e).2.2.2⟩) (by unfold maxLen; omega)
          rw [nrm_write] at this
          rw [hm2, hr]
          exact this)
        clear hm2 hr hl0 hk0
        go_wp2_with fail
        obtain ⟨t8, ht8⟩ : ∃ t8, t8 = wr.heap.size := ⟨_, rfl⟩
        rw [← ht8] at HACT HFAR ⊢
        clear ht8
        refine Drawn.wp_region_known 13 [.pointer (some ⟨p1, 0, none⟩), .pointer (some ⟨t8, 1, none⟩), .int .i64 at_, .pointer (some ⟨t8, 4, none⟩), .slice BA ab.length cb, .bool r, .pointer (some ⟨p2, 0, none⟩), .pointer (some ⟨t8, 1, none⟩), .int .i64 at_, .pointer (some ⟨t8, 4, none⟩), .slice BA ab.length cb, .bool r, .bool false] (Two w p1 g1 c1 p2 g2 c2 t8 BA cb ⟨kind, at_, an, mask, ab⟩ m m2 (nrm m) (nrm m2) 5 11) (by kernel_rfl) (by kernel_rfl) ?_ ?_ ?_
        · exact fun f hf => Two.start (hf 5 (by omega)) (hf 11 (by omega)) HBA.out HACT.out HD1.out HD2.out
        · intro i hi f a w5 hf hI hev hdep
          rcases (show i = 0 ∨ i = 1 ∨ i = 2 ∨ i = 3 ∨ i = 4 ∨ i = 5 ∨ i = 6 ∨ i = 7 ∨ i = 8 ∨ i = 9 ∨ i = 10 ∨ i = 11 ∨ i = 12 by omega) with rfl | rfl | rfl | rfl | rfl | rfl | rfl | rfl | rfl | rfl | rfl | rfl | rfl
          · have e5 : a.tmps[5]?.getD undef = .pointer (some ⟨p1, 0, none⟩) := hev 5 rfl
            refine Drawn.wpOp_known ((Two w p1 g1 c1 p2 g2 c2 t8 BA cb ⟨kind, at_, an, mask, ab⟩ m m2 (nrm m) (nrm m2) 5 11) (Drawn.upd f 0)) (v := .pointer (some ⟨p1, 0, none⟩)) 41 rfl rfl rfl ?_
            have HK := Lib.hid (hI.skip (i := 0) (by decide) (by decide))
            clear hev hdep hI hf
            go_simp
            first | exact HK.out | exact ⟨rfl, HK.out⟩
          · have e8 : a.tmps[8]?.getD undef = .pointer (some ⟨t8, 0, none⟩) := hev 8 rfl
            refine Drawn.wpOp_known ((Two w p1 g1 c1 p2 g2 c2 t8 BA cb ⟨kind, at_, an, mask, ab⟩ m m2 (nrm m) (nrm m2) 5 11) (Drawn.upd f 1)) (v := .pointer (some ⟨t8, 1, none⟩)) 42 rfl rfl rfl ?_
            have HK := Lib.hid (hI.skip (i := 1) (by decide) (by decide))
            clear hev hdep hI hf
            go_simp
            first | exact HK.out | exact ⟨rfl, HK.out⟩
          · have d1 : a.tmps[42]?.getD undef = .pointer (some ⟨t8, 1, none⟩) := (hdep 1 rfl).2
            refine Drawn.wpOp_known ((Two w p1 g1 c1 p2 g2 c2 t8 BA cb ⟨kind, at_, an, mask, ab⟩ m m2 (nrm m) (nrm m2) 5 11) (Drawn.upd f 2)) (v := .int .i64 at_) 43 rfl rfl rfl ?_
            have k1 := hI.act.c1; have k2 := hI.act.c2; have k3 := hI.act.c3; have k4 := hI.act.c4
            have HK := Lib.hid (hI.skip (i := 2) (by decide) (by decide))
            clear hev hdep hI hf
            go_simp
            first | exact HK.out | exact ⟨rfl, HK.out⟩
          · have e8 : a.tmps[8]?.getD undef = .pointer (some ⟨t8, 0, none⟩) := hev 8 rfl
            refine Drawn.wpOp_known ((Two w p1 g1 c1 p2 g2 c2 t8 BA cb ⟨kind, at_, an, mask, ab⟩ m m2 (nrm m) (nrm m2) 5 11) (Drawn.upd f 3)) (v := .pointer (some ⟨t8, 4, none⟩)) 44 rfl rfl rfl ?_
            have HK := Lib.hid (hI.skip (i := 3) (by decide) (by decide))
            clear hev hdep hI hf
            go_simp
            first | exact HK.out | exact ⟨rfl, HK.out⟩
          · have d3 : a.tmps[44]?.getD undef = .pointer (some ⟨t8, 4, none⟩) := (hdep 3 rfl).2
            refine Drawn.wpOp_known ((Two w p1 g1 c1 p2 g2 c2 t8 BA cb ⟨kind, at_, an, mask, ab⟩ m m2 (nrm m) (nrm m2) 5 11) (Drawn.upd f 4)) (v := .slice BA ab.length cb) 45 rfl rfl rfl ?_
            have k1 := hI.act.c1; have k2 := hI.act.c2; have k3 := hI.act.c3; have k4 := hI.act.c4
            have HK := Lib.hid (hI.skip (i := 4) (by decide) (by decide))
            clear hev hdep hI hf
            go_simp
            first | exact HK.out | exact ⟨rfl, HK.out⟩
          · have d0 : a.tmps[41]?.getD undef = .pointer (some ⟨p1, 0, none⟩) := (hdep 0 rfl).2
            have d2 : a.tmps[43]?.getD undef = .int .i64 at_ := (hdep 2 rfl).2
            have d4 : a.tmps[45]?.getD undef = .slice BA ab.length cb := (hdep 4 rfl).2
            refine Drawn.wpOp_known ((Two w p1 g1 c1 p2 g2 c2 t8 BA cb ⟨kind, at_, an, mask, ab⟩ m m2 (nrm m) (nrm m2) 5 11) (Drawn.upd f 5)) (v := .bool r) 46 rfl rfl rfl ?_
            have h0 := hI.d10 hf
            have hC := hCW.out w5 h0 hI.act.bytes
            have HI := Lib.hid hI
            clear hev hdep
            go_simp
            refine hC.mono ?_
            rintro e w' ⟨rfl, hd', hq'⟩
            exact ⟨rfl, HI.out.d1go hd' hq' HFAR.out (by decide)⟩
          · have e6 : a.tmps[6]?.getD undef = .pointer (some ⟨p2, 0, none⟩) := hev 6 rfl
            refine Drawn.wpOp_known ((Two w p1 g1 c1 p2 g2 c2 t8 BA cb ⟨kind, at_, an, mask, ab⟩ m m2 (nrm m) (nrm m2) 5 11) (Drawn.upd f 6)) (v := .pointer (some ⟨p2, 0, none⟩)) 47 rfl rfl rfl ?_
            have HK := Lib.hid (hI.skip (i := 6) (by decide) (by decide))
            clear hev hdep hI hf
            go_simp
            first | exact HK.out | exact ⟨rfl, HK.out⟩
          · have e8 : a.tmps[8]?.getD undef = .pointer (some ⟨t8, 0, none⟩) := hev 8 rfl
            refine Drawn.wpOp_known ((Two w p1 g1 c1 p2 g2 c2 t8 BA cb ⟨kind, at_, an, mask, ab⟩ m m2 (nrm m) (nrm m2) 5 11) (Drawn.upd f 7)) (v := .pointer (some ⟨t8, 1, none⟩)) 48 rfl rfl rfl ?_
            have HK := Lib.hid (hI.skip (i := 7) (by decide) (by decide))
            clear hev hdep hI hf
            go_simp
            first | exact HK.out | exact ⟨rfl, HK.out⟩
          · have d7 : a.tmps[48]?.getD undef = .pointer (some ⟨t8, 1, none⟩) := (hdep 7 rfl).2
            refine Drawn.wpOp_known ((Two w p1 g1 c1 p2 g2 c2 t8 BA cb ⟨kind, at_, an, mask, ab⟩ m m2 (nrm m) (nrm m2) 5 11) (Drawn.upd f 8)) (v := .int .i64 at_) 49 rfl rfl rfl ?_
            have k1 := hI.act.c1; have k2 := hI.act.c2; have k3 := hI.act.c3; have k4 := hI.act.c4
            have HK := Lib.hid (hI.skip (i := 8) (by decide) (by decide))
            clear hev hdep hI hf
            go_simp
            first | exact HK.out | exact ⟨rfl, HK.out⟩
          · have e8 : a.tmps[8]?.getD undef = .pointer (some ⟨t8, 0, none⟩) := hev 8 rfl
            refine Drawn.wpOp_known ((Two w p1 g1 c1 p2 g2 c2 t8 BA cb ⟨kind, at_, an, mask, ab⟩ m m2 (nrm m) (nrm m2) 5 11) (Drawn.upd f 9)) (v := .pointer (some ⟨t8, 4, none⟩)) 50 rfl rfl rfl ?_
            have HK := Lib.hid (hI.skip (i := 9) (by decide) (by decide))
            clear hev hdep hI hf
            go_simp
            first | exact HK.out | exact ⟨rfl, HK.out⟩
          · have d9 : a.tmps[50]?.getD undef = .pointer (some ⟨t8, 4, none⟩) := (hdep 9 rfl).2
            refine Drawn.wpOp_known ((Two w p1 g1 c1 p2 g2 c2 t8 BA cb ⟨kind, at_, an, mask, ab⟩ m m2 (nrm m) (nrm m2) 5 11) (Drawn.upd f 10)) (v := .slice BA ab.length cb) 51 rfl rfl rfl ?_
            have k1 := hI.act.c1; have k2 := hI.act.c2; have k3 := hI.act.c3; have k4 := hI.act.c4
            have HK := Lib.hid (hI.skip (i := 10) (by decide) (by decide))
            clear hev hdep hI hf
            go_simp
            first | exact HK.out | exact ⟨rfl, HK.out⟩
          · have d6 : a.tmps[47]?.getD undef = .pointer (some ⟨p2, 0, none⟩) := (hdep 6 rfl).2
            have d8 : a.tmps[49]?.getD undef = .int .i64 at_ := (hdep 8 rfl).2
            have d10 : a.tmps[51]?.getD undef = .slice BA ab.length cb := (hdep 10 rfl).2
            refine Drawn.wpOp_known ((Two w p1 g1 c1 p2 g2 c2 t8 BA cb ⟨kind, at_, an, mask, ab⟩ m m2 (nrm m) (nrm m2) 5 11) (Drawn.upd f 11)) (v := .bool r) 52 rfl rfl rfl ?_
            have h0 := hI.d20 hf
            have hC := hCR.out w5 h0 hI.act.bytes
            have HI := Lib.hid hI
            clear hev hdep
            go_simp
            refine hC.mono ?_
            rintro e w' ⟨rfl, hd', hq'⟩
            exact ⟨rfl, HI.out.d2go hd' hq' HFAR.out (by decide)⟩
          · have d5 : a.tmps[46]?.getD undef = .bool r := (hdep 5 rfl).2
            have d11 : a.tmps[52]?.getD undef = .bool r := (hdep 11 rfl).2
            refine Drawn.wpOp_known ((Two w p1 g1 c1 p2 g2 c2 t8 BA cb ⟨kind, at_, an, mask, ab⟩ m m2 (nrm m) (nrm m2) 5 11) (Drawn.upd f 12)) (v := .bool false) 53 rfl rfl rfl ?_
            have HK := Lib.hid (hI.skip (i := 12) (by decide) (by decide))
            clear hev hdep hI hf
            go_simp
            first | exact HK.out | exact ⟨rfl, HK.out⟩
        · intro f w5 hf hI
          show Exit.then _ _ Exit.normal (Drawn.acts _ [(53, some (.bool false)), (52, some (.bool r)), (51, some (.slice BA ab.length cb)), (50, some (.pointer (some ⟨t8, 4, none⟩))), (49, some (.int .i64 at_)), (48, some (.pointer (some ⟨t8, 1, none⟩))), (47, some (.pointer (some ⟨p2, 0, none⟩))), (46, some (.bool r)), (45, some (.slice BA ab.length cb)), (44, some (.pointer (some ⟨t8, 4, none⟩))), (43, some (.int .i64 at_)), (42, some (.pointer (some ⟨t8, 1, none⟩))), (41, some (.pointer (some ⟨p1, 0, none⟩)))]) _
          have HD5 := Lib.hid (hI.d1 (hf 5 (by omega))); have HE5 := Lib.hid (hI.d2 (hf 11 (by omega))); have HB5 := Lib.hid hI.below
          clear hI hf
          simp only [Drawn.acts]
          go_simp
          go_at_K
          obtain ⟨n0, hn0⟩ : ∃ n0, n0 = (m2).b.length := ⟨_, rfl⟩
          obtain ⟨s0, hs0⟩ : ∃ s0, s0 = n0 / 64 := ⟨_, rfl⟩
          obtain ⟨d0, hd0⟩ : ∃ d0, d0 = (m2).dead := ⟨_, rfl⟩
          have hn0l : n0 ≤ 32768 := by rw [hn0, HML2.out]; have := HSZ.out; omega
          have HDe : Hid (∀ W, Below w5.heap.size w5 W → Calls Try.prog 20 #[.pointer (some ⟨p1, 0, none⟩)] W fun e w' => e = .returned (.bool d0) ∧ W = w') := Lib.hid (fun W hW => by rw [hd0]; exact dead_any p1 g1 c1 _ W (HD5.out.below hW))
          have HSz : Hid (∀ W, Below w5.heap.size w5 W → Calls Try.prog 21 #[.pointer (some ⟨p1, 0, none⟩)] W fun e w' => e = .returned (.int .i64 (s0 : Nat)) ∧ W = w') := Lib.hid (fun W hW => by
            have := size_any p1 g1 c1 _ W (HD5.out.below hW) (by rw [← hn0]; exact hn0l)
            rw [← hn0, ← hs0] at this
            exact this)
          have HC0 : Hid (∀ W, Below w5.heap.size w5 W → W.cell? ⟨p2, 0, none⟩ = some (.slice (some ⟨g2, 0, none⟩) n0 c2)) := Lib.hid (fun W hW => by rw [hn0]; exact (HE5.out.below hW).c0)
          have HC2 : Hid (∀ W, Below w5.heap.size w5 W → W.cell? ⟨p2, 2, none⟩ = some (.bool d0)) := Lib.hid (fun W hW => by rw [hd0]; exact (HE5.out.below hW).c2)
          have hq0 : ((n0 : Nat) : Int).tdiv 64 = (s0 : Nat) := by rw [hs0]; rfl
          have hs0l : s0 ≤ 512 := by omega
          have hw0 : IntKind.i64.wrap ((s0 : Nat) : Int) = (s0 : Nat) := IntWalk.i64_in _ (by omega)
          clear hn0 hs0 hd0
          go_wp2_with fail
          refine Drawn.wp_region_flowL 18 [Drawn.SP.is (.pointer (some ⟨p1, 0, none⟩)), Drawn.SP.is (.bool d0), Drawn.SP.is (.pointer (some ⟨p2, 0, none⟩)), Drawn.SP.is (.pointer (some ⟨p2, 0, none⟩)), Drawn.SP.is (.pointer (some ⟨p2, 2, none⟩)), Drawn.SP.is (.bool d0), Drawn.SP.is (.bool false), Drawn.SP.is (.bool false), Drawn.SP.is (.pointer (some ⟨p1, 0, none⟩)), Drawn.SP.is (.int .i64 (s0 : Nat)), Drawn.SP.is (.pointer (some ⟨p2, 0, none⟩)), Drawn.SP.is (.pointer (some ⟨p2, 0, none⟩)), Drawn.SP.is (.pointer (some ⟨p2, 0, none⟩)), Drawn.SP.is (.slice (some ⟨g2, 0, none⟩) n0 c2), Drawn.SP.is (.int .i64 (n0 : Nat)), Drawn.SP.is (.int .i64 (s0 : Nat)), Drawn.SP.is (.bool false), Drawn.SP.is (.bool false)] (by kernel_rfl) (by kernel_rfl) ?_ ?_
          · intro i hi a w9 hb hev hdep
            rcases (show i = 0 ∨ i = 1 ∨ i = 2 ∨ i = 3 ∨ i = 4 ∨ i = 5 ∨ i = 6 ∨ i = 7 ∨ i = 8 ∨ i = 9 ∨ i = 10 ∨ i = 11 ∨ i = 12 ∨ i = 13 ∨ i = 14 ∨ i = 15 ∨ i = 16 ∨ i = 17 by omega) with rfl | rfl | rfl | rfl | rfl | rfl | rfl | rfl | rfl | rfl | rfl | rfl | rfl | rfl | rfl | rfl | rfl | rfl
            · have e5 : a.tmps[5]?.getD undef = .pointer (some ⟨p1, 0, none⟩) := hev 5 rfl
              refine Drawn.wpOp_flow 96 rfl rfl rfl ?_
              clear hev hdep hb
              go_simp
              exact ⟨_, rfl, rfl, Below.refl _ _⟩
            · have d0 : a.tmps[96]?.getD undef = .pointer (some ⟨p1, 0, none⟩) := hdep 0 rfl
              refine Drawn.wpOp_flow 97 rfl rfl rfl ?_
              clear hev hdep
              have C := HDe.out w9 hb
              clear hb
              go_simp
              refine C.mono ?_
              rintro e w' ⟨rfl, rfl⟩
              exact ⟨_, rfl, rfl, Below.refl _ _⟩
            · have e6 : a.tmps[6]?.getD undef = .pointer (some ⟨p2, 0, none⟩) := hev 6 rfl
              refine Drawn.wpOp_flow 98 rfl rfl rfl ?_
              clear hev hdep hb
              go_simp
              exact ⟨_, rfl, rfl, Below.refl _ _⟩
            · have d2 : a.tmps[98]?.getD undef = .pointer (some ⟨p2, 0, none⟩) := hdep 2 rfl
              refine Drawn.wpOp_flow 99 rfl rfl rfl ?_
              clear hev hdep hb
              go_simp
              exact ⟨_, rfl, rfl, Below.refl _ _⟩
            · have d3 : a.tmps[99]?.getD undef = .pointer (some ⟨p2, 0, none⟩) := hdep 3 rfl
              refine Drawn.wpOp_flow 100 rfl rfl rfl ?_
              clear hev hdep hb
              go_simp
              exact ⟨_, rfl, rfl, Below.refl _ _⟩
            · have d4 : a.tmps[100]?.getD undef = .pointer (some ⟨p2, 2, none⟩) := hdep 4 rfl
              refine Drawn.wpOp_flow 101 rfl rfl rfl ?_
              have k0 := HC0.out w9 hb; have k2 := HC2.out w9 hb
              clear hev hdep hb
              go_simp
              exact ⟨_, rfl, rfl, Below.refl _ _⟩
            · have d1 : a.tmps[97]?.getD undef = .bool d0 := hdep 1 rfl
              have d5 : a.tmps[101]?.getD undef = .bool d0 := hdep 5 rfl
              refine Drawn.wpOp_flow 102 rfl rfl rfl ?_
              clear hev hdep hb
              go_simp
              exact ⟨_, rfl, rfl, Below.refl _ _⟩
            · have d6 : a.tmps[102]?.getD undef = .bool false := hdep 6 rfl
              refine Drawn.wpOp_flow 103 rfl rfl rfl ?_
              clear hev hdep hb
              go_simp
              exact ⟨_, rfl, rfl, Below.refl _ _⟩
            · have e5 : a.tmps[5]?.getD undef = .pointer (some ⟨p1, 0, none⟩) := hev 5 rfl
              have dg : a.tmps[103]?.getD undef = .bool false := hdep 7 rfl
              refine Drawn.wpOp_flow 104 rfl (Drawn.wanted_of rfl rfl rfl dg) rfl ?_
              clear dg
              clear hev hdep hb
              go_simp
              exact ⟨_, rfl, rfl, Below.refl _ _⟩
            · have d8 : a.tmps[104]?.getD undef = .pointer (some ⟨p1, 0, none⟩) := hdep 8 rfl
              have dg : a.tmps[103]?.getD undef = .bool false := hdep 7 rfl
              refine Drawn.wpOp_flow 105 rfl (Drawn.wanted_of rfl rfl rfl dg) rfl ?_
              clear hev hdep
              have C := HSz.out w9 hb
              clear hb
              go_simp
              refine C.mono ?_
              rintro e w' ⟨rfl, rfl⟩
              exact ⟨_, rfl, rfl, Below.refl _ _⟩
            · have e6 : a.tmps[6]?.getD undef = .pointer (some ⟨p2, 0, none⟩) := hev 6 rfl
              have dg : a.tmps[103]?.getD undef = .bool false := hdep 7 rfl
              refine Drawn.wpOp_flow 106 rfl (Drawn.wanted_of rfl rfl rfl dg) rfl ?_
              clear dg
              clear hev hdep hb
              go_simp
              exact ⟨_, rfl, rfl, Below.refl _ _⟩
            · have d10 : a.tmps[106]?.getD undef = .pointer (some ⟨p2, 0, none⟩) := hdep 10 rfl
              have dg : a.tmps[103]?.getD undef = .bool false := hdep 7 rfl
              refine Drawn.wpOp_flow 107 rfl (Drawn.wanted_of rfl rfl rfl dg) rfl ?_
              clear dg
              clear hev hdep hb
              go_simp
              exact ⟨_, rfl, rfl, Below.refl _ _⟩
            · have d11 : a.tmps[107]?.getD undef = .pointer (some ⟨p2, 0, none⟩) := hdep 11 rfl
              have dg : a.tmps[103]?.getD undef = .bool false := hdep 7 rfl
              refine Drawn.wpOp_flow 108 rfl (Drawn.wanted_of rfl rfl rfl dg) rfl ?_
              clear dg
              clear hev hdep hb
              go_simp
              exact ⟨_, rfl, rfl, Below.refl _ _⟩
            · have d12 : a.tmps[108]?.getD undef = .pointer (some ⟨p2, 0, none⟩) := hdep 12 rfl
              have dg : a.tmps[103]?.getD undef = .bool false := hdep 7 rfl
              refine Drawn.wpOp_flow 109 rfl (Drawn.wanted_of rfl rfl rfl dg) rfl ?_
              have k0 := HC0.out w9 hb; have k2 := HC2.out w9 hb
              clear dg
              clear hev hdep hb
              go_simp
              exact ⟨_, rfl, rfl, Below.refl _ _⟩
            · have d13 : a.tmps[109]?.getD undef = .slice (some ⟨g2, 0, none⟩) n0 c2 := hdep 13 rfl
              have dg : a.tmps[103]?.getD undef = .bool false := hdep 7 rfl
              refine Drawn.wpOp_flow 110 rfl (Drawn.wanted_of rfl rfl rfl dg) rfl ?_
              clear dg
              clear hev hdep hb
              go_simp
              exact ⟨_, rfl, rfl, Below.refl _ _⟩
            · have d14 : a.tmps[110]?.getD undef = .int .i64 (n0 : Nat) := hdep 14 rfl
              have dg : a.tmps[103]?.getD undef = .bool false := hdep 7 rfl
              refine Drawn.wpOp_flow 111 rfl (Drawn.wanted_of rfl rfl rfl dg) rfl ?_
              clear dg
              clear hev hdep hb
              go_simp
              exact ⟨_, rfl, rfl, Below.refl _ _⟩
            · have d9 : a.tmps[105]?.getD undef = .int .i64 (s0 : Nat) := hdep 9 rfl
              have d15 : a.tmps[111]?.getD undef = .int .i64 (s0 : Nat) := hdep 15 rfl
              have dg : a.tmps[103]?.getD undef = .bool false := hdep 7 rfl
              refine Drawn.wpOp_flow 112 rfl (Drawn.wanted_of rfl rfl rfl dg) rfl ?_
              clear dg
              clear hev hdep hb
              go_simp
              exact ⟨_, rfl, rfl, Below.refl _ _⟩
            · have d7 : a.tmps[103]?.getD undef = .bool false := hdep 7 rfl
              have d16 : a.tmps[112]?.getD undef = .bool false := hdep 16 rfl
              refine Drawn.wpOp_flow 113 rfl rfl rfl ?_
              clear hev hdep hb
              go_simp
              exact ⟨_, rfl, rfl, Below.refl _ _⟩
          · intro xq w9 hb hxq
            have vq0 : xq 0 = .pointer (some ⟨p1, 0, none⟩) := hxq 0 (by omega)
            have vq1 : xq 1 = .bool d0 := hxq 1 (by omega)
            have vq2 : xq 2 = .pointer (some ⟨p2, 0, none⟩) := hxq 2 (by omega)
            have vq3 : xq 3 = .pointer (some ⟨p2, 0, none⟩) := hxq 3 (by omega)
            have vq4 : xq 4 = .pointer (some ⟨p2, 2, none⟩) := hxq 4 (by omega)
            have vq5 : xq 5 = .bool d0 := hxq 5 (by omega)
            have vq6 : xq 6 = .bool false := hxq 6 (by omega)
            have vq7 : xq 7 = .bool false := hxq 7 (by omega)
            have vq8 : xq 8 = .pointer (some ⟨p1, 0, none⟩) := hxq 8 (by omega)
            have vq9 : xq 9 = .int .i64 (s0 : Nat) := hxq 9 (by omega)
            have vq10 : xq 10 = .pointer (some ⟨p2, 0, none⟩) := hxq 10 (by omega)
            have vq11 : xq 11 = .pointer (some ⟨p2, 0, none⟩) := hxq 11 (by omega)
            have vq12 : xq 12 = .pointer (some ⟨p2, 0, none⟩) := hxq 12 (by omega)
            have vq13 : xq 13 = .slice (some ⟨g2, 0, none⟩) n0 c2 := hxq 13 (by omega)
            have vq14 : xq 14 = .int .i64 (n0 : Nat) := hxq 14 (by omega)
            have vq15 : xq 15 = .int .i64 (s0 : Nat) := hxq 15 (by omega)
            have vq16 : xq 16 = .bool false := hxq 16 (by omega)
            have vq17 : xq 17 = .bool false := hxq 17 (by omega)
            show Exit.then _ _ Exit.normal (Drawn.acts _ [(113, some (xq 17)), (112, some (xq 16)), (111, some (xq 15)), (110, some (xq 14)), (109, some (xq 13)), (108, some (xq 12)), (107, some (xq 11)), (106, some (xq 10)), (105, some (xq 9)), (104, some (xq 8)), (103, some (xq 7)), (102, some (xq 6)), (101, some (xq 5)), (100, some (xq 4)), (99, some (xq 3)), (98, some (xq 2)), (97, some (xq 1)), (96, some (xq 0))]) _
            rw [vq0, vq1, vq2, vq3, vq4, vq5, vq6, vq7, vq8, vq9, vq10, vq11, vq12, vq13, vq14, vq15, vq16, vq17]
            clear hxq vq0 vq1 vq2 vq3 vq4 vq5 vq6 vq7 vq8 vq9 vq10 vq11 vq12 vq13 vq14 vq15 vq16 vq17
            clear xq
            simp only [Drawn.acts]
            go_simp
            have HD9 := Lib.hid (HD5.out.below hb); have HE9 := Lib.hid (HE5.out.below hb); have HB9 := Lib.hid (HB5.out.trans (hb.mono HB5.out.size))
            clear hb
            go_at_K
            go_wp2
            go_roundw
            case rel => exact ⟨k + 1, m2, g2, c2, by omega, by go_num, HFI2.out, HML2.out, HD9.out, HE9.out, HG.out, HB9.out⟩
            case measure => simp [intOf] <;> omega
      by_cases hk1 : kind = 1
      · have q0 : (kind == 0) = false := by rw [hk1]; rfl
        have q1 : (kind == 1) = true := by rw [hk1]; rfl
        have HFI2 : Hid (Fine ⟨m.b, an, false⟩) := Lib.hid ⟨(fun e => nomatch e), han⟩
        have HML2 : Hid ((⟨m.b, an, false⟩ : Dk).b.length = 64 * sz) := HML
        have hC1 : Hid (∀ W, DAt W p1 g1 c1 m → Calls Try.prog 12 #[.pointer (some ⟨p1, 0, none⟩), .int .i64 an] W fun e w' => e = .returned (.tuple #[]) ∧ DAt w' p1 g1 c1 ⟨m.b, an, false⟩ ∧ Keeps (PG p1 g1) W w') := Lib.hid (fun W hd => (Disk.power_any p1 g1 c1 m an W hd).mono fun e w' ⟨a, b, c⟩ => ⟨a, b, c.mono fun k _ h => .inl h⟩)
        have hC2 : Hid (∀ W, DAt W p2 g2 c2 (nrm m) → Calls Try.prog 13 #[.pointer (some ⟨p2, 0, none⟩), .int .i64 an] W fun e w' => e = .returned (.tuple #[]) ∧ DAt w' p2 g2 c2 (nrm ⟨m.b, an, false⟩) ∧ Keeps (PG p2 g2) W w') := Lib.hid (fun W hd => (R16.power_any p2 g2 c2 (nrm m) an W hd).mono fun e w' ⟨a, b, c⟩ => ⟨a, b, c.mono fun k _ h => .inl h⟩)
        obtain ⟨m2, hm2⟩ : ∃ m2, m2 = (⟨m.b, an, false⟩ : Dk) := ⟨_, rfl⟩
        rw [← hm2] at HFI2 HML2 hC1 hC2
        clear hk0 hk1 hm2
        go_wp2_with fail
        refine (hC1.out _ HD1.out).mono ?_
        rintro e w4 ⟨rfl, d4, q4⟩
        have HD4 := Lib.hid d4
        have HE4 := Lib.hid (keep_far q4 HD2.out (by have := HFAR.out; exact fun e => this.a1 e.symm) (by have := HFAR.out; exact fun e => this.a3 e.symm) (by have := HFAR.out; exact fun e => this.a2 e.symm) (by have := HFAR.out; exact fun e => this.a4 e.symm))
        have HB4 := Lib.hid (own_keep HBA.out q4 HFAR.out.l1 HFAR.out.l2)
        have k2 := (ActLies.keep HACT.out q4 (fun e => by rcases e with e | e; exact HFAR.out.t1 e; exact HFAR.out.t2 e) (fun h0 z e => fun e2 => by have := HFAR.out.b1 h0 z e; rcases e2 with e2 | e2; exact this.1 e2; exact this.2.1 e2)).c2
        clear d4 q4
        go_wp2_with fail
        refine (hC2.out w4 HE4.out).mono ?_
        rintro e w5 ⟨rfl, d5, q5⟩
        have HE5 := Lib.hid d5
        have HD5 := Lib.hid (keep_far q5 HD4.out HFAR.out.a1 HFAR.out.a2 HFAR.out.a3 HFAR.out.a4)
        have HB5 := Lib.hid (own_keep HB4.out q5 HFAR.out.l3 HFAR.out.l4)
        clear d5 q5 k2
        obtain ⟨n0, hn0⟩ : ∃ n0, n0 = (m2).b.length := ⟨_, rfl⟩
        obtain ⟨s0, hs0⟩ : ∃ s0, s0 = n0 / 64 := ⟨_, rfl⟩
        obtain ⟨d0, hd0⟩ : ∃ d0, d0 = (m2).dead := ⟨_, rfl⟩
        have hn0l : n0 ≤ 32768 := by rw [hn0, HML2.out]; have := HSZ.out; omega
        have HDe : Hid (∀ W, Below w5.heap.size w5 W → Calls Try.prog 20 #[.pointer (some ⟨p1, 0, none⟩)] W fun e w' => e = .returned (.bool d0) ∧ W = w') := Lib.hid (fun W hW => by rw [hd0]; exact dead_any p1 g1 c1 _ W (HD5.out.below hW))
        have HSz : Hid (∀ W, Below w5.heap.size w5 W → Calls Try.prog 21 #[.pointer (some ⟨p1, 0, none⟩)] W fun e w' => e = .returned (.int .i64 (s0 : Nat)) ∧ W = w') := Lib.hid (fun W hW => by
          have := size_any p1 g1 c1 _ W (HD5.out.below hW) (by rw [← hn0]; exact hn0l)
          rw [← hn0, ← hs0] at this
          exact this)
        have HC0 : Hid (∀ W, Below w5.heap.size w5 W → W.cell? ⟨p2, 0, none⟩ = some (.slice (some ⟨g2, 0, none⟩) n0 c2)) := Lib.hid (fun W hW => by rw [hn0]; exact (HE5.out.below hW).c0)
        have HC2 : Hid (∀ W, Below w5.heap.size w5 W → W.cell? ⟨p2, 2, none⟩ = some (.bool d0)) := Lib.hid (fun W hW => by rw [hd0]; exact (HE5.out.below hW).c2)
        have hq0 : ((n0 : Nat) : Int).tdiv 64 = (s0 : Nat) := by rw [hs0]; rfl
        have hs0l : s0 ≤ 512 := by omega
        have hw0 : IntKind.i64.wrap ((s0 : Nat) : Int) = (s0 : Nat) := IntWalk.i64_in _ (by omega)
        clear hn0 hs0 hd0
        go_wp2_with fail
        refine Drawn.wp_region_flowL 18 [Drawn.SP.is (.pointer (some ⟨p1, 0, none⟩)), Drawn.SP.is (.bool d0), Drawn.SP.is (.pointer (some ⟨p2, 0, none⟩)), Drawn.SP.is (.pointer (some ⟨p2, 0, none⟩)), Drawn.SP.is (.pointer (some ⟨p2, 2, none⟩)), Drawn.SP.is (.bool d0), Drawn.SP.is (.bool false), Drawn.SP.is (.bool false), Drawn.SP.is (.pointer (some ⟨p1, 0, none⟩)), Drawn.SP.is (.int .i64 (s0 : Nat)), Drawn.SP.is (.pointer (some ⟨p2, 0, none⟩)), Drawn.SP.is (.pointer (some ⟨p2, 0, none⟩)), Drawn.SP.is (.pointer (some ⟨p2, 0, none⟩)), Drawn.SP.is (.slice (some ⟨g2, 0, none⟩) n0 c2), Drawn.SP.is (.int .i64 (n0 : Nat)), Drawn.SP.is (.int .i64 (s0 : Nat)), Drawn.SP.is (.bool false), Drawn.SP.is (.bool false)] (by kernel_rfl) (by kernel_rfl) ?_ ?_
        · intro i hi a w9 hb hev hdep
          rcases (show i = 0 ∨ i = 1 ∨ i = 2 ∨ i = 3 ∨ i = 4 ∨ i = 5 ∨ i = 6 ∨ i = 7 ∨ i = 8 ∨ i = 9 ∨ i = 10 ∨ i = 11 ∨ i = 12 ∨ i = 13 ∨ i = 14 ∨ i = 15 ∨ i = 16 ∨ i = 17 by omega) with rfl | rfl | rfl | rfl | rfl | rfl | rfl | rfl | rfl | rfl | rfl | rfl | rfl | rfl | rfl | rfl | rfl | rfl
          · have e5 : a.tmps[5]?.getD undef = .pointer (some ⟨p1, 0, none⟩) := hev 5 rfl
            refine Drawn.wpOp_flow 96 rfl rfl rfl ?_
            clear hev hdep hb
            go_simp
            exact ⟨_, rfl, rfl, Below.refl _ _⟩
          · have d0 : a.tmps[96]?.getD undef = .pointer (some ⟨p1, 0, none⟩) := hdep 0 rfl
            refine Drawn.wpOp_flow 97 rfl rfl rfl ?_
            clear hev hdep
            have C := HDe.out w9 hb
            clear hb
            go_simp
            refine C.mono ?_
            rintro e w' ⟨rfl, rfl⟩
            exact ⟨_, rfl, rfl, Below.refl _ _⟩
          · have e6 : a.tmps[6]?.getD undef = .pointer (some ⟨p2, 0, none⟩) := hev 6 rfl
            refine Drawn.wpOp_flow 98 rfl rfl rfl ?_
            clear hev hdep hb
            go_simp
            exact ⟨_, rfl, rfl, Below.refl _ _⟩
          · have d2 : a.tmps[98]?.getD undef = .pointer (some ⟨p2, 0, none⟩) := hdep 2 rfl
            refine Drawn.wpOp_flow 99 rfl rfl rfl ?_
            clear hev hdep hb
            go_simp
            exact ⟨_, rfl, rfl, Below.refl _ _⟩
          · have d3 : a.tmps[99]?.getD undef = .pointer (some ⟨p2, 0, none⟩) := hdep 3 rfl
            refine Drawn.wpOp_flow 100 rfl rfl rfl ?_
            clear hev hdep hb
            go_simp
            exact ⟨_, rfl, rfl, Below.refl _ _⟩
          · have d4 : a.tmps[100]?.getD undef = .pointer (some ⟨p2, 2, none⟩) := hdep 4 rfl
            refine Drawn.wpOp_flow 101 rfl rfl rfl ?_
            have k0 := HC0.out w9 hb; have k2 := HC2.out w9 hb
            clear hev hdep hb
            go_simp
            exact ⟨_, rfl, rfl, Below.refl _ _⟩
          · have d1 : a.tmps[97]?.getD undef = .bool d0 := hdep 1 rfl
            have d5 : a.tmps[101]?.getD undef = .bool d0 := hdep 5 rfl
            refine Drawn.wpOp_flow 102 rfl rfl rfl ?_
            clear hev hdep hb
            go_simp
            exact ⟨_, rfl, rfl, Below.refl _ _⟩
          · have d6 : a.tmps[102]?.getD undef = .bool false := hdep 6 rfl
            refine Drawn.wpOp_flow 103 rfl rfl rfl ?_
            clear hev hdep hb
            go_simp
            exact ⟨_, rfl, rfl, Below.refl _ _⟩
          · have e5 : a.tmps[5]?.getD undef = .pointer (some ⟨p1, 0, none⟩) := hev 5 rfl
            have dg : a.tmps[103]?.getD undef = .bool false := hdep 7 rfl
            refine Drawn.wpOp_flow 104 rfl (Drawn.wanted_of rfl rfl rfl dg) rfl ?_
            clear dg
            clear hev hdep hb
            go_simp
            exact ⟨_, rfl, rfl, Below.refl _ _⟩
          · have d8 : a.tmps[104]?.getD undef = .pointer (some ⟨p1, 0, none⟩) := hdep 8 rfl
            have dg : a.tmps[103]?.getD undef = .bool false := hdep 7 rfl
            refine Drawn.wpOp_flow 105 rfl (Drawn.wanted_of rfl rfl rfl dg) rfl ?_
            clear hev hdep
            have C := HSz.out w9 hb
            clear hb
            go_simp
            refine C.mono ?_
            rintro e w' ⟨rfl, rfl⟩
            exact ⟨_, rfl, rfl, Below.refl _ _⟩
          · have e6 : a.tmps[6]?.getD undef = .pointer (some ⟨p2, 0, none⟩) := hev 6 rfl
            have dg : a.tmps[103]?.getD undef = .bool false := hdep 7 rfl
            refine Drawn.wpOp_flow 106 rfl (Drawn.wanted_of rfl rfl rfl dg) rfl ?_
            clear dg
            clear hev hdep hb
            go_simp
            exact ⟨_, rfl, rfl, Below.refl _ _⟩
          · have d10 : a.tmps[106]?.getD undef = .pointer (some ⟨p2, 0, none⟩) := hdep 10 rfl
            have dg : a.tmps[103]?.getD undef = .bool false := hdep 7 rfl
            refine Drawn.wpOp_flow 107 rfl (Drawn.wanted_of rfl rfl rfl dg) rfl ?_
            clear dg
            clear hev hdep hb
            go_simp
            exact ⟨_, rfl, rfl, Below.refl _ _⟩
          · have d11 : a.tmps[107]?.getD undef = .pointer (some ⟨p2, 0, none⟩) := hdep 11 rfl
            have dg : a.tmps[103]?.getD undef = .bool false := hdep 7 rfl
            refine Drawn.wpOp_flow 108 rfl (Drawn.wanted_of rfl rfl rfl dg) rfl ?_
            clear dg
            clear hev hdep hb
            go_simp
            exact ⟨_, rfl, rfl, Below.refl _ _⟩
          · have d12 : a.tmps[108]?.getD undef = .pointer (some ⟨p2, 0, none⟩) := hdep 12 rfl
            have dg : a.tmps[103]?.getD undef = .bool false := hdep 7 rfl
            refine Drawn.wpOp_flow 109 rfl (Drawn.wanted_of rfl rfl rfl dg) rfl ?_
            have k0 := HC0.out w9 hb; have k2 := HC2.out w9 hb
            clear dg
            clear hev hdep hb
            go_simp
            exact ⟨_, rfl, rfl, Below.refl _ _⟩
          · have d13 : a.tmps[109]?.getD undef = .slice (some ⟨g2, 0, none⟩) n0 c2 := hdep 13 rfl
            have dg : a.tmps[103]?.getD undef = .bool false := hdep 7 rfl
            refine Drawn.wpOp_flow 110 rfl (Drawn.wanted_of rfl rfl rfl dg) rfl ?_
            clear dg
            clear hev hdep hb
            go_simp
            exact ⟨_, rfl, rfl, Below.refl _ _⟩
          · have d14 : a.tmps[110]?.getD undef = .int .i64 (n0 : Nat) := hdep 14 rfl
            have dg : a.tmps[103]?.getD undef = .bool false := hdep 7 rfl
            refine Drawn.wpOp_flow 111 rfl (Drawn.wanted_of rfl rfl rfl dg) rfl ?_
            clear dg
            clear hev hdep hb
            go_simp
            exact ⟨_, rfl, rfl, Below.refl _ _⟩
          · have d9 : a.tmps[105]?.getD undef = .int .i64 (s0 : Nat) := hdep 9 rfl
            have d15 : a.tmps[111]?.getD undef = .int .i64 (s0 : Nat) := hdep 15 rfl
            have dg : a.tmps[103]?.getD undef = .bool false := hdep 7 rfl
            refine Drawn.wpOp_flow 112 rfl (Drawn.wanted_of rfl rfl rfl dg) rfl ?_
            clear dg
            clear hev hdep hb
            go_simp
            exact ⟨_, rfl, rfl, Below.refl _ _⟩
          · have d7 : a.tmps[103]?.getD undef = .bool false := hdep 7 rfl
            have d16 : a.tmps[112]?.getD undef = .bool false := hdep 16 rfl
            refine Drawn.wpOp_flow 113 rfl rfl rfl ?_
            clear hev hdep hb
            go_simp
            exact ⟨_, rfl, rfl, Below.refl _ _⟩
        · intro xq w9 hb hxq
          have vq0 : xq 0 = .pointer (some ⟨p1, 0, none⟩) := hxq 0 (by omega)
          have vq1 : xq 1 = .bool d0 := hxq 1 (by omega)
          have vq2 : xq 2 = .pointer (some ⟨p2, 0, none⟩) := hxq 2 (by omega)
          have vq3 : xq 3 = .pointer (some ⟨p2, 0, none⟩) := hxq 3 (by omega)
          have vq4 : xq 4 = .pointer (some ⟨p2, 2, none⟩) := hxq 4 (by omega)
          have vq5 : xq 5 = .bool d0 := hxq 5 (by omega)
          have vq6 : xq 6 = .bool false := hxq 6 (by omega)
          have vq7 : xq 7 = .bool false := hxq 7 (by omega)
          have vq8 : xq 8 = .pointer (some ⟨p1, 0, none⟩) := hxq 8 (by omega)
          have vq9 : xq 9 = .int .i64 (s0 : Nat) := hxq 9 (by omega)
          have vq10 : xq 10 = .pointer (some ⟨p2, 0, none⟩) := hxq 10 (by omega)
          have vq11 : xq 11 = .pointer (some ⟨p2, 0, none⟩) := hxq 11 (by omega)
          have vq12 : xq 12 = .pointer (some ⟨p2, 0, none⟩) := hxq 12 (by omega)
          have vq13 : xq 13 = .slice (some ⟨g2, 0, none⟩) n0 c2 := hxq 13 (by omega)
          have vq14 : xq 14 = .int .i64 (n0 : Nat) := hxq 14 (by omega)
          have vq15 : xq 15 = .int .i64 (s0 : Nat) := hxq 15 (by omega)
          have vq16 : xq 16 = .bool false := hxq 16 (by omega)
          have vq17 : xq 17 = .bool false := hxq 17 (by omega)
          show Exit.then _ _ Exit.normal (Drawn.acts _ [(113, some (xq 17)), (112, some (xq 16)), (111, some (xq 15)), (110, some (xq 14)), (109, some (xq 13)), (108, some (xq 12)), (107, some (xq 11)), (106, some (xq 10)), (105, some (xq 9)), (104, some (xq 8)), (103, some (xq 7)), (102, some (xq 6)), (101, some (xq 5)), (100, some (xq 4)), (99, some (xq 3)), (98, some (xq 2)), (97, some (xq 1)), (96, some (xq 0))]) _
          rw [vq0, vq1, vq2, vq3, vq4, vq5, vq6, vq7, vq8, vq9, vq10, vq11, vq12, vq13, vq14, vq15, vq16, vq17]
          clear hxq vq0 vq1 vq2 vq3 vq4 vq5 vq6 vq7 vq8 vq9 vq10 vq11 vq12 vq13 vq14 vq15 vq16 vq17
          clear xq
          simp only [Drawn.acts]
          go_simp
          have HD9 := Lib.hid (HD5.out.below hb); have HE9 := Lib.hid (HE5.out.below hb); have HB9 := Lib.hid (HB5.out.trans (hb.mono HB5.out.size))
          clear hb
          go_at_K
          go_wp2
          go_roundw
          case rel => exact ⟨k + 1, m2, g2, c2, by omega, by go_num, HFI2.out, HML2.out, HD9.out, HE9.out, HG.out, HB9.out⟩
          case measure => simp [intOf] <;> omega
      by_cases hk2 : kind = 2
      · have q0 : (kind == 0) = false := by rw [hk2]; rfl
        have q1 : (kind == 1) = false := by rw [hk2]; rfl
        have q2 : (kind == 2) = true := by rw [hk2]; rfl
        obtain ⟨m2, hm2⟩ : ∃ m2, m2 = (m.rot at_ an mask).1 := ⟨_, rfl⟩
        obtain ⟨r, hr⟩ : ∃ r, r = (m.rot at_ an mask).2 := ⟨_, rfl⟩
        have HFI2 : Hid (Fine m2) := Lib.hid (by rw [hm2]; exact HFI.out.rot _ _ _)
        have HML2 : Hid (m2.b.length = 64 * sz) := Lib.hid (by rw [hm2, rot_len, HML.out])
        have hl0 : m.b.length ≤ 32768 := by rw [HML.out]; have := HSZ.out; omega
        have hCW : Hid (∀ W, DAt W p1 g1 c1 m → Calls Try.prog 14 #[.pointer (some ⟨p1, 0, none⟩), .int .i64 at_, .int .i64 an, .int .u32 (mask : Nat)] W fun e w' => e = .returned (.bool r) ∧ DAt w' p1 g1 c1 m2 ∧ Keeps (PG p1 g1) W w') := Lib.hid (fun W hd => by
          rw [hm2, hr]
          exact rot_any p1 g1 c1 m at_ an mask W hd hl0 hai han ham)
        have hCR : Hid (∀ W, DAt W p2 g2 c2 (nrm m) → Calls Try.prog 15 #[.pointer (some ⟨p2, 0, none⟩), .int .i64 at_, .int .i64 an, .int .u32 (mask : Nat)] W fun e w' => e = .returned (.bool r) ∧ DAt w' p2 g2 c2 (nrm m2) ∧ Keeps (PG p2 g2) W w') := Lib.hid (fun W hd => by
          have := R16.rot_any p2 g2 c2 (nrm m) at_ an mask W hd hl0 han ham
          rw [nrm_rot] at this
          rw [hm2, hr]
          exact this)
        clear hm2 hr hl0 hk0 hk1 hk2
        go_wp2_with fail
        obtain ⟨t8, ht8⟩ : ∃ t8, t8 = wr.heap.size := ⟨_, rfl⟩
        rw [← ht8] at HACT HFAR ⊢
        clear ht8
        refine Drawn.wp_region_known 17 [.pointer (some ⟨p1, 0, none⟩), .pointer (some ⟨t8, 1, none⟩), .int .i64 at_, .pointer (some ⟨t8, 2, none⟩), .int .i64 an, .pointer (some ⟨t8, 3, none⟩), .int .u32 (mask : Nat), .bool r, .pointer (some ⟨p2, 0, none⟩), .pointer (some ⟨t8, 1, none⟩), .int .i64 at_, .pointer (some ⟨t8, 2, none⟩), .int .i64 an, .pointer (some ⟨t8, 3, none⟩), .int .u32 (mask : Nat), .bool r, .bool false] (Two w p1 g1 c1 p2 g2 c2 t8 BA cb ⟨kind, at_, an, mask, ab⟩ m m2 (nrm m) (nrm m2) 7 15) (by kernel_rfl) (by kernel_rfl) ?_ ?_ ?_
        · exact fun f hf => Two.start (hf 7 (by omega)) (hf 15 (by omega)) HBA.out HACT.out HD1.out HD2.out
        · intro i hi f a w5 hf hI hev hdep
          rcases (show i = 0 ∨ i = 1 ∨ i = 2 ∨ i = 3 ∨ i = 4 ∨ i = 5 ∨ i = 6 ∨ i = 7 ∨ i = 8 ∨ i = 9 ∨ i = 10 ∨ i = 11 ∨ i = 12 ∨ i = 13 ∨ i = 14 ∨ i = 15 ∨ i = 16 by omega) with rfl | rfl | rfl | rfl | rfl | rfl | rfl | rfl | rfl | rfl | rfl | rfl | rfl | rfl | rfl | rfl | rfl
          · have e5 : a.tmps[5]?.getD undef = .pointer (some ⟨p1, 0, none⟩) := hev 5 rfl
            refine Drawn.wpOp_known ((Two w p1 g1 c1 p2 g2 c2 t8 BA cb ⟨kind, at_, an, mask, ab⟩ m m2 (nrm m) (nrm m2) 7 15) (Drawn.upd f 0)) (v := .pointer (some ⟨p1, 0, none⟩)) 66 rfl rfl rfl ?_
            have HK := Lib.hid (hI.skip (i := 0) (by decide) (by decide))
            clear hev hdep hI hf
            go_simp
            first | exact HK.out | exact ⟨rfl, HK.out⟩
          · have e8 : a.tmps[8]?.getD undef = .pointer (some ⟨t8, 0, none⟩) := hev 8 rfl
            refine Drawn.wpOp_known ((Two w p1 g1 c1 p2 g2 c2 t8 BA cb ⟨kind, at_, an, mask, ab⟩ m m2 (nrm m) (nrm m2) 7 15) (Drawn.upd f 1)) (v := .pointer (some ⟨t8, 1, none⟩)) 67 rfl rfl rfl ?_
            have HK := Lib.hid (hI.skip (i := 1) (by decide) (by decide))
            clear hev hdep hI hf
            go_simp
            first | exact HK.out | exact ⟨rfl, HK.out⟩
          · have d1 : a.tmps[67]?.getD undef = .pointer (some ⟨t8, 1, none⟩) := (hdep 1 rfl).2
            refine Drawn.wpOp_known ((Two w p1 g1 c1 p2 g2 c2 t8 BA cb ⟨kind, at_, an, mask, ab⟩ m m2 (nrm m) (nrm m2) 7 15) (Drawn.upd f 2)) (v := .int .i64 at_) 68 rfl rfl rfl ?_
            have k1 := hI.act.c1; have k2 := hI.act.c2; have k3 := hI.act.c3; have k4 := hI.act.c4
            have HK := Lib.hid (hI.skip (i := 2) (by decide) (by decide))
            clear hev hdep hI hf
            go_simp
            first | exact HK.out | exact ⟨rfl, HK.out⟩
          · have e8 : a.tmps[8]?.getD undef = .pointer (some ⟨t8, 0, none⟩) := hev 8 rfl
            refine Drawn.wpOp_known ((Two w p1 g1 c1 p2 g2 c2 t8 BA cb ⟨kind, at_, an, mask, ab⟩ m m2 (nrm m) (nrm m2) 7 15) (Drawn.upd f 3)) (v := .pointer (some ⟨t8, 2, none⟩)) 69 rfl rfl rfl ?_
            have HK := Lib.hid (hI.skip (i := 3) (by decide) (by decide))
            clear hev hdep hI hf
            go_simp
            first | exact HK.out | exact ⟨rfl, HK.out⟩
          · have d3 : a.tmps[69]?.getD undef = .pointer (some ⟨t8, 2, none⟩) := (hdep 3 rfl).2
            refine Drawn.wpOp_known ((Two w p1 g1 c1 p2 g2 c2 t8 BA cb ⟨kind, at_, an, mask, ab⟩ m m2 (nrm m) (nrm m2) 7 15) (Drawn.upd f 4)) (v := .int .i64 an) 70 rfl rfl rfl ?_
            have k1 := hI.act.c1; have k2 := hI.act.c2; have k3 := hI.act.c3; have k4 := hI.act.c4
            have HK := Lib.hid (hI.skip (i := 4) (by decide) (by decide))
            clear hev hdep hI hf
            go_simp
            first | exact HK.out | exact ⟨rfl, HK.out⟩
          · have e8 : a.tmps[8]?.getD undef = .pointer (some ⟨t8, 0, none⟩) := hev 8 rfl
            refine Drawn.wpOp_known ((Two w p1 g1 c1 p2 g2 c2 t8 BA cb ⟨kind, at_, an, mask, ab⟩ m m2 (nrm m) (nrm m2) 7 15) (Drawn.upd f 5)) (v := .pointer (some ⟨t8, 3, none⟩)) 71 rfl rfl rfl ?_
            have HK := Lib.hid (hI.skip (i := 5) (by decide) (by decide))
            clear hev hdep hI hf
            go_simp
            first | exact HK.out | exact ⟨rfl, HK.out⟩
          · have d5 : a.tmps[71]?.getD undef = .pointer (some ⟨t8, 3, none⟩) := (hdep 5 rfl).2
            refine Drawn.wpOp_known ((Two w p1 g1 c1 p2 g2 c2 t8 BA cb ⟨kind, at_, an, mask, ab⟩ m m2 (nrm m) (nrm m2) 7 15) (Drawn.upd f 6)) (v := .int .u32 (mask : Nat)) 72 rfl rfl rfl ?_
            have k1 := hI.act.c1; have k2 := hI.act.c2; have k3 := hI.act.c3; have k4 := hI.act.c4
            have HK := Lib.hid (hI.skip (i := 6) (by decide) (by decide))
            clear hev hdep hI hf
            go_simp
            first | exact HK.out | exact ⟨rfl, HK.out⟩
          · have d0 : a.tmps[66]?.getD undef = .pointer (some ⟨p1, 0, none⟩) := (hdep 0 rfl).2
            have d2 : a.tmps[68]?.getD undef = .int .i64 at_ := (hdep 2 rfl).2
            have d4 : a.tmps[70]?.getD undef = .int .i64 an := (hdep 4 rfl).2
            have d6 : a.tmps[72]?.getD undef = .int .u32 (mask : Nat) := (hdep 6 rfl).2
            refine Drawn.wpOp_known ((Two w p1 g1 c1 p2 g2 c2 t8 BA cb ⟨kind, at_, an, mask, ab⟩ m m2 (nrm m) (nrm m2) 7 15) (Drawn.upd f 7)) (v := .bool r) 73 rfl rfl rfl ?_
            have h0 := hI.d10 hf
            have hC := hCW.out w5 h0
            have HI := Lib.hid hI
            clear hev hdep
            go_simp
            refine hC.mono ?_
            rintro e w' ⟨rfl, hd', hq'⟩
            exact ⟨rfl, HI.out.d1go hd' hq' HFAR.out (by decide)⟩
          · have e6 : a.tmps[6]?.getD undef = .pointer (some ⟨p2, 0, none⟩) := hev 6 rfl
            refine Drawn.wpOp_known ((Two w p1 g1 c1 p2 g2 c2 t8 BA cb ⟨kind, at_, an, mask, ab⟩ m m2 (nrm m) (nrm m2) 7 15) (Drawn.upd f 8)) (v := .pointer (some ⟨p2, 0, none⟩)) 74 rfl rfl rfl ?_
            have HK := Lib.hid (hI.skip (i := 8) (by decide) (by decide))
            clear hev hdep hI hf
            go_simp
            first | exact HK.out | exact ⟨rfl, HK.out⟩
          · have e8 : a.tmps[8]?.getD undef = .pointer (some ⟨t8, 0, none⟩) := hev 8 rfl
            refine Drawn.wpOp_known ((Two w p1 g1 c1 p2 g2 c2 t8 BA cb ⟨kind, at_, an, mask, ab⟩ m m2 (nrm m) (nrm m2) 7 15) (Drawn.upd f 9)) (v := .pointer (some ⟨t8, 1, none⟩)) 75 rfl rfl rfl ?_
            have HK := Lib.hid (hI.skip (i := 9) (by decide) (by decide))
            clear hev hdep hI hf
            go_simp
            first | exact HK.out | exact ⟨rfl, HK.out⟩
          · have d9 : a.tmps[75]?.getD undef = .pointer (some ⟨t8, 1, none⟩) := (hdep 9 rfl).2
            refine Drawn.wpOp_known ((Two w p1 g1 c1 p2 g2 c2 t8 BA cb ⟨kind, at_, an, mask, ab⟩ m m2 (nrm m) (nrm m2) 7 15) (Drawn.upd f 10)) (v := .int .i64 at_) 76 rfl rfl rfl ?_
            have k1 := hI.act.c1; have k2 := hI.act.c2; have k3 := hI.act.c3; have k4 := hI.act.c4
            have HK := Lib.hid (hI.skip (i := 10) (by decide) (by decide))
            clear hev hdep hI hf
            go_simp
            first | exact HK.out | exact ⟨rfl, HK.out⟩
          · have e8 : a.tmps[8]?.getD undef = .pointer (some ⟨t8, 0, none⟩) := hev 8 rfl
            refine Drawn.wpOp_known ((Two w p1 g1 c1 p2 g2 c2 t8 BA cb ⟨kind, at_, an, mask, ab⟩ m m2 (nrm m) (nrm m2) 7 15) (Drawn.upd f 11)) (v := .pointer (some ⟨t8, 2, none⟩)) 77 rfl rfl rfl ?_
            have HK := Lib.hid (hI.skip (i := 11) (by decide) (by decide))
            clear hev hdep hI hf
            go_simp
            first | exact HK.out | exact ⟨rfl, HK.out⟩
          · have d11 : a.tmps[77]?.getD undef = .pointer (some ⟨t8, 2, none⟩) := (hdep 11 rfl).2
            refine Drawn.wpOp_known ((Two w p1 g1 c1 p2 g2 c2 t8 BA cb ⟨kind, at_, an, mask, ab⟩ m m2 (nrm m) (nrm m2) 7 15) (Drawn.upd f 12)) (v := .int .i64 an) 78 rfl rfl rfl ?_
            have k1 := hI.act.c1; have k2 := hI.act.c2; have k3 := hI.act.c3; have k4 := hI.act.c4
            have HK := Lib.hid (hI.skip (i := 12) (by decide) (by decide))
            clear hev hdep hI hf
            go_simp
            first | exact HK.out | exact ⟨rfl, HK.out⟩
          · have e8 : a.tmps[8]?.getD undef = .pointer (some ⟨t8, 0, none⟩) := hev 8 rfl
            refine Drawn.wpOp_known ((Two w p1 g1 c1 p2 g2 c2 t8 BA cb ⟨kind, at_, an, mask, ab⟩ m m2 (nrm m) (nrm m2) 7 15) (Drawn.upd f 13)) (v := .pointer (some ⟨t8, 3, none⟩)) 79 rfl rfl rfl ?_
            have HK := Lib.hid (hI.skip (i := 13) (by decide) (by decide))
            clear hev hdep hI hf
            go_simp
            first | exact HK.out | exact ⟨rfl, HK.out⟩
          · have d13 : a.tmps[79]?.getD undef = .pointer (some ⟨t8, 3, none⟩) := (hdep 13 rfl).2
            refine Drawn.wpOp_known ((Two w p1 g1 c1 p2 g2 c2 t8 BA cb ⟨kind, at_, an, mask, ab⟩ m m2 (nrm m) (nrm m2) 7 15) (Drawn.upd f 14)) (v := .int .u32 (mask : Nat)) 80 rfl rfl rfl ?_
            have k1 := hI.act.c1; have k2 := hI.act.c2; have k3 := hI.act.c3; have k4 := hI.act.c4
            have HK := Lib.hid (hI.skip (i := 14) (by decide) (by decide))
            clear hev hdep hI hf
            go_simp
            first | exact HK.out | exact ⟨rfl, HK.out⟩
          · have d8 : a.tmps[74]?.getD undef = .pointer (some ⟨p2, 0, none⟩) := (hdep 8 rfl).2
            have d10 : a.tmps[76]?.getD undef = .int .i64 at_ := (hdep 10 rfl).2
            have d12 : a.tmps[78]?.getD undef = .int .i64 an := (hdep 12 rfl).2
            have d14 : a.tmps[80]?.getD undef = .int .u32 (mask : Nat) := (hdep 14 rfl).2
            refine Drawn.wpOp_known ((Two w p1 g1 c1 p2 g2 c2 t8 BA cb ⟨kind, at_, an, mask, ab⟩ m m2 (nrm m) (nrm m2) 7 15) (Drawn.upd f 15)) (v := .bool r) 81 rfl rfl rfl ?_
            have h0 := hI.d20 hf
            have hC := hCR.out w5 h0
            have HI := Lib.hid hI
            clear hev hdep
            go_simp
            refine hC.mono ?_
            rintro e w' ⟨rfl, hd', hq'⟩
            exact ⟨rfl, HI.out.d2go hd' hq' HFAR.out (by decide)⟩
          · have d7 : a.tmps[73]?.getD undef = .bool r := (hdep 7 rfl).2
            have d15 : a.tmps[81]?.getD undef = .bool r := (hdep 15 rfl).2
            refine Drawn.wpOp_known ((Two w p1 g1 c1 p2 g2 c2 t8 BA cb ⟨kind, at_, an, mask, ab⟩ m m2 (nrm m) (nrm m2) 7 15) (Drawn.upd f 16)) (v := .bool false) 82 rfl rfl rfl ?_
            have HK := Lib.hid (hI.skip (i := 16) (by decide) (by decide))
            clear hev hdep hI hf
            go_simp
            first | exact HK.out | exact ⟨rfl, HK.out⟩
        · intro f w5 hf hI
          show Exit.then _ _ Exit.normal (Drawn.acts _ [(82, some (.bool false)), (81, some (.bool r)), (80, some (.int .u32 (mask : Nat))), (79, some (.pointer (some ⟨t8, 3, none⟩))), (78, some (.int .i64 an)), (77, some (.pointer (some ⟨t8, 2, none⟩))), (76, some (.int .i64 at_)), (75, some (.pointer (some ⟨t8, 1, none⟩))), (74, some (.pointer (some ⟨p2, 0, none⟩))), (73, some (.bool r)), (72, some (.int .u32 (mask : Nat))), (71, some (.pointer (some ⟨t8, 3, none⟩))), (70, some (.int .i64 an)), (69, some (.pointer (some ⟨t8, 2, none⟩))), (68, some (.int .i64 at_)), (67, some (.pointer (some ⟨t8, 1, none⟩))), (66, some (.pointer (some ⟨p1, 0, none⟩)))]) _
          have HD5 := Lib.hid (hI.d1 (hf 7 (by omega))); have HE5 := Lib.hid (hI.d2 (hf 15 (by omega))); have HB5 := Lib.hid hI.below
          clear hI hf
          simp only [Drawn.acts]
          go_simp
          go_at_K
          obtain ⟨n0, hn0⟩ : ∃ n0, n0 = (m2).b.length := ⟨_, rfl⟩
          obtain ⟨s0, hs0⟩ : ∃ s0, s0 = n0 / 64 := ⟨_, rfl⟩
          obtain ⟨d0, hd0⟩ : ∃ d0, d0 = (m2).dead := ⟨_, rfl⟩
          have hn0l : n0 ≤ 32768 := by rw [hn0, HML2.out]; have := HSZ.out; omega
          have HDe : Hid (∀ W, Below w5.heap.size w5 W → Calls Try.prog 20 #[.pointer (some ⟨p1, 0, none⟩)] W fun e w' => e = .returned (.bool d0) ∧ W = w') := Lib.hid (fun W hW => by rw [hd0]; exact dead_any p1 g1 c1 _ W (HD5.out.below hW))
          have HSz : Hid (∀ W, Below w5.heap.size w5 W → Calls Try.prog 21 #[.pointer (some ⟨p1, 0, none⟩)] W fun e w' => e = .returned (.int .i64 (s0 : Nat)) ∧ W = w') := Lib.hid (fun W hW => by
            have := size_any p1 g1 c1 _ W (HD5.out.below hW) (by rw [← hn0]; exact hn0l)
            rw [← hn0, ← hs0] at this
            exact this)
          have HC0 : Hid (∀ W, Below w5.heap.size w5 W → W.cell? ⟨p2, 0, none⟩ = some (.slice (some ⟨g2, 0, none⟩) n0 c2)) := Lib.hid (fun W hW => by rw [hn0]; exact (HE5.out.below hW).c0)
          have HC2 : Hid (∀ W, Below w5.heap.size w5 W → W.cell? ⟨p2, 2, none⟩ = some (.bool d0)) := Lib.hid (fun W hW => by rw [hd0]; exact (HE5.out.below hW).c2)
          have hq0 : ((n0 : Nat) : Int).tdiv 64 = (s0 : Nat) := by rw [hs0]; rfl
          have hs0l : s0 ≤ 512 := by omega
          have hw0 : IntKind.i64.wrap ((s0 : Nat) : Int) = (s0 : Nat) := IntWalk.i64_in _ (by omega)
          clear hn0 hs0 hd0
          go_wp2_with fail
          refine Drawn.wp_region_flowL 18 [Drawn.SP.is (.pointer (some ⟨p1, 0, none⟩)), Drawn.SP.is (.bool d0), Drawn.SP.is (.pointer (some ⟨p2, 0, none⟩)), Drawn.SP.is (.pointer (some ⟨p2, 0, none⟩)), Drawn.SP.is (.pointer (some ⟨p2, 2, none⟩)), Drawn.SP.is (.bool d0), Drawn.SP.is (.bool false), Drawn.SP.is (.bool false), Drawn.SP.is (.pointer (some ⟨p1, 0, none⟩)), Drawn.SP.is (.int .i64 (s0 : Nat)), Drawn.SP.is (.pointer (some ⟨p2, 0, none⟩)), Drawn.SP.is (.pointer (some ⟨p2, 0, none⟩)), Drawn.SP.is (.pointer (some ⟨p2, 0, none⟩)), Drawn.SP.is (.slice (some ⟨g2, 0, none⟩) n0 c2), Drawn.SP.is (.int .i64 (n0 : Nat)), Drawn.SP.is (.int .i64 (s0 : Nat)), Drawn.SP.is (.bool false), Drawn.SP.is (.bool false)] (by kernel_rfl) (by kernel_rfl) ?_ ?_
          · intro i hi a w9 hb hev hdep
            rcases (show i = 0 ∨ i = 1 ∨ i = 2 ∨ i = 3 ∨ i = 4 ∨ i = 5 ∨ i = 6 ∨ i = 7 ∨ i = 8 ∨ i = 9 ∨ i = 10 ∨ i = 11 ∨ i = 12 ∨ i = 13 ∨ i = 14 ∨ i = 15 ∨ i = 16 ∨ i = 17 by omega) with rfl | rfl | rfl | rfl | rfl | rfl | rfl | rfl | rfl | rfl | rfl | rfl | rfl | rfl | rfl | rfl | rfl | rfl
            · have e5 : a.tmps[5]?.getD undef = .pointer (some ⟨p1, 0, none⟩) := hev 5 rfl
              refine Drawn.wpOp_flow 96 rfl rfl rfl ?_
              clear hev hdep hb
              go_simp
              exact ⟨_, rfl, rfl, Below.refl _ _⟩
            · have d0 : a.tmps[96]?.getD undef = .pointer (some ⟨p1, 0, none⟩) := hdep 0 rfl
              refine Drawn.wpOp_flow 97 rfl rfl rfl ?_
              clear hev hdep
              have C := HDe.out w9 hb
              clear hb
              go_simp
              refine C.mono ?_
              rintro e w' ⟨rfl, rfl⟩
              exact ⟨_, rfl, rfl, Below.refl _ _⟩
            · have e6 : a.tmps[6]?.getD undef = .pointer (some ⟨p2, 0, none⟩) := hev 6 rfl
              refine Drawn.wpOp_flow 98 rfl rfl rfl ?_
              clear hev hdep hb
              go_simp
              exact ⟨_, rfl, rfl, Below.refl _ _⟩
            · have d2 : a.tmps[98]?.getD undef = .pointer (some ⟨p2, 0, none⟩) := hdep 2 rfl
              refine Drawn.wpOp_flow 99 rfl rfl rfl ?_
              clear hev hdep hb
              go_simp
              exact ⟨_, rfl, rfl, Below.refl _ _⟩
            · have d3 : a.tmps[99]?.getD undef = .pointer (some ⟨p2, 0, none⟩) := hdep 3 rfl
              refine Drawn.wpOp_flow 100 rfl rfl rfl ?_
              clear hev hdep hb
              go_simp
              exact ⟨_, rfl, rfl, Below.refl _ _⟩
            · have d4 : a.tmps[100]?.getD undef = .pointer (some ⟨p2, 2, none⟩) := hdep 4 rfl
              refine Drawn.wpOp_flow 101 rfl rfl rfl ?_
              have k0 := HC0.out w9 hb; have k2 := HC2.out w9 hb
              clear hev hdep hb
              go_simp
              exact ⟨_, rfl, rfl, Below.refl _ _⟩
            · have d1 : a.tmps[97]?.getD undef = .bool d0 := hdep 1 rfl
              have d5 : a.tmps[101]?.getD undef = .bool d0 := hdep 5 rfl
              refine Drawn.wpOp_flow 102 rfl rfl rfl ?_
              clear hev hdep hb
              go_simp
              exact ⟨_, rfl, rfl, Below.refl _ _⟩
            · have d6 : a.tmps[102]?.getD undef = .bool false := hdep 6 rfl
              refine Drawn.wpOp_flow 103 rfl rfl rfl ?_
              clear hev hdep hb
              go_simp
              exact ⟨_, rfl, rfl, Below.refl _ _⟩
            · have e5 : a.tmps[5]?.getD undef = .pointer (some ⟨p1, 0, none⟩) := hev 5 rfl
              have dg : a.tmps[103]?.getD undef = .bool false := hdep 7 rfl
              refine Drawn.wpOp_flow 104 rfl (Drawn.wanted_of rfl rfl rfl dg) rfl ?_
              clear dg
              clear hev hdep hb
              go_simp
              exact ⟨_, rfl, rfl, Below.refl _ _⟩
            · have d8 : a.tmps[104]?.getD undef = .pointer (some ⟨p1, 0, none⟩) := hdep 8 rfl
              have dg : a.tmps[103]?.getD undef = .bool false := hdep 7 rfl
              refine Drawn.wpOp_flow 105 rfl (Drawn.wanted_of rfl rfl rfl dg) rfl ?_
              clear hev hdep
              have C := HSz.out w9 hb
              clear hb
              go_simp
              refine C.mono ?_
              rintro e w' ⟨rfl, rfl⟩
              exact ⟨_, rfl, rfl, Below.refl _ _⟩
            · have e6 : a.tmps[6]?.getD undef = .pointer (some ⟨p2, 0, none⟩) := hev 6 rfl
              have dg : a.tmps[103]?.getD undef = .bool false := hdep 7 rfl
              refine Drawn.wpOp_flow 106 rfl (Drawn.wanted_of rfl rfl rfl dg) rfl ?_
              clear dg
              clear hev hdep hb
              go_simp
              exact ⟨_, rfl, rfl, Below.refl _ _⟩
            · have d10 : a.tmps[106]?.getD undef = .pointer (some ⟨p2, 0, none⟩) := hdep 10 rfl
              have dg : a.tmps[103]?.getD undef = .bool false := hdep 7 rfl
              refine Drawn.wpOp_flow 107 rfl (Drawn.wanted_of rfl rfl rfl dg) rfl ?_
              clear dg
              clear hev hdep hb
              go_simp
              exact ⟨_, rfl, rfl, Below.refl _ _⟩
            · have d11 : a.tmps[107]?.getD undef = .pointer (some ⟨p2, 0, none⟩) := hdep 11 rfl
              have dg : a.tmps[103]?.getD undef = .bool false := hdep 7 rfl
              refine Drawn.wpOp_flow 108 rfl (Drawn.wanted_of rfl rfl rfl dg) rfl ?_
              clear dg
              clear hev hdep hb
              go_simp
              exact ⟨_, rfl, rfl, Below.refl _ _⟩
            · have d12 : a.tmps[108]?.getD undef = .pointer (some ⟨p2, 0, none⟩) := hdep 12 rfl
              have dg : a.tmps[103]?.getD undef = .bool false := hdep 7 rfl
              refine Drawn.wpOp_flow 109 rfl (Drawn.wanted_of rfl rfl rfl dg) rfl ?_
              have k0 := HC0.out w9 hb; have k2 := HC2.out w9 hb
              clear dg
              clear hev hdep hb
              go_simp
              exact ⟨_, rfl, rfl, Below.refl _ _⟩
            · have d13 : a.tmps[109]?.getD undef = .slice (some ⟨g2, 0, none⟩) n0 c2 := hdep 13 rfl
              have dg : a.tmps[103]?.getD undef = .bool false := hdep 7 rfl
              refine Drawn.wpOp_flow 110 rfl (Drawn.wanted_of rfl rfl rfl dg) rfl ?_
              clear dg
              clear hev hdep hb
              go_simp
              exact ⟨_, rfl, rfl, Below.refl _ _⟩
            · have d14 : a.tmps[110]?.getD undef = .int .i64 (n0 : Nat) := hdep 14 rfl
              have dg : a.tmps[103]?.getD undef = .bool false := hdep 7 rfl
              refine Drawn.wpOp_flow 111 rfl (Drawn.wanted_of rfl rfl rfl dg) rfl ?_
              clear dg
              clear hev hdep hb
              go_simp
              exact ⟨_, rfl, rfl, Below.refl _ _⟩
            · have d9 : a.tmps[105]?.getD undef = .int .i64 (s0 : Nat) := hdep 9 rfl
              have d15 : a.tmps[111]?.getD undef = .int .i64 (s0 : Nat) := hdep 15 rfl
              have dg : a.tmps[103]?.getD undef = .bool false := hdep 7 rfl
              refine Drawn.wpOp_flow 112 rfl (Drawn.wanted_of rfl rfl rfl dg) rfl ?_
              clear dg
              clear hev hdep hb
              go_simp
              exact ⟨_, rfl, rfl, Below.refl _ _⟩
            · have d7 : a.tmps[103]?.getD undef = .bool false := hdep 7 rfl
              have d16 : a.tmps[112]?.getD undef = .bool false := hdep 16 rfl
              refine Drawn.wpOp_flow 113 rfl rfl rfl ?_
              clear hev hdep hb
              go_simp
              exact ⟨_, rfl, rfl, Below.refl _ _⟩
          · intro xq w9 hb hxq
            have vq0 : xq 0 = .pointer (some ⟨p1, 0, none⟩) := hxq 0 (by omega)
            have vq1 : xq 1 = .bool d0 := hxq 1 (by omega)
            have vq2 : xq 2 = .pointer (some ⟨p2, 0, none⟩) := hxq 2 (by omega)
            have vq3 : xq 3 = .pointer (some ⟨p2, 0, none⟩) := hxq 3 (by omega)
            have vq4 : xq 4 = .pointer (some ⟨p2, 2, none⟩) := hxq 4 (by omega)
            have vq5 : xq 5 = .bool d0 := hxq 5 (by omega)
            have vq6 : xq 6 = .bool false := hxq 6 (by omega)
            have vq7 : xq 7 = .bool false := hxq 7 (by omega)
            have vq8 : xq 8 = .pointer (some ⟨p1, 0, none⟩) := hxq 8 (by omega)
            have vq9 : xq 9 = .int .i64 (s0 : Nat) := hxq 9 (by omega)
            have vq10 : xq 10 = .pointer (some ⟨p2, 0, none⟩) := hxq 10 (by omega)
            have vq11 : xq 11 = .pointer (some ⟨p2, 0, none⟩) := hxq 11 (by omega)
            have vq12 : xq 12 = .pointer (some ⟨p2, 0, none⟩) := hxq 12 (by omega)
            have vq13 : xq 13 = .slice (some ⟨g2, 0, none⟩) n0 c2 := hxq 13 (by omega)
            have vq14 : xq 14 = .int .i64 (n0 : Nat) := hxq 14 (by omega)
            have vq15 : xq 15 = .int .i64 (s0 : Nat) := hxq 15 (by omega)
            have vq16 : xq 16 = .bool false := hxq 16 (by omega)
            have vq17 : xq 17 = .bool false := hxq 17 (by omega)
            show Exit.then _ _ Exit.normal (Drawn.acts _ [(113, some (xq 17)), (112, some (xq 16)), (111, some (xq 15)), (110, some (xq 14)), (109, some (xq 13)), (108, some (xq 12)), (107, some (xq 11)), (106, some (xq 10)), (105, some (xq 9)), (104, some (xq 8)), (103, some (xq 7)), (102, some (xq 6)), (101, some (xq 5)), (100, some (xq 4)), (99, some (xq 3)), (98, some (xq 2)), (97, some (xq 1)), (96, some (xq 0))]) _
            rw [vq0, vq1, vq2, vq3, vq4, vq5, vq6, vq7, vq8, vq9, vq10, vq11, vq12, vq13, vq14, vq15, vq16, vq17]
            clear hxq vq0 vq1 vq2 vq3 vq4 vq5 vq6 vq7 vq8 vq9 vq10 vq11 vq12 vq13 vq14 vq15 vq16 vq17
            clear xq
            simp only [Drawn.acts]
            go_simp
            have HD9 := Lib.hid (HD5.out.below hb); have HE9 := Lib.hid (HE5.out.below hb); have HB9 := Lib.hid (HB5.out.trans (hb.mono HB5.out.size))
            clear hb
            go_at_K
            go_wp2
            go_roundw
            case rel => exact ⟨k + 1, m2, g2, c2, by omega, by go_num, HFI2.out, HML2.out, HD9.out, HE9.out, HG.out, HB9.out⟩
            case measure => simp [intOf] <;> omega
      by_cases hk3 : kind = 3
      · have q0 : (kind == 0) = false := by rw [hk3]; rfl
        have q1 : (kind == 1) = false := by rw [hk3]; rfl
        have q2 : (kind == 2) = false := by rw [hk3]; rfl
        have q3 : (kind == 3) = true := by rw [hk3]; rfl
        have HFI2 : Hid (Fine m.wipe) := Lib.hid HFI.out
        have HML2 : Hid (m.wipe.b.length = 64 * sz) := Lib.hid ((SecM.noughts_len _).trans HML.out)
        have hl0 : m.b.length ≤ 32768 := by rw [HML.out]; have := HSZ.out; omega
        have hl1 : 0 < m.b.length := by rw [HML.out]; have := HSZ.out; omega
        have hC1 : Hid (∀ W, DAt W p1 g1 c1 m → Calls Try.prog 16 #[.pointer (some ⟨p1, 0, none⟩)] W fun e w' => e = .returned (.tuple #[]) ∧ DAt w' p1 g1 c1 m.wipe ∧ Keeps (PG p1 g1) W w') := Lib.hid (fun W hd => (wipe_any p1 g1 c1 m W hd hl1).mono fun e w' ⟨a, b, c⟩ => ⟨a, b, c.mono fun k _ h => .inr h⟩)
        obtain ⟨n1, hn1⟩ : ∃ n1, n1 = m.b.length := ⟨_, rfl⟩
        have hRB : Hid (∀ W, DAt W p2 g2 c2 (nrm m) → DAt ((W.setCell ⟨p2, 0, none⟩ (.slice (some ⟨W.heap.size, 0, none⟩) n1 n1)).alloc (.cells (cells (List.replicate n1 0)) 5)) p2 W.heap.size n1 (nrm m.wipe) ∧ Keeps (fun k => k = p2) W ((W.setCell ⟨p2, 0, none⟩ (.slice (some ⟨W.heap.size, 0, none⟩) n1 n1)).alloc (.cells (cells (List.replicate n1 0)) 5))) := Lib.hid (fun W hd => by
          have := rebased hd n1 (by rw [hn1]; exact hl0)
          rw [hn1] at this ⊢
          exact this)
        have hC0 : Hid (∀ W, DAt W p2 g2 c2 (nrm m) → W.cell? ⟨p2, 0, none⟩ = some (.slice (some ⟨g2, 0, none⟩) n1 c2)) := Lib.hid (fun W hd => by rw [hn1]; exact hd.c0)
        have hmk := fun W => make_u8 n1 (by rw [hn1]; omega) W
        have hn1l : n1 ≤ 32768 := by rw [hn1]; exact hl0
        obtain ⟨m2, hm2⟩ : ∃ m2, m2 = m.wipe := ⟨_, rfl⟩
        rw [← hm2] at HFI2 HML2 hC1 hRB
        clear hk0 hk1 hk2 hk3 hm2 hn1 hl0 hl1
        go_wp2_with fail
        refine (hC1.out _ HD1.out).mono ?_
        rintro e w4 ⟨rfl, d4, q4⟩
        have HD4 := Lib.hid d4
        have HE4 := Lib.hid (keep_far q4 HD2.out (by have := HFAR.out; exact fun e => this.a1 e.symm) (by have := HFAR.out; exact fun e => this.a3 e.symm) (by have := HFAR.out; exact fun e => this.a2 e.symm) (by have := HFAR.out; exact fun e => this.a4 e.symm))
        have HB4 := Lib.hid (own_keep HBA.out q4 HFAR.out.l1 HFAR.out.l2)
        have c0 := hC0.out w4 HE4.out
        have f0 := HE4.out.f0
        have hpl := HE4.out.lt.1
        have hpd := HD4.out.lt
        have hsb := HB4.out.size
        obtain ⟨hE5, hq5⟩ := hRB.out w4 HE4.out
        have hB5 := own_keep HB4.out (hq5.mono (G := PG p2 g2) fun k _ h => .inl h) HFAR.out.l3 HFAR.out.l4
        have hD5 := keep_far (hq5.mono (G := PG p2 g2) fun k _ h => .inl h) HD4.out HFAR.out.a1 HFAR.out.a2 HFAR.out.a3 HFAR.out.a4
        have HE5 := Lib.hid hE5; have HB5 := Lib.hid hB5; have HD5 := Lib.hid hD5
        obtain ⟨G5, hG5⟩ : ∃ G5, G5 = w4.heap.size := ⟨_, rfl⟩
        have HG5 : Hid (G5 ≠ p1 ∧ G5 ≠ g1 ∧ w.heap.size ≤ G5) := Lib.hid (by omega)
        clear d4 q4 hE5 hq5 hB5 hD5 hpd
        go_wp2_with fail
        rw [← hG5] at HE5 HB5 HD5 ⊢
        clear c0 f0 hpl hsb hmk hG5
        generalize (w4.setCell ⟨p2, 0, none⟩ (.slice (some ⟨G5, 0, none⟩) n1 n1)).alloc (.cells (cells (List.replicate n1 0)) 5) = w5 at *
        obtain ⟨n0, hn0⟩ : ∃ n0, n0 = (m2).b.length := ⟨_, rfl⟩
        obtain ⟨s0, hs0⟩ : ∃ s0, s0 = n0 / 64 := ⟨_, rfl⟩
        obtain ⟨d0, hd0⟩ : ∃ d0, d0 = (m2).dead := ⟨_, rfl⟩
        have hn0l : n0 ≤ 32768 := by rw [hn0, HML2.out]; have := HSZ.out; omega
        have HDe : Hid (∀ W, Below w5.heap.size w5 W → Calls Try.prog 20 #[.pointer (some ⟨p1, 0, none⟩)] W fun e w' => e = .returned (.bool d0) ∧ W = w') := Lib.hid (fun W hW => by rw [hd0]; exact dead_any p1 g1 c1 _ W (HD5.out.below hW))
        have HSz : Hid (∀ W, Below w5.heap.size w5 W → Calls Try.prog 21 #[.pointer (some ⟨p1, 0, none⟩)] W fun e w' => e = .returned (.int .i64 (s0 : Nat)) ∧ W = w') := Lib.hid (fun W hW => by
          have := size_any p1 g1 c1 _ W (HD5.out.below hW) (by rw [← hn0]; exact hn0l)
          rw [← hn0, ← hs0] at this
          exact this)
        have HC0 : Hid (∀ W, Below w5.heap.size w5 W → W.cell? ⟨p2, 0, none⟩ = some (.slice (some ⟨G5, 0, none⟩) n0 n1)) := Lib.hid (fun W hW => by rw [hn0]; exact (HE5.out.below hW).c0)
        have HC2 : Hid (∀ W, Below w5.heap.size w5 W → W.cell? ⟨p2, 2, none⟩ = some (.bool d0)) := Lib.hid (fun W hW => by rw [hd0]; exact (HE5.out.below hW).c2)
        have hq0 : ((n0 : Nat) : Int).tdiv 64 = (s0 : Nat) := by rw [hs0]; rfl
        have hs0l : s0 ≤ 512 := by omega
        have hw0 : IntKind.i64.wrap ((s0 : Nat) : Int) = (s0 : Nat) := IntWalk.i64_in _ (by omega)
        clear hn0 hs0 hd0
        refine Drawn.wp_region_flowL 18 [Drawn.SP.is (.pointer (some ⟨p1, 0, none⟩)), Drawn.SP.is (.bool d0), Drawn.SP.is (.pointer (some ⟨p2, 0, none⟩)), Drawn.SP.is (.pointer (some ⟨p2, 0, none⟩)), Drawn.SP.is (.pointer (some ⟨p2, 2, none⟩)), Drawn.SP.is (.bool d0), Drawn.SP.is (.bool false), Drawn.SP.is (.bool false), Drawn.SP.is (.pointer (some ⟨p1, 0, none⟩)), Drawn.SP.is (.int .i64 (s0 : Nat)), Drawn.SP.is (.pointer (some ⟨p2, 0, none⟩)), Drawn.SP.is (.pointer (some ⟨p2, 0, none⟩)), Drawn.SP.is (.pointer (some ⟨p2, 0, none⟩)), Drawn.SP.is (.slice (some ⟨G5, 0, none⟩) n0 n1), Drawn.SP.is (.int .i64 (n0 : Nat)), Drawn.SP.is (.int .i64 (s0 : Nat)), Drawn.SP.is (.bool false), Drawn.SP.is (.bool false)] (by kernel_rfl) (by kernel_rfl) ?_ ?_
        · intro i hi a w9 hb hev hdep
          rcases (show i = 0 ∨ i = 1 ∨ i = 2 ∨ i = 3 ∨ i = 4 ∨ i = 5 ∨ i = 6 ∨ i = 7 ∨ i = 8 ∨ i = 9 ∨ i = 10 ∨ i = 11 ∨ i = 12 ∨ i = 13 ∨ i = 14 ∨ i = 15 ∨ i = 16 ∨ i = 17 by omega) with rfl | rfl | rfl | rfl | rfl | rfl | rfl | rfl | rfl | rfl | rfl | rfl | rfl | rfl | rfl | rfl | rfl | rfl
          · have e5 : a.tmps[5]?.getD undef = .pointer (some ⟨p1, 0, none⟩) := hev 5 rfl
            refine Drawn.wpOp_flow 96 rfl rfl rfl ?_
            clear hev hdep hb
            go_simp
            exact ⟨_, rfl, rfl, Below.refl _ _⟩
          · have d0 : a.tmps[96]?.getD undef = .pointer (some ⟨p1, 0, none⟩) := hdep 0 rfl
            refine Drawn.wpOp_flow 97 rfl rfl rfl ?_
            clear hev hdep
            have C := HDe.out w9 hb
            clear hb
            go_simp
            refine C.mono ?_
            rintro e w' ⟨rfl, rfl⟩
            exact ⟨_, rfl, rfl, Below.refl _ _⟩
          · have e6 : a.tmps[6]?.getD undef = .pointer (some ⟨p2, 0, none⟩) := hev 6 rfl
            refine Drawn.wpOp_flow 98 rfl rfl rfl ?_
            clear hev hdep hb
            go_simp
            exact ⟨_, rfl, rfl, Below.refl _ _⟩
          · have d2 : a.tmps[98]?.getD undef = .pointer (some ⟨p2, 0, none⟩) := hdep 2 rfl
            refine Drawn.wpOp_flow 99 rfl rfl rfl ?_
            clear hev hdep hb
            go_simp
            exact ⟨_, rfl, rfl, Below.refl _ _⟩
          · have d3 : a.tmps[99]?.getD undef = .pointer (some ⟨p2, 0, none⟩) := hdep 3 rfl
            refine Drawn.wpOp_flow 100 rfl rfl rfl ?_
            clear hev hdep hb
            go_simp
            exact ⟨_, rfl, rfl, Below.refl _ _⟩
          · have d4 : a.tmps[100]?.getD undef = .pointer (some ⟨p2, 2, none⟩) := hdep 4 rfl
            refine Drawn.wpOp_flow 101 rfl rfl rfl ?_
            have k0 := HC0.out w9 hb; have k2 := HC2.out w9 hb
            clear hev hdep hb
            go_simp
            exact ⟨_, rfl, rfl, Below.refl _ _⟩
          · have d1 : a.tmps[97]?.getD undef = .bool d0 := hdep 1 rfl
            have d5 : a.tmps[101]?.getD undef = .bool d0 := hdep 5 rfl
            refine Drawn.wpOp_flow 102 rfl rfl rfl ?_
            clear hev hdep hb
            go_simp
            exact ⟨_, rfl, rfl, Below.refl _ _⟩
          · have d6 : a.tmps[102]?.getD undef = .bool false := hdep 6 rfl
            refine Drawn.wpOp_flow 103 rfl rfl rfl ?_
            clear hev hdep hb
            go_simp
            exact ⟨_, rfl, rfl, Below.refl _ _⟩
          · have e5 : a.tmps[5]?.getD undef = .pointer (some ⟨p1, 0, none⟩) := hev 5 rfl
            have dg : a.tmps[103]?.getD undef = .bool false := hdep 7 rfl
            refine Drawn.wpOp_flow 104 rfl (Drawn.wanted_of rfl rfl rfl dg) rfl ?_
            clear dg
            clear hev hdep hb
            go_simp
            exact ⟨_, rfl, rfl, Below.refl _ _⟩
          · have d8 : a.tmps[104]?.getD undef = .pointer (some ⟨p1, 0, none⟩) := hdep 8 rfl
            have dg : a.tmps[103]?.getD undef = .bool false := hdep 7 rfl
            refine Drawn.wpOp_flow 105 rfl (Drawn.wanted_of rfl rfl rfl dg) rfl ?_
            clear hev hdep
            have C := HSz.out w9 hb
            clear hb
            go_simp
            refine C.mono ?_
            rintro e w' ⟨rfl, rfl⟩
            exact ⟨_, rfl, rfl, Below.refl _ _⟩
          · have e6 : a.tmps[6]?.getD undef = .pointer (some ⟨p2, 0, none⟩) := hev 6 rfl
            have dg : a.tmps[103]?.getD undef = .bool false := hdep 7 rfl
            refine Drawn.wpOp_flow 106 rfl (Drawn.wanted_of rfl rfl rfl dg) rfl ?_
            clear dg
            clear hev hdep hb
            go_simp
            exact ⟨_, rfl, rfl, Below.refl _ _⟩
          · have d10 : a.tmps[106]?.getD undef = .pointer (some ⟨p2, 0, none⟩) := hdep 10 rfl
            have dg : a.tmps[103]?.getD undef = .bool false := hdep 7 rfl
            refine Drawn.wpOp_flow 107 rfl (Drawn.wanted_of rfl rfl rfl dg) rfl ?_
            clear dg
            clear hev hdep hb
            go_simp
            exact ⟨_, rfl, rfl, Below.refl _ _⟩
          · have d11 : a.tmps[107]?.getD undef = .pointer (some ⟨p2, 0, none⟩) := hdep 11 rfl
            have dg : a.tmps[103]?.getD undef = .bool false := hdep 7 rfl
            refine Drawn.wpOp_flow 108 rfl (Drawn.wanted_of rfl rfl rfl dg) rfl ?_
            clear dg
            clear hev hdep hb
            go_simp
            exact ⟨_, rfl, rfl, Below.refl _ _⟩
          · have d12 : a.tmps[108]?.getD undef = .pointer (some ⟨p2, 0, none⟩) := hdep 12 rfl
            have dg : a.tmps[103]?.getD undef = .bool false := hdep 7 rfl
            refine Drawn.wpOp_flow 109 rfl (Drawn.wanted_of rfl rfl rfl dg) rfl ?_
            have k0 := HC0.out w9 hb; have k2 := HC2.out w9 hb
            clear dg
            clear hev hdep hb
            go_simp
            exact ⟨_, rfl, rfl, Below.refl _ _⟩
          · have d13 : a.tmps[109]?.getD undef = .slice (some ⟨G5, 0, none⟩) n0 n1 := hdep 13 rfl
            have dg : a.tmps[103]?.getD undef = .bool false := hdep 7 rfl
            refine Drawn.wpOp_flow 110 rfl (Drawn.wanted_of rfl rfl rfl dg) rfl ?_
            clear dg
            clear hev hdep hb
            go_simp
            exact ⟨_, rfl, rfl, Below.refl _ _⟩
          · have d14 : a.tmps[110]?.getD undef = .int .i64 (n0 : Nat) := hdep 14 rfl
            have dg : a.tmps[103]?.getD undef = .bool false := hdep 7 rfl
            refine Drawn.wpOp_flow 111 rfl (Drawn.wanted_of rfl rfl rfl dg) rfl ?_
            clear dg
            clear hev hdep hb
            go_simp
            exact ⟨_, rfl, rfl, Below.refl _ _⟩
          · have d9 : a.tmps[105]?.getD undef = .int .i64 (s0 : Nat) := hdep 9 rfl
            have d15 : a.tmps[111]?.getD undef = .int .i64 (s0 : Nat) := hdep 15 rfl
            have dg : a.tmps[103]?.getD undef = .bool false := hdep 7 rfl
            refine Drawn.wpOp_flow 112 rfl (Drawn.wanted_of rfl rfl rfl dg) rfl ?_
            clear dg
            clear hev hdep hb
            go_simp
            exact ⟨_, rfl, rfl, Below.refl _ _⟩
          · have d7 : a.tmps[103]?.getD undef = .bool false := hdep 7 rfl
            have d16 : a.tmps[112]?.getD undef = .bool false := hdep 16 rfl
            refine Drawn.wpOp_flow 113 rfl rfl rfl ?_
            clear hev hdep hb
            go_simp
            exact ⟨_, rfl, rfl, Below.refl _ _⟩
        · intro xq w9 hb hxq
          have vq0 : xq 0 = .pointer (some ⟨p1, 0, none⟩) := hxq 0 (by omega)
          have vq1 : xq 1 = .bool d0 := hxq 1 (by omega)
          have vq2 : xq 2 = .pointer (some ⟨p2, 0, none⟩) := hxq 2 (by omega)
          have vq3 : xq 3 = .pointer (some ⟨p2, 0, none⟩) := hxq 3 (by omega)
          have vq4 : xq 4 = .pointer (some ⟨p2, 2, none⟩) := hxq 4 (by omega)
          have vq5 : xq 5 = .bool d0 := hxq 5 (by omega)
          have vq6 : xq 6 = .bool false := hxq 6 (by omega)
          have vq7 : xq 7 = .bool false := hxq 7 (by omega)
          have vq8 : xq 8 = .pointer (some ⟨p1, 0, none⟩) := hxq 8 (by omega)
          have vq9 : xq 9 = .int .i64 (s0 : Nat) := hxq 9 (by omega)
          have vq10 : xq 10 = .pointer (some ⟨p2, 0, none⟩) := hxq 10 (by omega)
          have vq11 : xq 11 = .pointer (some ⟨p2, 0, none⟩) := hxq 11 (by omega)
          have vq12 : xq 12 = .pointer (some ⟨p2, 0, none⟩) := hxq 12 (by omega)
          have vq13 : xq 13 = .slice (some ⟨G5, 0, none⟩) n0 n1 := hxq 13 (by omega)
          have vq14 : xq 14 = .int .i64 (n0 : Nat) := hxq 14 (by omega)
          have vq15 : xq 15 = .int .i64 (s0 : Nat) := hxq 15 (by omega)
          have vq16 : xq 16 = .bool false := hxq 16 (by omega)
          have vq17 : xq 17 = .bool false := hxq 17 (by omega)
          show Exit.then _ _ Exit.normal (Drawn.acts _ [(113, some (xq 17)), (112, some (xq 16)), (111, some (xq 15)), (110, some (xq 14)), (109, some (xq 13)), (108, some (xq 12)), (107, some (xq 11)), (106, some (xq 10)), (105, some (xq 9)), (104, some (xq 8)), (103, some (xq 7)), (102, some (xq 6)), (101, some (xq 5)), (100, some (xq 4)), (99, some (xq 3)), (98, some (xq 2)), (97, some (xq 1)), (96, some (xq 0))]) _
          rw [vq0, vq1, vq2, vq3, vq4, vq5, vq6, vq7, vq8, vq9, vq10, vq11, vq12, vq13, vq14, vq15, vq16, vq17]
          clear hxq vq0 vq1 vq2 vq3 vq4 vq5 vq6 vq7 vq8 vq9 vq10 vq11 vq12 vq13 vq14 vq15 vq16 vq17
          clear xq
          simp only [Drawn.acts]
          go_simp
          have HD9 := Lib.hid (HD5.out.below hb); have HE9 := Lib.hid (HE5.out.below hb); have HB9 := Lib.hid (HB5.out.trans (hb.mono HB5.out.size))
          clear hb
          go_at_K
          go_wp2
          go_roundw
          case rel => exact ⟨k + 1, m2, G5, n1, by omega, by go_num, HFI2.out, HML2.out, HD9.out, HE9.out, HG5.out, HB9.out⟩
          case measure => simp [intOf] <;> omega
      have q0 : (kind == 0) = false := by rw [beq_eq_false_iff_ne]; exact hk0
      have q1 : (kind == 1) = false := by rw [beq_eq_false_iff_ne]; exact hk1
      have q2 : (kind == 2) = false := by rw [beq_eq_false_iff_ne]; exact hk2
      have q3 : (kind == 3) = false := by rw [beq_eq_false_iff_ne]; exact hk3
      have hl0 : m.b.length ≤ 32768 := by rw [HML.out]; have := HSZ.out; omega
      obtain ⟨L, hL⟩ : ∃ L, L = m.read at_ := ⟨_, rfl⟩
      have hLl : L.length ≤ 64 := by
        rw [hL]; unfold Dk.read sect
        split
        · rw [List.length_take]; omega
        · exact Nat.zero_le _
      have hC1 : Hid (∀ W, DAt W p1 g1 c1 m → Calls Try.prog 18 #[.pointer (some ⟨p1, 0, none⟩), .int .i64 at_] W fun e w' => ∃ X d, e = .returned (.slice X L.length d) ∧ L.length ≤ d ∧ d ≤ maxLen ∧ BytesAt w' X L ∧ Below W.heap.size W w') := Lib.hid (fun W hd => by
        rw [hL]
        refine (read_any p1 g1 c1 m at_ W hd hl0 hai).mono ?_
        rintro e w' ⟨v, rfl, ho, hb⟩
        obtain ⟨X, d, rfl, k1, k2, k3⟩ := ho.bytes
        exact ⟨X, d, rfl, k1, k2, k3, hb⟩)
      have hC2 : Hid (∀ W, DAt W p2 g2 c2 (nrm m) → Calls Try.prog 19 #[.pointer (some ⟨p2, 0, none⟩), .int .i64 at_] W fun e w' => ∃ X d, e = .returned (.slice X L.length d) ∧ L.length ≤ d ∧ d ≤ maxLen ∧ BytesAt w' X L ∧ Below W.heap.size W w') := Lib.hid (fun W hd => by
        rw [hL]
        refine (R16.read_any p2 g2 c2 (nrm m) at_ W hd hl0).mono ?_
        rintro e w' ⟨X, d, rfl, k1, k2, k3, hb, _⟩
        exact ⟨X, d, rfl, k1, k2, k3, hb⟩)
      clear hk0 hk1 hk2 hk3 hl0 hL
      go_wp2_with fail
      obtain ⟨t8, ht8⟩ : ∃ t8, t8 = wr.heap.size := ⟨_, rfl⟩
      rw [← ht8] at HACT HFAR ⊢
      clear ht8
      refine Drawn.wp_region_flowL 10 [Drawn.SP.is (.pointer (some ⟨p1, 0, none⟩)), Drawn.SP.is (.pointer (some ⟨t8, 1, none⟩)), Drawn.SP.is (.int .i64 at_), Drawn.SP.bytes L, Drawn.SP.is (.pointer (some ⟨p2, 0, none⟩)), Drawn.SP.is (.pointer (some ⟨t8, 1, none⟩)), Drawn.SP.is (.int .i64 at_), Drawn.SP.bytes L, Drawn.SP.is (.bool true), Drawn.SP.is (.bool false)] (by kernel_rfl) (by kernel_rfl) ?_ ?_
      · intro i hi a w5 hb hev hdep
        rcases (show i = 0 ∨ i = 1 ∨ i = 2 ∨ i = 3 ∨ i = 4 ∨ i = 5 ∨ i = 6 ∨ i = 7 ∨ i = 8 ∨ i = 9 by omega) with rfl | rfl | rfl | rfl | rfl | rfl | rfl | rfl | rfl | rfl
        · have e5 : a.tmps[5]?.getD undef = .pointer (some ⟨p1, 0, none⟩) := hev 5 rfl
          refine Drawn.wpOp_flow 29 rfl rfl rfl ?_
          clear hev hdep hb
          go_simp
          exact ⟨_, rfl, rfl, Below.refl _ _⟩
        · have e8 : a.tmps[8]?.getD undef = .pointer (some ⟨t8, 0, none⟩) := hev 8 rfl
          refine Drawn.wpOp_flow 30 rfl rfl rfl ?_
          clear hev hdep hb
          go_simp
          exact ⟨_, rfl, rfl, Below.refl _ _⟩
        · have d1 : a.tmps[30]?.getD undef = .pointer (some ⟨t8, 1, none⟩) := hdep 1 rfl
          refine Drawn.wpOp_flow 31 rfl rfl rfl ?_
          have k1 := (HACT.out.below hb).c1
          clear hev hdep hb
          go_simp
          exact ⟨_, rfl, rfl, Below.refl _ _⟩
        · have d0 : a.tmps[29]?.getD undef = .pointer (some ⟨p1, 0, none⟩) := hdep 0 rfl
          have d2 : a.tmps[31]?.getD undef = .int .i64 at_ := hdep 2 rfl
          refine Drawn.wpOp_flow 32 rfl rfl rfl ?_
          clear hev hdep
          have C := hC1.out w5 (HD1.out.below hb)
          clear hb
          go_simp
          refine C.mono ?_
          rintro e w' ⟨X, d, rfl, k1, k2, k3, hb'⟩
          exact ⟨_, rfl, ⟨X, d, rfl, k1, k2, k3⟩, hb'⟩
        · have e6 : a.tmps[6]?.getD undef = .pointer (some ⟨p2, 0, none⟩) := hev 6 rfl
          refine Drawn.wpOp_flow 33 rfl rfl rfl ?_
          clear hev hdep hb
          go_simp
          exact ⟨_, rfl, rfl, Below.refl _ _⟩
        · have e8 : a.tmps[8]?.getD undef = .pointer (some ⟨t8, 0, none⟩) := hev 8 rfl
          refine Drawn.wpOp_flow 34 rfl rfl rfl ?_
          clear hev hdep hb
          go_simp
          exact ⟨_, rfl, rfl, Below.refl _ _⟩
        · have d5 : a.tmps[34]?.getD undef = .pointer (some ⟨t8, 1, none⟩) := hdep 5 rfl
          refine Drawn.wpOp_flow 35 rfl rfl rfl ?_
          have k1 := (HACT.out.below hb).c1
          clear hev hdep hb
          go_simp
          exact ⟨_, rfl, rfl, Below.refl _ _⟩
        · have d4 : a.tmps[33]?.getD undef = .pointer (some ⟨p2, 0, none⟩) := hdep 4 rfl
          have d6 : a.tmps[35]?.getD undef = .int .i64 at_ := hdep 6 rfl
          refine Drawn.wpOp_flow 36 rfl rfl rfl ?_
          clear hev hdep
          have C := hC2.out w5 (HD2.out.below hb)
          clear hb
          go_simp
          refine C.mono ?_
          rintro e w' ⟨X, d, rfl, k1, k2, k3, hb'⟩
          exact ⟨_, rfl, ⟨X, d, rfl, k1, k2, k3⟩, hb'⟩
        · obtain ⟨d3X, d3d, d3, d3k, d3m, d3b⟩ : (Drawn.SP.bytes L).p (a.tmps[32]?.getD undef) w5 := hdep 3 rfl
          obtain ⟨d7X, d7d, d7, d7k, d7m, d7b⟩ : (Drawn.SP.bytes L).p (a.tmps[36]?.getD undef) w5 := hdep 7 rfl
          refine Drawn.wpOp_flow 37 rfl rfl rfl ?_
          clear hev hdep
          have C := R01.same_eq d3X d7X L L d3d d7d w5 d3b d7b (by unfold maxLen; omega) rfl
          clear hb
          go_simp
          refine C.mono ?_
          rintro e w' ⟨rfl, hq⟩
          exact ⟨_, rfl, rfl, bquiet hq⟩
        · have d8 : a.tmps[37]?.getD undef = .bool true := hdep 8 rfl
          refine Drawn.wpOp_flow 38 rfl rfl rfl ?_
          clear hev hdep hb
          go_simp
          exact ⟨_, rfl, rfl, Below.refl _ _⟩
      · intro xq w5 hb hxq
        have vq0 : xq 0 = .pointer (some ⟨p1, 0, none⟩) := hxq 0 (by omega)
        have vq1 : xq 1 = .pointer (some ⟨t8, 1, none⟩) := hxq 1 (by omega)
        have vq2 : xq 2 = .int .i64 at_ := hxq 2 (by omega)
        have vq4 : xq 4 = .pointer (some ⟨p2, 0, none⟩) := hxq 4 (by omega)
        have vq5 : xq 5 = .pointer (some ⟨t8, 1, none⟩) := hxq 5 (by omega)
        have vq6 : xq 6 = .int .i64 at_ := hxq 6 (by omega)
        have vq8 : xq 8 = .bool true := hxq 8 (by omega)
        have vq9 : xq 9 = .bool false := hxq 9 (by omega)
        show Exit.then _ _ Exit.normal (Drawn.acts _ [(38, some (xq 9)), (37, some (xq 8)), (36, some (xq 7)), (35, some (xq 6)), (34, some (xq 5)), (33, some (xq 4)), (32, some (xq 3)), (31, some (xq 2)), (30, some (xq 1)), (29, some (xq 0))]) _
        rw [vq0, vq1, vq2, vq4, vq5, vq6, vq8, vq9]
        clear hxq vq0 vq1 vq2 vq4 vq5 vq6 vq8 vq9
        generalize xq 3 = yq3
        generalize xq 7 = yq7
        clear xq
        simp only [Drawn.acts]
        go_simp
        have HD5 := Lib.hid (HD1.out.below hb); have HE5 := Lib.hid (HD2.out.below hb); have HB5 := Lib.hid (HBA.out.trans (hb.mono HBA.out.size))
        clear hb
        go_at_K
        obtain ⟨n0, hn0⟩ : ∃ n0, n0 = (m).b.length := ⟨_, rfl⟩
        obtain ⟨s0, hs0⟩ : ∃ s0, s0 = n0 / 64 := ⟨_, rfl⟩
        obtain ⟨d0, hd0⟩ : ∃ d0, d0 = (m).dead := ⟨_, rfl⟩
        have hn0l : n0 ≤ 32768 := by rw [hn0, HML.out]; have := HSZ.out; omega
        have HDe : Hid (∀ W, Below w5.heap.size w5 W → Calls Try.prog 20 #[.pointer (some ⟨p1, 0, none⟩)] W fun e w' => e = .returned (.bool d0) ∧ W = w') := Lib.hid (fun W hW => by rw [hd0]; exact dead_any p1 g1 c1 _ W (HD5.out.below hW))
        have HSz : Hid (∀ W, Below w5.heap.size w5 W → Calls Try.prog 21 #[.pointer (some ⟨p1, 0, none⟩)] W fun e w' => e = .returned (.int .i64 (s0 : Nat)) ∧ W = w') := Lib.hid (fun W hW => by
          have := size_any p1 g1 c1 _ W (HD5.out.below hW) (by rw [← hn0]; exact hn0l)
          rw [← hn0, ← hs0] at this
          exact this)
        have HC0 : Hid (∀ W, Below w5.heap.size w5 W → W.cell? ⟨p2, 0, none⟩ = some (.slice (some ⟨g2, 0, none⟩) n0 c2)) := Lib.hid (fun W hW => by rw [hn0]; exact (HE5.out.below hW).c0)
        have HC2 : Hid (∀ W, Below w5.heap.size w5 W → W.cell? ⟨p2, 2, none⟩ = some (.bool d0)) := Lib.hid (fun W hW => by rw [hd0]; exact (HE5.out.below hW).c2)
        have hq0 : ((n0 : Nat) : Int).tdiv 64 = (s0 : Nat) := by rw [hs0]; rfl
        have hs0l : s0 ≤ 512 := by omega
        have hw0 : IntKind.i64.wrap ((s0 : Nat) : Int) = (s0 : Nat) := IntWalk.i64_in _ (by omega)
        clear hn0 hs0 hd0
        go_wp2_with fail
        refine Drawn.wp_region_flowL 18 [Drawn.SP.is (.pointer (some ⟨p1, 0, none⟩)), Drawn.SP.is (.bool d0), Drawn.SP.is (.pointer (some ⟨p2, 0, none⟩)), Drawn.SP.is (.pointer (some ⟨p2, 0, none⟩)), Drawn.SP.is (.pointer (some ⟨p2, 2, none⟩)), Drawn.SP.is (.bool d0), Drawn.SP.is (.bool false), Drawn.SP.is (.bool false), Drawn.SP.is (.pointer (some ⟨p1, 0, none⟩)), Drawn.SP.is (.int .i64 (s0 : Nat)), Drawn.SP.is (.pointer (some ⟨p2, 0, none⟩)), Drawn.SP.is (.pointer (some ⟨p2, 0, none⟩)), Drawn.SP.is (.pointer (some ⟨p2, 0, none⟩)), Drawn.SP.is (.slice (some ⟨g2, 0, none⟩) n0 c2), Drawn.SP.is (.int .i64 (n0 : Nat)), Drawn.SP.is (.int .i64 (s0 : Nat)), Drawn.SP.is (.bool false), Drawn.SP.is (.bool false)] (by kernel_rfl) (by kernel_rfl) ?_ ?_
        · intro i hi a w9 hb hev hdep
          rcases (show i = 0 ∨ i = 1 ∨ i = 2 ∨ i = 3 ∨ i = 4 ∨ i = 5 ∨ i = 6 ∨ i = 7 ∨ i = 8 ∨ i = 9 ∨ i = 10 ∨ i = 11 ∨ i = 12 ∨ i = 13 ∨ i = 14 ∨ i = 15 ∨ i = 16 ∨ i = 17 by omega) with rfl | rfl | rfl | rfl | rfl | rfl | rfl | rfl | rfl | rfl | rfl | rfl | rfl | rfl | rfl | rfl | rfl | rfl
          · have e5 : a.tmps[5]?.getD undef = .pointer (some ⟨p1, 0, none⟩) := hev 5 rfl
            refine Drawn.wpOp_flow 96 rfl rfl rfl ?_
            clear hev hdep hb
            go_simp
            exact ⟨_, rfl, rfl, Below.refl _ _⟩
          · have d0 : a.tmps[96]?.getD undef = .pointer (some ⟨p1, 0, none⟩) := hdep 0 rfl
            refine Drawn.wpOp_flow 97 rfl rfl rfl ?_
            clear hev hdep
            have C := HDe.out w9 hb
            clear hb
            go_simp
            refine C.mono ?_
            rintro e w' ⟨rfl, rfl⟩
            exact ⟨_, rfl, rfl, Below.refl _ _⟩
          · have e6 : a.tmps[6]?.getD undef = .pointer (some ⟨p2, 0, none⟩) := hev 6 rfl
            refine Drawn.wpOp_flow 98 rfl rfl rfl ?_
            clear hev hdep hb
            go_simp
            exact ⟨_, rfl, rfl, Below.refl _ _⟩
          · have d2 : a.tmps[98]?.getD undef = .pointer (some ⟨p2, 0, none⟩) := hdep 2 rfl
            refine Drawn.wpOp_flow 99 rfl rfl rfl ?_
            clear hev hdep hb
            go_simp
            exact ⟨_, rfl, rfl, Below.refl _ _⟩
          · have d3 : a.tmps[99]?.getD undef = .pointer (some ⟨p2, 0, none⟩) := hdep 3 rfl
            refine Drawn.wpOp_flow 100 rfl rfl rfl ?_
            clear hev hdep hb
            go_simp
            exact ⟨_, rfl, rfl, Below.refl _ _⟩
          · have d4 : a.tmps[100]?.getD undef = .pointer (some ⟨p2, 2, none⟩) := hdep 4 rfl
            refine Drawn.wpOp_flow 101 rfl rfl rfl ?_
            have k0 := HC0.out w9 hb; have k2 := HC2.out w9 hb
            clear hev hdep hb
            go_simp
            exact ⟨_, rfl, rfl, Below.refl _ _⟩
          · have d1 : a.tmps[97]?.getD undef = .bool d0 := hdep 1 rfl
            have d5 : a.tmps[101]?.getD undef = .bool d0 := hdep 5 rfl
            refine Drawn.wpOp_flow 102 rfl rfl rfl ?_
            clear hev hdep hb
            go_simp
            exact ⟨_, rfl, rfl, Below.refl _ _⟩
          · have d6 : a.tmps[102]?.getD undef = .bool false := hdep 6 rfl
            refine Drawn.wpOp_flow 103 rfl rfl rfl ?_
            clear hev hdep hb
            go_simp
            exact ⟨_, rfl, rfl, Below.refl _ _⟩
          · have e5 : a.tmps[5]?.getD undef = .pointer (some ⟨p1, 0, none⟩) := hev 5 rfl
            have dg : a.tmps[103]?.getD undef = .bool false := hdep 7 rfl
            refine Drawn.wpOp_flow 104 rfl (Drawn.wanted_of rfl rfl rfl dg) rfl ?_
            clear dg
            clear hev hdep hb
            go_simp
            exact ⟨_, rfl, rfl, Below.refl _ _⟩
          · have d8 : a.tmps[104]?.getD undef = .pointer (some ⟨p1, 0, none⟩) := hdep 8 rfl
            have dg : a.tmps[103]?.getD undef = .bool false := hdep 7 rfl
            refine Drawn.wpOp_flow 105 rfl (Drawn.wanted_of rfl rfl rfl dg) rfl ?_
            clear hev hdep
            have C := HSz.out w9 hb
            clear hb
            go_simp
            refine C.mono ?_
            rintro e w' ⟨rfl, rfl⟩
            exact ⟨_, rfl, rfl, Below.refl _ _⟩
          · have e6 : a.tmps[6]?.getD undef = .pointer (some ⟨p2, 0, none⟩) := hev 6 rfl
            have dg : a.tmps[103]?.getD undef = .bool false := hdep 7 rfl
            refine Drawn.wpOp_flow 106 rfl (Drawn.wanted_of rfl rfl rfl dg) rfl ?_
            clear dg
            clear hev hdep hb
            go_simp
            exact ⟨_, rfl, rfl, Below.refl _ _⟩
          · have d10 : a.tmps[106]?.getD undef = .pointer (some ⟨p2, 0, none⟩) := hdep 10 rfl
            have dg : a.tmps[103]?.getD undef = .bool false := hdep 7 rfl
            refine Drawn.wpOp_flow 107 rfl (Drawn.wanted_of rfl rfl rfl dg) rfl ?_
            clear dg
            clear hev hdep hb
            go_simp
            exact ⟨_, rfl, rfl, Below.refl _ _⟩
          · have d11 : a.tmps[107]?.getD undef = .pointer (some ⟨p2, 0, none⟩) := hdep 11 rfl
            have dg : a.tmps[103]?.getD undef = .bool false := hdep 7 rfl
            refine Drawn.wpOp_flow 108 rfl (Drawn.wanted_of rfl rfl rfl dg) rfl ?_
            clear dg
            clear hev hdep hb
            go_simp
            exact ⟨_, rfl, rfl, Below.refl _ _⟩
          · have d12 : a.tmps[108]?.getD undef = .pointer (some ⟨p2, 0, none⟩) := hdep 12 rfl
            have dg : a.tmps[103]?.getD undef = .bool false := hdep 7 rfl
            refine Drawn.wpOp_flow 109 rfl (Drawn.wanted_of rfl rfl rfl dg) rfl ?_
            have k0 := HC0.out w9 hb; have k2 := HC2.out w9 hb
            clear dg
            clear hev hdep hb
            go_simp
            exact ⟨_, rfl, rfl, Below.refl _ _⟩
          · have d13 : a.tmps[109]?.getD undef = .slice (some ⟨g2, 0, none⟩) n0 c2 := hdep 13 rfl
            have dg : a.tmps[103]?.getD undef = .bool false := hdep 7 rfl
            refine Drawn.wpOp_flow 110 rfl (Drawn.wanted_of rfl rfl rfl dg) rfl ?_
            clear dg
            clear hev hdep hb
            go_simp
            exact ⟨_, rfl, rfl, Below.refl _ _⟩
          · have d14 : a.tmps[110]?.getD undef = .int .i64 (n0 : Nat) := hdep 14 rfl
            have dg : a.tmps[103]?.getD undef = .bool false := hdep 7 rfl
            refine Drawn.wpOp_flow 111 rfl (Drawn.wanted_of rfl rfl rfl dg) rfl ?_
            clear dg
            clear hev hdep hb
            go_simp
            exact ⟨_, rfl, rfl, Below.refl _ _⟩
          · have d9 : a.tmps[105]?.getD undef = .int .i64 (s0 : Nat) := hdep 9 rfl
            have d15 : a.tmps[111]?.getD undef = .int .i64 (s0 : Nat) := hdep 15 rfl
            have dg : a.tmps[103]?.getD undef = .bool false := hdep 7 rfl
            refine Drawn.wpOp_flow 112 rfl (Drawn.wanted_of rfl rfl rfl dg) rfl ?_
            clear dg
            clear hev hdep hb
            go_simp
            exact ⟨_, rfl, rfl, Below.refl _ _⟩
          · have d7 : a.tmps[103]?.getD undef = .bool false := hdep 7 rfl
            have d16 : a.tmps[112]?.getD undef = .bool false := hdep 16 rfl
            refine Drawn.wpOp_flow 113 rfl rfl rfl ?_
            clear hev hdep hb
            go_simp
            exact ⟨_, rfl, rfl, Below.refl _ _⟩
        · intro xq w9 hb hxq
          have vq0 : xq 0 = .pointer (some ⟨p1, 0, none⟩) := hxq 0 (by omega)
          have vq1 : xq 1 = .bool d0 := hxq 1 (by omega)
          have vq2 : xq 2 = .pointer (some ⟨p2, 0, none⟩) := hxq 2 (by omega)
          have vq3 : xq 3 = .pointer (some ⟨p2, 0, none⟩) := hxq 3 (by omega)
          have vq4 : xq 4 = .pointer (some ⟨p2, 2, none⟩) := hxq 4 (by omega)
          have vq5 : xq 5 = .bool d0 := hxq 5 (by omega)
          have vq6 : xq 6 = .bool false := hxq 6 (by omega)
          have vq7 : xq 7 = .bool false := hxq 7 (by omega)
          have vq8 : xq 8 = .pointer (some ⟨p1, 0, none⟩) := hxq 8 (by omega)
          have vq9 : xq 9 = .int .i64 (s0 : Nat) := hxq 9 (by omega)
          have vq10 : xq 10 = .pointer (some ⟨p2, 0, none⟩) := hxq 10 (by omega)
          have vq11 : xq 11 = .pointer (some ⟨p2, 0, none⟩) := hxq 11 (by omega)
          have vq12 : xq 12 = .pointer (some ⟨p2, 0, none⟩) := hxq 12 (by omega)
          have vq13 : xq 13 = .slice (some ⟨g2, 0, none⟩) n0 c2 := hxq 13 (by omega)
          have vq14 : xq 14 = .int .i64 (n0 : Nat) := hxq 14 (by omega)
          have vq15 : xq 15 = .int .i64 (s0 : Nat) := hxq 15 (by omega)
          have vq16 : xq 16 = .bool false := hxq 16 (by omega)
          have vq17 : xq 17 = .bool false := hxq 17 (by omega)
          show Exit.then _ _ Exit.normal (Drawn.acts _ [(113, some (xq 17)), (112, some (xq 16)), (111, some (xq 15)), (110, some (xq 14)), (109, some (xq 13)), (108, some (xq 12)), (107, some (xq 11)), (106, some (xq 10)), (105, some (xq 9)), (104, some (xq 8)), (103, some (xq 7)), (102, some (xq 6)), (101, some (xq 5)), (100, some (xq 4)), (99, some (xq 3)), (98, some (xq 2)), (97, some (xq 1)), (96, some (xq 0))]) _
          rw [vq0, vq1, vq2, vq3, vq4, vq5, vq6, vq7, vq8, vq9, vq10, vq11, vq12, vq13, vq14, vq15, vq16, vq17]
          clear hxq vq0 vq1 vq2 vq3 vq4 vq5 vq6 vq7 vq8 vq9 vq10 vq11 vq12 vq13 vq14 vq15 vq16 vq17
          clear xq
          simp only [Drawn.acts]
          go_simp
          have HD9 := Lib.hid (HD5.out.below hb); have HE9 := Lib.hid (HE5.out.below hb); have HB9 := Lib.hid (HB5.out.trans (hb.mono HB5.out.size))
          clear hb
          go_at_K
          go_wp2
          go_roundw
          case rel => exact ⟨k + 1, m, g2, c2, by omega, by go_num, HFI.out, HML.out, HD9.out, HE9.out, HG.out, HB9.out⟩
          case measure => simp [intOf] <;> omega
    · obtain rfl : k = l.length := by omega
      obtain ⟨Bm, hBm⟩ : ∃ Bm, Bm = m.b := ⟨_, rfl⟩
      have hBl : Bm.length ≤ 32768 := by rw [hBm, HML.out]; have := HSZ.out; omega
      have hC1 : Hid (∀ W, Below wr.heap.size wr W → Calls Try.prog 22 #[.pointer (some ⟨p1, 0, none⟩)] W fun e w' => ∃ X d, e = .returned (.slice X Bm.length d) ∧ Bm.length ≤ d ∧ d ≤ maxLen ∧ BytesAt w' X Bm ∧ Below W.heap.size W w') := Lib.hid (fun W hW => by
        have hl0 := hBl
        rw [hBm] at hl0 ⊢
        refine (image_any p1 g1 c1 m W (HD1.out.below hW) hl0).mono ?_
        rintro e w' ⟨v, rfl, ho, hb⟩
        obtain ⟨X, d, rfl, k1, k2, k3⟩ := ho.bytes
        exact ⟨X, d, rfl, k1, k2, k3, hb⟩)
      have hC0 : Hid (∀ W, Below wr.heap.size wr W → W.cell? ⟨p2, 0, none⟩ = some (.slice (some ⟨g2, 0, none⟩) Bm.length c2)) := Lib.hid (fun W hW => by rw [hBm]; exact (HD2.out.below hW).c0)
      have hCB : Hid (∀ W, Below wr.heap.size wr W → BytesAt W (some ⟨g2, 0, none⟩) Bm) := Lib.hid (fun W hW => by rw [hBm]; exact (HD2.out.below hW).bytes)
      clear hBm
      go_wp2_with fail
      refine Drawn.wp_region_flowL 11 [Drawn.SP.is (.pointer (some ⟨p1, 0, none⟩)), Drawn.SP.bytes Bm, Drawn.SP.is (.pointer (some ⟨p2, 0, none⟩)), Drawn.SP.is (.pointer (some ⟨p2, 0, none⟩)), Drawn.SP.is (.pointer (some ⟨p2, 0, none⟩)), Drawn.SP.is (.slice (some ⟨g2, 0, none⟩) Bm.length c2), Drawn.SP.is (.bool true), Drawn.SP.is (.bool true), Drawn.SP.is (.bool true), Drawn.SP.is (.bool true), Drawn.SP.is (.bool true)] (by kernel_rfl) (by kernel_rfl) ?_ ?_
      · intro i hi a w5 hb hev hdep
        rcases (show i = 0 ∨ i = 1 ∨ i = 2 ∨ i = 3 ∨ i = 4 ∨ i = 5 ∨ i = 6 ∨ i = 7 ∨ i = 8 ∨ i = 9 ∨ i = 10 by omega) with rfl | rfl | rfl | rfl | rfl | rfl | rfl | rfl | rfl | rfl | rfl
        · have e5 : a.tmps[5]?.getD undef = .pointer (some ⟨p1, 0, none⟩) := hev 5 rfl
          refine Drawn.wpOp_flow 115 rfl rfl rfl ?_
          clear hev hdep hb
          go_simp
          exact ⟨_, rfl, rfl, Below.refl _ _⟩
        · have d0 : a.tmps[115]?.getD undef = .pointer (some ⟨p1, 0, none⟩) := hdep 0 rfl
          refine Drawn.wpOp_flow 116 rfl rfl rfl ?_
          clear hev hdep
          have C := hC1.out w5 hb
          clear hb
          go_simp
          refine C.mono ?_
          rintro e w' ⟨X, d, rfl, k1, k2, k3, hb'⟩
          exact ⟨_, rfl, ⟨X, d, rfl, k1, k2, k3⟩, hb'⟩
        · have e6 : a.tmps[6]?.getD undef = .pointer (some ⟨p2, 0, none⟩) := hev 6 rfl
          refine Drawn.wpOp_flow 117 rfl rfl rfl ?_
          clear hev hdep hb
          go_simp
          exact ⟨_, rfl, rfl, Below.refl _ _⟩
        · have d2 : a.tmps[117]?.getD undef = .pointer (some ⟨p2, 0, none⟩) := hdep 2 rfl
          refine Drawn.wpOp_flow 118 rfl rfl rfl ?_
          clear hev hdep hb
          go_simp
          exact ⟨_, rfl, rfl, Below.refl _ _⟩
        · have d3 : a.tmps[118]?.getD undef = .pointer (some ⟨p2, 0, none⟩) := hdep 3 rfl
          refine Drawn.wpOp_flow 119 rfl rfl rfl ?_
          clear hev hdep hb
          go_simp
          exact ⟨_, rfl, rfl, Below.refl _ _⟩
        · have d4 : a.tmps[119]?.getD undef = .pointer (some ⟨p2, 0, none⟩) := hdep 4 rfl
          refine Drawn.wpOp_flow 120 rfl rfl rfl ?_
          have k0 := hC0.out w5 hb
          clear hev hdep hb
          go_simp
          exact ⟨_, rfl, rfl, Below.refl _ _⟩
        · obtain ⟨d1X, d1d, d1, d1k, d1m, d1b⟩ : (Drawn.SP.bytes Bm).p (a.tmps[116]?.getD undef) w5 := hdep 1 rfl
          have d5 : a.tmps[120]?.getD undef = .slice (some ⟨g2, 0, none⟩) Bm.length c2 := hdep 5 rfl
          refine Drawn.wpOp_flow 121 rfl rfl rfl ?_
          clear hev hdep
          have C := R01.same_eq d1X (some ⟨g2, 0, none⟩) Bm Bm d1d c2 w5 d1b (hCB.out w5 hb) (by unfold maxLen; omega) rfl
          clear hb
          go_simp
          refine C.mono ?_
          rintro e w' ⟨rfl, hq⟩
          exact ⟨_, rfl, rfl, bquiet hq⟩
        · have d6 : a.tmps[121]?.getD undef = .bool true := hdep 6 rfl
          refine Drawn.wpOp_flow 122 rfl rfl rfl ?_
          clear hev hdep hb
          go_simp
          exact ⟨_, rfl, rfl, Below.refl _ _⟩
        · have dg : a.tmps[122]?.getD undef = .bool true := hdep 7 rfl
          refine Drawn.wpOp_flow 123 rfl (Drawn.wanted_of rfl rfl rfl dg) rfl ?_
          clear hev hdep
          have C := alive_any w5
          clear hb
          go_simp
          refine C.mono ?_
          rintro e w' ⟨rfl, hb'⟩
          exact ⟨_, rfl, rfl, hb'⟩
        · have d7 : a.tmps[122]?.getD undef = .bool true := hdep 7 rfl
          have d8 : a.tmps[123]?.getD undef = .bool true := hdep 8 rfl
          refine Drawn.wpOp_flow 124 rfl rfl rfl ?_
          clear hev hdep hb
          go_simp
          exact ⟨_, rfl, rfl, Below.refl _ _⟩
        · have d9 : a.tmps[124]?.getD undef = .bool true := hdep 9 rfl
          refine Drawn.wpOp_flow 4 rfl rfl rfl ?_
          clear hev hdep hb
          go_simp
          exact ⟨_, rfl, rfl, Below.refl _ _⟩
      · intro xq w5 hb hxq
        have vq0 : xq 0 = .pointer (some ⟨p1, 0, none⟩) := hxq 0 (by omega)
        have vq2 : xq 2 = .pointer (some ⟨p2, 0, none⟩) := hxq 2 (by omega)
        have vq3 : xq 3 = .pointer (some ⟨p2, 0, none⟩) := hxq 3 (by omega)
        have vq4 : xq 4 = .pointer (some ⟨p2, 0, none⟩) := hxq 4 (by omega)
        have vq5 : xq 5 = .slice (some ⟨g2, 0, none⟩) Bm.length c2 := hxq 5 (by omega)
        have vq6 : xq 6 = .bool true := hxq 6 (by omega)
        have vq7 : xq 7 = .bool true := hxq 7 (by omega)
        have vq8 : xq 8 = .bool true := hxq 8 (by omega)
        have vq9 : xq 9 = .bool true := hxq 9 (by omega)
        have vq10 : xq 10 = .bool true := hxq 10 (by omega)
        show Exit.then _ _ Exit.normal (Drawn.acts _ [(4, some (xq 10)), (124, some (xq 9)), (123, some (xq 8)), (122, some (xq 7)), (121, some (xq 6)), (120, some (xq 5)), (119, some (xq 4)), (118, some (xq 3)), (117, some (xq 2)), (116, some (xq 1)), (115, some (xq 0))]) _
        rw [vq0, vq2, vq3, vq4, vq5, vq6, vq7, vq8, vq9, vq10]
        clear hxq vq0 vq2 vq3 vq4 vq5 vq6 vq7 vq8 vq9 vq10
        generalize xq 1 = yq1
        clear xq
        simp only [Drawn.acts]
        go_simp
        have HB5 := Lib.hid (HB.out.trans (hb.mono HB.out.size))
        clear hb
        go_at_K
        go_wp2
        go_ret
        exact ⟨rfl, HB5.out⟩
end Go.Proofs.Yteiemkaeeghhhaa.Law16
