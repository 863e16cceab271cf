/-
  What the proof leans on, part 11 of 28. The conditions stand in each theorem.
-/
import Derived.Test.YtildemmkhndhjaaGreatDoorB10
import Derived.Test.YtildemmkhndhjaaGreatDoorB09
namespace Go.Proofs.YtildemmkhndhjaaGreatDoor
open Go.RowKit

/-- A Bad in block p. -/
structure BadAt (w : World) (p : Nat) (b : Bp) : Prop where
  c0 : w.cell? ⟨p, 0, none⟩ = some (.int .i64 b.1)
  c1 : w.cell? ⟨p, 1, none⟩ = some (.int .i64 b.2.1)
  c2 : w.cell? ⟨p, 2, none⟩ = some (.int .i64 b.2.2.1)
  c3 : w.cell? ⟨p, 3, none⟩ = some (.int .i64 b.2.2.2)
  f0 : w.frozen? ⟨p, 0, none⟩ = false
  f1 : w.frozen? ⟨p, 1, none⟩ = false
  f2 : w.frozen? ⟨p, 2, none⟩ = false
  f3 : w.frozen? ⟨p, 3, none⟩ = false

theorem BadAt.lt {w : World} {p : Nat} {b : Bp} (h : BadAt w p b) : p < w.heap.size := World.block_lt_of_cell? w _ h.c0

theorem BadAt.only {w w' : World} {S : List Nat} {p : Nat} {b : Bp} (h : BadAt w p b) (ho : Only S w w') (hp : p ∉ S) : BadAt w' p b :=
  ⟨(ho.cell (p := ⟨p, 0, none⟩) h.lt hp).trans h.c0, (ho.cell (p := ⟨p, 1, none⟩) h.lt hp).trans h.c1, (ho.cell (p := ⟨p, 2, none⟩) h.lt hp).trans h.c2, (ho.cell (p := ⟨p, 3, none⟩) h.lt hp).trans h.c3,
   (ho.frozen (p := ⟨p, 0, none⟩) h.lt hp).trans h.f0, (ho.frozen (p := ⟨p, 1, none⟩) h.lt hp).trans h.f1, (ho.frozen (p := ⟨p, 2, none⟩) h.lt hp).trans h.f2, (ho.frozen (p := ⟨p, 3, none⟩) h.lt hp).trans h.f3⟩

theorem bad_new (w : World) (a b c e : Int) : BadAt (w.alloc (.cells #[.int .i64 a, .int .i64 b, .int .i64 c, .int .i64 e] 68)) w.heap.size (a, b, c, e) :=
  ⟨by rw [cell_new]; rfl, by rw [cell_new]; rfl, by rw [cell_new]; rfl, by rw [cell_new]; rfl, frozen_new _ _ _ _, frozen_new _ _ _ _, frozen_new _ _ _ _, frozen_new _ _ _ _⟩

theorem BadAt.put0 {w : World} {p : Nat} {b : Bp} (h : BadAt w p b) (x : Int) : BadAt (w.setCell ⟨p, 0, none⟩ (.int .i64 x)) p (x, b.2) :=
  ⟨cell_setCell_same _ _ h.c0, by rw [cell_setCell_ne _ _ (by simp)]; exact h.c1, by rw [cell_setCell_ne _ _ (by simp)]; exact h.c2, by rw [cell_setCell_ne _ _ (by simp)]; exact h.c3,
   (frozen_setCell _ _ _ _).trans h.f0, (frozen_setCell _ _ _ _).trans h.f1, (frozen_setCell _ _ _ _).trans h.f2, (frozen_setCell _ _ _ _).trans h.f3⟩
theorem BadAt.put1 {w : World} {p : Nat} {b : Bp} (h : BadAt w p b) (x : Int) : BadAt (w.setCell ⟨p, 1, none⟩ (.int .i64 x)) p (b.1, x, b.2.2) :=
  ⟨by rw [cell_setCell_ne _ _ (by simp)]; exact h.c0, cell_setCell_same _ _ h.c1, by rw [cell_setCell_ne _ _ (by simp)]; exact h.c2, by rw [cell_setCell_ne _ _ (by simp)]; exact h.c3,
   (frozen_setCell _ _ _ _).trans h.f0, (frozen_setCell _ _ _ _).trans h.f1, (frozen_setCell _ _ _ _).trans h.f2, (frozen_setCell _ _ _ _).trans h.f3⟩
theorem BadAt.put3 {w : World} {p : Nat} {b : Bp} (h : BadAt w p b) (x : Int) : BadAt (w.setCell ⟨p, 3, none⟩ (.int .i64 x)) p (b.1, b.2.1, b.2.2.1, x) :=
  ⟨by rw [cell_setCell_ne _ _ (by simp)]; exact h.c0, by rw [cell_setCell_ne _ _ (by simp)]; exact h.c1, by rw [cell_setCell_ne _ _ (by simp)]; exact h.c2, cell_setCell_same _ _ h.c3,
   (frozen_setCell _ _ _ _).trans h.f0, (frozen_setCell _ _ _ _).trans h.f1, (frozen_setCell _ _ _ _).trans h.f2, (frozen_setCell _ _ _ _).trans h.f3⟩

/-- A bare number as an error. -/
def bareV (e : Int) : Value := if e = 0 then .nilIface else .iface 63 (.int .i64 e)
def badV (p : Nat) : Value := .iface 66 (.pointer (some ⟨p, 0, none⟩))

/-- An error that says b: none, a bare number, or a Bad in a block from B on. -/
inductive EV (w : World) (B : Nat) : Value → Bp → Prop where
  | no {b : Bp} (h : b.2.2.2 = 0) : EV w B .nilIface b
  | num {e : Int} (h : e ≠ 0) : EV w B (.iface 63 (.int .i64 e)) (0, 0, 0, e)
  | bad {b : Bp} {p : Nat} (h : b.2.2.2 ≠ 0) (hp : B ≤ p) (hb : BadAt w p b) : EV w B (badV p) b

theorem EV.bare (w : World) (B : Nat) (e : Int) : EV w B (bareV e) (0, 0, 0, e) := by
  unfold bareV
  by_cases h : e = 0
  · rw [if_pos h]
    exact .no h
  · rw [if_neg h]
    exact .num h

theorem EV.down {w : World} {B C : Nat} {v : Value} {b : Bp} (h : EV w B v b) (hC : C ≤ B) : EV w C v b := by
  cases h with
  | no h => exact .no h
  | num h => exact .num h
  | bad h hp hb => exact .bad h (by omega) hb

set_option maxHeartbeats 1000000 in
theorem placed_bad {w : World} (hg : Ety w) (p : Nat) :
    Calls Tryz.prog 56 #[badV p] w fun e w' => e = .returned (.pointer (some ⟨p, 0, none⟩)) ∧ Only [] w w' := by
  have o1 := (Only.refl [] w).alloc (.cells #[.pointer none] 66)
  have HA := hid (as_hit ⟨p, 0, none⟩ ⟨w.heap.size, 0, none⟩ (.pointer none) _ (hg.only0 o1) (by rw [cell_new]; rfl) (frozen_new _ _ _ _))
  unfold badV
  go_enter Tryz.func56, Tryz.ntmps56
  go_wp2_with fail
  refine HA.out.mono ?_
  rintro e w' ⟨rfl, w1, ho, rfl⟩
  have k1 : (w1.setCell ⟨w.heap.size, 0, none⟩ (.pointer (some ⟨p, 0, none⟩))).cell? ⟨w.heap.size, 0, none⟩ = some (.pointer (some ⟨p, 0, none⟩)) := cell_setCell_same _ _ ((ho.cell (p := ⟨w.heap.size, 0, none⟩) (by simp) (by simp)).trans (by rw [cell_new]; rfl))
  go_wp2_with fail
  go_ret
  exact ⟨rfl, (o1.next ho (by simp)).setCell (.inr (Nat.le_refl _)) _⟩

set_option maxHeartbeats 1000000 in
theorem placed_num {w : World} (hg : Ety w) (x : Int) :
    Calls Tryz.prog 56 #[.iface 63 (.int .i64 x)] w fun e w' => ∃ q, w.heap.size ≤ q ∧ e = .returned (.pointer (some ⟨q, 0, none⟩)) ∧ BadAt w' q (0, 0, 0, x) ∧ Only [] w w' := by
  have o1 := (Only.refl [] w).alloc (.cells #[.pointer none] 66)
  have HA := hid (as_miss x ⟨w.heap.size, 0, none⟩ _ (hg.only0 o1))
  go_enter Tryz.func56, Tryz.ntmps56
  go_wp2_with fail
  refine HA.out.mono ?_
  rintro e w1 ⟨rfl, ho1⟩
  have hlt : w.heap.size < w1.heap.size := Nat.lt_of_lt_of_le (by simp) ho1.size
  have c1 : w1.cell? ⟨w.heap.size, 0, none⟩ = some (.pointer none) := (ho1.cell (p := ⟨w.heap.size, 0, none⟩) (by simp) (by simp)).trans (by rw [cell_new]; rfl)
  have f1 : w1.frozen? ⟨w.heap.size, 0, none⟩ = false := (ho1.frozen (p := ⟨w.heap.size, 0, none⟩) (by simp) (by simp)).trans (frozen_new _ _ _ _)
  have hsz : (w1.setCell ⟨w.heap.size, 0, none⟩ (.pointer (some ⟨w1.heap.size, 0, none⟩))).heap.size = w1.heap.size := by simp [World.setCell]
  have o3 := ((o1.next ho1 (by simp)).setCell (p := ⟨w.heap.size, 0, none⟩) (.inr (Nat.le_refl _)) (.pointer (some ⟨w1.heap.size, 0, none⟩))).alloc (.cells #[.int .i64 0, .int .i64 0, .int .i64 0, .int .i64 0] 68)
  have k3 : ((w1.setCell ⟨w.heap.size, 0, none⟩ (.pointer (some ⟨w1.heap.size, 0, none⟩))).alloc (.cells #[.int .i64 0, .int .i64 0, .int .i64 0, .int .i64 0] 68)).cell? ⟨w.heap.size, 0, none⟩ = some (.pointer (some ⟨w1.heap.size, 0, none⟩)) := cell_alloc _ (cell_setCell_same _ _ c1)
  have B3 := bad_new (w1.setCell ⟨w.heap.size, 0, none⟩ (.pointer (some ⟨w1.heap.size, 0, none⟩))) 0 0 0 0
  rw [hsz] at B3
  replace hsz := hid hsz
  have HB := hid B3
  obtain ⟨b0, b1, b2, b3, g0, g1, g2, g3⟩ := B3
  have HN := hid (as_num x ⟨w1.heap.size, 3, none⟩ (.int .i64 0) _ (hg.only0 o3) b3 g3)
  go_wp2_with fail
  refine HN.out.mono ?_
  rintro e w4 ⟨rfl, w5, ho5, rfl⟩
  have k5 : (w5.setCell ⟨w1.heap.size, 3, none⟩ (.int .i64 x)).cell? ⟨w.heap.size, 0, none⟩ = some (.pointer (some ⟨w1.heap.size, 0, none⟩)) := by
    rw [cell_setCell_ne _ _ (by simp)]
    exact (ho5.cell (p := ⟨w.heap.size, 0, none⟩) (by have := hsz.out; simp at this ⊢; omega) (by simp)).trans k3
  go_wp2_with fail
  go_ret
  refine ⟨w1.heap.size, by omega, rfl, (HB.out.only ho5 (by simp)).put3 x, (o3.next ho5 (by simp)).setCell (.inr (by simp; omega)) _⟩

set_option maxHeartbeats 1000000 in
theorem inMember_any {w : World} (hg : Ety w) {B : Nat} (hB : B ≤ w.heap.size) {v : Value} {b : Bp} (h : EV w B v b) (he : b.2.2.2 ≠ 0) (i : Int) :
    Calls Tryz.prog 115 #[.int .i64 i, v] w fun e w' => ∃ p, B ≤ p ∧ e = .returned (badV p) ∧ BadAt w' p (b.1, i, b.2.2.1, b.2.2.2) ∧ Only [p] w w' ∧ p < w'.heap.size := by
  cases h with
  | no h => exact absurd h he
  | num h =>
    rename_i x
    have HP := hid (placed_num hg x)
    go_enter Tryz.func115, Tryz.ntmps115
    go_wp2_with (go_at_call 56; refine HP.out.mono ?_; rintro e w1 ⟨q, hq, rfl, hb, ho⟩; have HB := hid hb; obtain ⟨b0, b1, b2, b3, g0, g1, g2, g3⟩ := hb)
    go_ret
    exact ⟨q, by omega, rfl, HB.out.put1 i, (ho.mono (by simp)).setCell (.inl (by simp)) _, by simpa using HB.out.lt⟩
  | bad h hp hb =>
    rename_i p
    have HP := hid (placed_bad hg p)
    have HB := hid hb
    clear hb
    unfold badV at HP ⊢
    go_enter Tryz.func115, Tryz.ntmps115
    go_wp2_with (go_at_call 56; refine HP.out.mono ?_; rintro e w1 ⟨rfl, ho⟩; have HB1 := hid (HB.out.only ho (by simp)); obtain ⟨b0, b1, b2, b3, g0, g1, g2, g3⟩ := HB.out.only ho (by simp))
    go_ret
    exact ⟨p, hp, rfl, HB1.out.put1 i, (ho.mono (by simp)).setCell (.inl (by simp)) _, by simpa using HB1.out.lt⟩

set_option maxHeartbeats 1000000 in
theorem inClass_any {w : World} (hg : Ety w) {B : Nat} (hB : B ≤ w.heap.size) {v : Value} {b : Bp} (h : EV w B v b) (he : b.2.2.2 ≠ 0) (i : Int) :
    Calls Tryz.prog 21 #[.int .i64 i, v] w fun e w' => ∃ p, B ≤ p ∧ e = .returned (badV p) ∧ BadAt w' p (i, b.2) ∧ Only [p] w w' ∧ p < w'.heap.size := by
  cases h with
  | no h => exact absurd h he
  | num h =>
    rename_i x
    have HP := hid (placed_num hg x)
    go_enter Tryz.func21, Tryz.ntmps21
    go_wp2_with (go_at_call 56; refine HP.out.mono ?_; rintro e w1 ⟨q, hq, rfl, hb, ho⟩; have HB := hid hb; obtain ⟨b0, b1, b2, b3, g0, g1, g2, g3⟩ := hb)
    go_ret
    exact ⟨q, by omega, rfl, HB.out.put0 i, (ho.mono (by simp)).setCell (.inl (by simp)) _, by simpa using HB.out.lt⟩
  | bad h hp hb =>
    rename_i p
    have HP := hid (placed_bad hg p)
    have HB := hid hb
    clear hb
    unfold badV at HP ⊢
    go_enter Tryz.func21, Tryz.ntmps21
    go_wp2_with (go_at_call 56; refine HP.out.mono ?_; rintro e w1 ⟨rfl, ho⟩; have HB1 := hid (HB.out.only ho (by simp)); obtain ⟨b0, b1, b2, b3, g0, g1, g2, g3⟩ := HB.out.only ho (by simp))
    go_ret
    exact ⟨p, hp, rfl, HB1.out.put0 i, (ho.mono (by simp)).setCell (.inl (by simp)) _, by simpa using HB1.out.lt⟩

theorem scs_length (l : List (List UInt8)) : (scs l).length = l.length := by
 induction l with
 | nil => rfl
 | cons s l ih =>
  have : scs (s :: l) = .string (str s) :: scs l := rfl
  rw [this, List.length_cons, List.length_cons, ih]

theorem scs_get (l : List (List UInt8)) (j : Nat) (h : j < l.length) : (scs l)[j]? = some (.string (str l[j])) := by
 have := (els_flat scC (fun _ => rfl) l).el j h
 have h2 := congrArg (fun c => c[0]?) this
 simpa [scC, List.getElem?_take, List.getElem?_drop, scs] using h2

theorem RS.str {w : World} {ao : Option Addr} {l : List (List UInt8)} {d : Nat} (h : RS w ao (scs l) d) {j : Nat} (hj : j < l.length) : ∃ off, ao = some ⟨d, off, none⟩ ∧ w.cell? ⟨d, off + j, none⟩ = some (.string (str l[j])) := by
 obtain ⟨off, ha, hc⟩ := h.at (j := j) (by rw [scs_length]; exact hj)
 exact ⟨off, ha, hc j _ (scs_get l j hj)⟩

set_option maxHeartbeats 1000000 in
theorem index_str {w : World} {ao : Option Addr} {l : List (List UInt8)} {d cap : Nat} (hS : RS w ao (scs l) d) (hl : l.length ≤ 9223372036854775807) (n : List UInt8) :
  Calls Tryz.prog 163 #[.slice ao l.length cap, .string (str n)] w fun e w' => ∃ k : Int, e = .returned (.int .i64 k) ∧ decide (0 ≤ k) = decide (n ∈ l) ∧ w' = w := by
 have HS := hid hS
 clear hS
 go_enter Tryz.func163, Tryz.ntmps163
 go_wp2
 go_loopw [8] (fun i wr => ∃ k : Nat, k ≤ l.length ∧ i = .int .i64 (k : Int) ∧ n ∉ l.take k ∧ w = wr) (fun i _ => l.length - (intOf i).toNat)
 case atStart => exact ⟨0, Nat.zero_le _, rfl, by simp, rfl⟩
 case round =>
  obtain ⟨k, hk, rfl, hn, rfl⟩ := hrel
  by_cases hlt : k < l.length
  ·obtain ⟨off, rfl, hc⟩ := HS.out.str hlt
   have htk : l.take (k + 1) = l.take k ++ [l[k]] := List.take_succ_eq_append_getElem hlt
   have hmem : l[k] ∈ l := List.getElem_mem hlt
   generalize l[k] = x at *
   have t1 := str_toList n
   have t2 := str_toList x
   have HN := hid hn
   have HT := hid htk
   have HM := hid hmem
   clear hn htk hmem
   by_cases hq : n = x
   ·subst hq
    go_wp2
    go_ret
    exact ⟨k, rfl, by rw [decide_eq_true HM.out]; simp, rfl⟩
   ·have hq' : (n == x) = false := by simpa using hq
    go_wp2
    refine ⟨⟨k + 1, by omega, by go_num, ?_, trivial⟩, by simp [intOf]; omega⟩
    rw [HT.out]
    simp [HN.out, hq]
  ·go_wp2
   go_ret
   rw [List.take_of_length_le (by omega)] at hn
   exact ⟨-1, rfl, by rw [decide_eq_false hn]; simp, rfl⟩

theorem contains_str {w : World} {ao : Option Addr} {l : List (List UInt8)} {d cap : Nat} (hS : RS w ao (scs l) d) (hl : l.length ≤ 9223372036854775807) (n : List UInt8) :
  Calls Tryz.prog 116 #[.slice ao l.length cap, .string (str n)] w fun e w' => e = .returned (.bool (decide (n ∈ l))) ∧ Only [] w w' := by
 have HI := hid (index_str (cap := cap) hS hl n)
 clear hS
 go_enter Tryz.func116, Tryz.ntmps116
 go_wp2_with (go_at_call 163; refine HI.out.mono ?_; rintro e w' ⟨k, rfl, hk, rfl⟩; replace hk := hid hk)
 go_ret
 exact ⟨by rw [← hk.out]; rfl, Only.refl _ _⟩

def clV (vf vd vm : Value) (c : Cl) : Value := .agg #[.int .i64 c.flags, .string (str c.name), .string (str c.super), vf, vd, vm]
def meV (vp vc vh : Value) (m : Me) : Value := .agg #[.int .i64 m.flags, .string (str m.name), vp, .bool m.sig.2.1, .int .i64 m.sig.2.2.1, .string (str m.sig.2.2.2), .int .i64 m.stack, .int .i64 m.locals, vc, vh]

set_option maxHeartbeats 4000000 in
theorem checkHead_any (c : Cl) {fo dd : Option Addr} {fc dc : Nat} (vm : Value) (h1 : c.name.length ≤ 9223372036854775807) (h2 : c.super.length ≤ 9223372036854775807) (h3 : c.faces.length ≤ 9223372036854775807) (h4 : c.fields.length ≤ 9223372036854775807) (w : World) :
  Calls Tryz.prog 46 #[clV (.slice fo c.faces.length fc) (.slice dd c.fields.length dc) vm c] w fun e w' => e = .returned (bareV (headE c)) ∧ Only [] w w' := by
 have N1 := fun W => name_any c.name h1 W
 have N2 := fun W => name_any c.super h2 W
 obtain ⟨fl, nm, su, fa, fi, me⟩ := c
 unfold clV headE
 simp only at N1 N2 h1 h2 h3 h4 ⊢
 generalize fa.length = nf at *
 generalize fi.length = nd at *
 have o0 := (Only.refl [] w).alloc (.cells #[.int .i64 fl, .string (str nm), .string (str su), .slice fo nf fc, .slice dd nd dc, vm] 28)
 by_cases hfl : fl ≠ 0 ∧ fl ≠ 1 ∧ fl ≠ 2
 ·rw [if_pos hfl]
  obtain ⟨g0, g1, g2⟩ := hfl
  have g0' : (fl == 0) = false := by simpa using g0
  have g1' : (fl == 1) = false := by simpa using g1
  have g2' : (fl == 2) = false := by simpa using g2
  clear N1 N2
  go_enter Tryz.func46, Tryz.ntmps46
  go_wp2
  go_ret
  exact ⟨rfl, o0⟩
 ·rw [if_neg hfl]
  have hfl' : fl = 0 ∨ fl = 1 ∨ fl = 2 := by omega
  clear hfl
  generalize nameOK nm = b1 at *
  generalize nameOK su = b2 at *
  replace N1 := hid N1
  replace N2 := hid N2
  rcases hfl' with rfl | rfl | rfl
  ·cases b1 with
   | false =>
    rw [if_pos (Or.inl rfl)]
    go_enter Tryz.func46, Tryz.ntmps46
    go_wp2_with fail
    refine (N1.out _).mono ?_
    rintro e w' ⟨rfl, rfl⟩
    go_wp2_with fail
    go_ret
    exact ⟨rfl, o0⟩
   | true =>
    cases b2 with
    | false =>
     rw [if_pos (Or.inr rfl)]
     go_enter Tryz.func46, Tryz.ntmps46
     go_wp2_with fail
     refine (N1.out _).mono ?_
     rintro e w' ⟨rfl, rfl⟩
     go_wp2_with fail
     refine (N2.out _).mono ?_
     rintro e w' ⟨rfl, rfl⟩
     go_wp2_with fail
     go_ret
     exact ⟨rfl, o0⟩
    | true =>
     rw [if_neg (by simp)]
     by_cases hm : 16 < nf
     ·rw [if_pos hm]
      have gm : (16 : Int) < (nf : Int) := by omega
      go_enter Tryz.func46, Tryz.ntmps46
      go_wp2_with fail
      refine (N1.out _).mono ?_
      rintro e w' ⟨rfl, rfl⟩
      go_wp2_with fail
      refine (N2.out _).mono ?_
      rintro e w' ⟨rfl, rfl⟩
      go_wp2_with fail
      go_ret
      exact ⟨rfl, o0⟩
     ·rw [if_neg hm]
      have gm : ¬ (16 : Int) < (nf : Int) := by omega
      rw [if_neg (by omega), if_neg (by omega)]
      go_enter Tryz.func46, Tryz.ntmps46
      go_wp2_with fail
      refine (N1.out _).mono ?_
      rintro e w' ⟨rfl, rfl⟩
      go_wp2_with fail
      refine (N2.out _).mono ?_
      rintro e w' ⟨rfl, rfl⟩
      go_wp2_with fail
      go_ret
      exact ⟨rfl, o0⟩

  ·cases b1 with
   | false =>
    rw [if_pos (Or.inl rfl)]
    go_enter Tryz.func46, Tryz.ntmps46
    go_wp2_with fail
    refine (N1.out _).mono ?_
    rintro e w' ⟨rfl, rfl⟩
    go_wp2_with fail
    go_ret
    exact ⟨rfl, o0⟩
   | true =>
    cases b2 with
    | false =>
     rw [if_pos (Or.inr rfl)]
     go_enter Tryz.func46, Tryz.ntmps46
     go_wp2_with fail
     refine (N1.out _).mono ?_
     rintro e w' ⟨rfl, rfl⟩
     go_wp2_with fail
     refine (N2.out _).mono ?_
     rintro e w' ⟨rfl, rfl⟩
     go_wp2_with fail
     go_ret
     exact ⟨rfl, o0⟩
    | true =>
     rw [if_neg (by simp)]
     by_cases hm : 16 < nf
     ·rw [if_pos hm]
      have gm : (16 : Int) < (nf : Int) := by omega
      go_enter Tryz.func46, Tryz.ntmps46
      go_wp2_with fail
      refine (N1.out _).mono ?_
      rintro e w' ⟨rfl, rfl⟩
      go_wp2_with fail
      refine (N2.out _).mono ?_
      rintro e w' ⟨rfl, rfl⟩
      go_wp2_with fail
      go_ret
      exact ⟨rfl, o0⟩
     ·rw [if_neg hm]
      have gm : ¬ (16 : Int) < (nf : Int) := by omega
      by_cases hs : su = objL
      ·rw [if_neg (by simp [hs])]
       subst hs
       have ht : (str objL).toList = [79, 98, 106, 101, 99, 116] := str_toList _
       by_cases hd : 0 < nd
       ·rw [if_pos ⟨rfl, hd⟩]
        have gd : (0 : Int) < (nd : Int) := by omega
        go_enter Tryz.func46, Tryz.ntmps46
        go_wp2_with fail
        refine (N1.out _).mono ?_
        rintro e w' ⟨rfl, rfl⟩
        go_wp2_with fail
        refine (N2.out _).mono ?_
        rintro e w' ⟨rfl, rfl⟩
        go_wp2_with fail
        go_ret
        exact ⟨rfl, o0⟩
       ·rw [if_neg (by omega)]
        have gd : ¬ (0 : Int) < (nd : Int) := by omega
        go_enter Tryz.func46, Tryz.ntmps46
        go_wp2_with fail
        refine (N1.out _).mono ?_
        rintro e w' ⟨rfl, rfl⟩
        go_wp2_with fail
        refine (N2.out _).mono ?_
        rintro e w' ⟨rfl, rfl⟩
        go_wp2_with fail
        go_ret
        exact ⟨rfl, o0⟩
      ·rw [if_pos ⟨rfl, hs⟩]
       have ht := str_toList su
       have hb2 : ¬ (su = [79, 98, 106, 101, 99, 116]) := hs
       have hb3 : (su == [79, 98, 106, 101, 99, 116]) = false := by simpa using hb2
       go_enter Tryz.func46, Tryz.ntmps46
       go_wp2_with fail
       refine (N1.out _).mono ?_
       rintro e w' ⟨rfl, rfl⟩
       go_wp2_with fail
       refine (N2.out _).mono ?_
       rintro e w' ⟨rfl, rfl⟩
       go_wp2_with fail
       go_ret
       exact ⟨rfl, o0⟩

  ·cases b1 with
   | false =>
    rw [if_pos (Or.inl rfl)]
    go_enter Tryz.func46, Tryz.ntmps46
    go_wp2_with fail
    refine (N1.out _).mono ?_
    rintro e w' ⟨rfl, rfl⟩
    go_wp2_with fail
    go_ret
    exact ⟨rfl, o0⟩
   | true =>
    cases b2 with
    | false =>
     rw [if_pos (Or.inr rfl)]
     go_enter Tryz.func46, Tryz.ntmps46
     go_wp2_with fail
     refine (N1.out _).mono ?_
     rintro e w' ⟨rfl, rfl⟩
     go_wp2_with fail
     refine (N2.out _).mono ?_
     rintro e w' ⟨rfl, rfl⟩
     go_wp2_with fail
     go_ret
     exact ⟨rfl, o0⟩
    | true =>
     rw [if_neg (by simp)]
     by_cases hm : 16 < nf
     ·rw [if_pos hm]
      have gm : (16 : Int) < (nf : Int) := by omega
      go_enter Tryz.func46, Tryz.ntmps46
      go_wp2_with fail
      refine (N1.out _).mono ?_
      rintro e w' ⟨rfl, rfl⟩
      go_wp2_with fail
      refine (N2.out _).mono ?_
      rintro e w' ⟨rfl, rfl⟩
      go_wp2_with fail
      go_ret
      exact ⟨rfl, o0⟩
     ·rw [if_neg hm]
      have gm : ¬ (16 : Int) < (nf : Int) := by omega
      rw [if_neg (by omega), if_neg (by omega)]
      go_enter Tryz.func46, Tryz.ntmps46
      go_wp2_with fail
      refine (N1.out _).mono ?_
      rintro e w' ⟨rfl, rfl⟩
      go_wp2_with fail
      refine (N2.out _).mono ?_
      rintro e w' ⟨rfl, rfl⟩
      go_wp2_with fail
      go_ret
      exact ⟨rfl, o0⟩


set_option maxHeartbeats 1000000 in
theorem checkFace_any {w : World} {ao : Option Addr} {l : List (List UInt8)} {d cap : Nat} (hS : RS w ao (scs l) d) (hl : l.length ≤ 9223372036854775807) (n : List UInt8) (hn : n.length ≤ 9223372036854775807) :
  Calls Tryz.prog 48 #[.slice ao l.length cap, .string (str n)] w fun e w' => e = .returned (bareV (faceE l n)) ∧ Only [] w w' := by
 have N1 := name_any n hn w
 have HC := contains_str (cap := cap) hS hl n
 unfold faceE
 have hin : (decide (n ∈ l)) = true ↔ n ∈ l := by simp
 generalize nameOK n = b1 at *
 replace N1 := hid N1
 replace HC := hid HC
 cases b1 with
 | false =>
  rw [if_neg (by simp)]
  go_enter Tryz.func48, Tryz.ntmps48
  go_wp2_with fail
  refine N1.out.mono ?_
  rintro e w' ⟨rfl, rfl⟩
  go_wp2_with fail
  go_ret
  exact ⟨rfl, Only.refl _ _⟩
 | true =>
  rw [if_pos rfl]
  by_cases h : n ∈ l
  ·rw [if_pos h]
   rw [decide_eq_true h] at HC
   go_enter Tryz.func48, Tryz.ntmps48
   go_wp2_with fail
   refine N1.out.mono ?_
   rintro e w' ⟨rfl, rfl⟩
   go_wp2_with fail
   refine HC.out.mono ?_
   rintro e w1 ⟨rfl, ho⟩
   go_wp2_with fail
   go_ret
   exact ⟨rfl, ho⟩
  ·rw [if_neg h]
   rw [decide_eq_false h] at HC
   go_enter Tryz.func48, Tryz.ntmps48
   go_wp2_with fail
   refine N1.out.mono ?_
   rintro e w' ⟨rfl, rfl⟩
   go_wp2_with fail
   refine HC.out.mono ?_
   rintro e w1 ⟨rfl, ho⟩
   go_wp2_with fail
   go_ret
   exact ⟨rfl, ho⟩

set_option maxHeartbeats 4000000 in
theorem checkFlags_any (c : Cl) (vf vd vm : Value) (m : Me) (vp vc vh : Value) (w : World) :
  Calls Tryz.prog 54 #[clV vf vd vm c, meV vp vc vh m] w fun e w' => e = .returned (bareV (flagsE c.flags m)) ∧ Only [] w w' := by
 obtain ⟨cf, cn, cs, _, _, _⟩ := c
 obtain ⟨fl, nm, ⟨ps, vo, rt⟩, st, lo, code, hs⟩ := m
 unfold clV meV flagsE
 simp only
 have o0 := ((Only.refl [] w).alloc (.cells #[.int .i64 cf, .string (str cn), .string (str cs), vf, vd, vm] 28)).alloc (.cells #[.int .i64 fl, .string (str nm), vp, .bool vo, .int .i64 rt.1, .string (str rt.2), .int .i64 st, .int .i64 lo, vc, vh] 41)
 by_cases hi : nm = initL
 ·subst hi
  have ht : (str initL).toList = [60, 105, 110, 105, 116, 62] := str_toList _
  by_cases f0 : fl = 0
  ·subst f0
   rw [if_neg (by simp)]
   cases vo with
   | false =>
    rw [if_pos ⟨rfl, rfl⟩]
    go_enter Tryz.func54, Tryz.ntmps54
    go_wp2_with fail
    go_ret
    exact ⟨rfl, o0⟩
   | true =>
    rw [if_neg (by simp)]
    by_cases c1 : cf = 1
    ·subst c1
     rw [if_pos ⟨rfl, by decide⟩]
     go_enter Tryz.func54, Tryz.ntmps54
     go_wp2_with fail
     go_ret
     exact ⟨rfl, o0⟩
    ·have g1 : (cf == 1) = false := by simpa using c1
     rw [if_neg (by omega), if_neg (by omega)]
     by_cases c0 : cf = 0
     ·subst c0
      go_enter Tryz.func54, Tryz.ntmps54
      go_wp2_with fail
      go_ret
      exact ⟨rfl, o0⟩
     ·have g0 : (cf == 0) = false := by simpa using c0
      go_enter Tryz.func54, Tryz.ntmps54
      go_wp2_with fail
      go_ret
      exact ⟨rfl, o0⟩
  ·have g0 : (fl == 0) = false := by simpa using f0
   rw [if_pos ⟨rfl, f0⟩]
   go_enter Tryz.func54, Tryz.ntmps54
   go_wp2_with fail
   go_ret
   exact ⟨rfl, o0⟩
 ·have ht := str_toList nm
  have hb2 : ¬ (nm = [60, 105, 110, 105, 116, 62]) := hi
  rw [if_neg (fun h => hi h.1), if_neg (fun h => hi h.1)]
  by_cases c1 : cf = 1
  ·subst c1
   by_cases f2 : fl = 2
   ·subst f2
    rw [if_neg (by omega), if_neg (by omega)]
    go_enter Tryz.func54, Tryz.ntmps54
    go_wp2_with fail
    go_ret
    exact ⟨rfl, o0⟩
   ·have g2 : (fl == 2) = false := by simpa using f2
    rw [if_pos ⟨rfl, f2⟩]
    go_enter Tryz.func54, Tryz.ntmps54
    go_wp2_with fail
    go_ret
    exact ⟨rfl, o0⟩
  ·have g1 : (cf == 1) = false := by simpa using c1
   rw [if_neg (by omega)]
   by_cases c0 : cf = 0
   ·subst c0
    by_cases f2 : fl = 2
    ·subst f2
     rw [if_pos ⟨rfl, rfl⟩]
     go_enter Tryz.func54, Tryz.ntmps54
     go_wp2_with fail
     go_ret
     exact ⟨rfl, o0⟩
    ·have g2 : (fl == 2) = false := by simpa using f2
     rw [if_neg (by omega)]
     go_enter Tryz.func54, Tryz.ntmps54
     go_wp2_with fail
     go_ret
     exact ⟨rfl, o0⟩
   ·have g0 : (cf == 0) = false := by simpa using c0
    rw [if_neg (by omega)]
    by_cases f2 : fl = 2
    ·subst f2
     go_enter Tryz.func54, Tryz.ntmps54
     go_wp2_with fail
     go_ret
     exact ⟨rfl, o0⟩
    ·have g2 : (fl == 2) = false := by simpa using f2
     go_enter Tryz.func54, Tryz.ntmps54
     go_wp2_with fail
     go_ret
     exact ⟨rfl, o0⟩

theorem handedIn_any (m : Me) {po : Option Addr} {pc : Nat} (hl : m.sig.1.length ≤ 1000000000000000000) (vc vh : Value) (w : World) :
  Calls Tryz.prog 124 #[meV (.slice po m.sig.1.length pc) vc vh m] w fun e w' => e = .returned (.int .i64 (handedE m)) ∧ Only [] w w' := by
 obtain ⟨fl, nm, ⟨ps, vo, rt⟩, st, lo, code, hs⟩ := m
 unfold meV handedE
 simp only at hl ⊢
 have o0 := (Only.refl [] w).alloc (.cells #[.int .i64 fl, .string (str nm), .slice po ps.length pc, .bool vo, .int .i64 rt.1, .string (str rt.2), .int .i64 st, .int .i64 lo, vc, vh] 41)
 by_cases f4 : fl = 4
 ·subst f4
  rw [if_pos rfl]
  go_enter Tryz.func124, Tryz.ntmps124
  go_wp2
  go_ret
  exact ⟨rfl, o0⟩
 ·have g4 : (fl == 4) = false := by simpa using f4
  rw [if_neg f4]
  go_enter Tryz.func124, Tryz.ntmps124
  go_wp2
  go_ret
  exact ⟨rfl, o0⟩

set_option maxHeartbeats 400000 in
set_option maxRecDepth 100000 in
theorem equal_any {w : World} {ao bo : Option Addr} {l m : List Ty} {d k cap bap : Nat} (hT : TS w ao l d) (hM : TS w bo m k) (hl : l.length ≤ 9223372036854775807) :
  Calls Tryz.prog 168 #[.slice ao l.length cap, .slice bo m.length bap] w fun e w' => e = .returned (.bool (decide (l = m))) ∧ Only [] w w' := by
 by_cases hq : l.length = m.length
 ·rw [← hq]
  replace hq := hid hq
  go_enter Tryz.func168, Tryz.ntmps168
  go_wp2
  go_loopw [13] (fun i wr => ∃ j : Nat, j ≤ l.length ∧ i = .int .i64 (j : Int) ∧ l.take j = m.take j ∧ Only [] w wr) (fun i _ => l.length - (intOf i).toNat)
  case atStart => exact ⟨0, by omega, rfl, by simp, Only.refl _ _⟩
  case round =>
   obtain ⟨j, hj, rfl, hpre, hor⟩ := hrel
   by_cases hlt : j < l.length
   ·have g2 : ((j : Int) < (l.length : Int)) := by omega
    have hne : l ≠ [] := by intro e; simp [e] at hlt
    have hlt2 : j < m.length := by rw [← hq.out]; exact hlt
    have hne2 : m ≠ [] := by intro e; simp [e] at hlt2
    rcases hT.only hor (by simp) with h | ⟨off, rfl, hc⟩
    ·exact absurd h hne
    rcases hM.only hor (by simp) with h | ⟨off2, rfl, hc2⟩
    ·exact absurd h hne2
    obtain ⟨y0, y1⟩ := hc j hlt
    obtain ⟨z0, z1⟩ := hc2 j hlt2
    clear hc hc2 hT hM
    have hnx : l[j] = m[j] → l.take (j + 1) = m.take (j + 1) := by
     intro e
     rw [List.take_succ_eq_append_getElem hlt, List.take_succ_eq_append_getElem hlt2, hpre, e]
    have hno : l[j] ≠ m[j] → l ≠ m := by
     intro e1 e2
     apply e1
     simp [e2]
    have hqt := neq_type l[j] m[j]
    generalize l[j] = s at *
    generalize m[j] = t at *
    obtain ⟨d0, n0⟩ := s
    obtain ⟨d1, n1⟩ := t
    simp only [tyV] at hqt
    clear hpre hne hne2 hlt2
    by_cases hs : (d0, n0) = (d1, n1)
    ·have hnx := hid (hnx hs)
     simp only [hs, decide_true, Bool.not_true] at hqt
     clear hs hno
     go_wp2_with fail
     go_region
     go_wp2
     exact ⟨⟨j + 1, by omega, by go_num, hnx.out, hor.drew⟩, by simp [intOf]; omega⟩
    ·have e1 : Hid (decide (l = m) = false) := by simp [Hid, hno hs]
     simp only [hs, decide_false, Bool.not_false] at hqt
     clear hs hno hnx
     go_wp2_with fail
     go_region
     go_wp2
     go_ret
     exact ⟨by rw [e1.out]; rfl, hor.drew⟩
   ·have g2 : ¬ ((j : Int) < (l.length : Int)) := by omega
    obtain rfl : j = l.length := by omega
    have e1 : Hid (decide (l = m) = true) := by
     rw [List.take_of_length_le (Nat.le_refl _), List.take_of_length_le (by rw [hq.out]; exact Nat.le_refl _)] at hpre
     simp [Hid, hpre]
    clear hpre
    go_wp2
    go_ret
    exact ⟨by rw [e1.out]; rfl, hor⟩
 ·have g1 : ¬ ((l.length : Int) = (m.length : Int)) := by omega
  have g2 : ((l.length : Int) != (m.length : Int)) = true := by simpa using g1
  have hne : ¬ (l = m) := fun e => hq (by rw [e])
  have e1 : Hid (decide (l = m) = false) := by simp [Hid, hne]
  rw [e1.out]
  clear hne e1
  go_enter Tryz.func168, Tryz.ntmps168
  go_wp2
  go_ret
  exact ⟨rfl, Only.refl _ _⟩

set_option maxHeartbeats 400000 in
set_option maxRecDepth 100000 in
theorem same_any {w : World} {ao bo : Option Addr} {l m : List Ty} {d k cap bap : Nat} (hT : TS w ao l d) (hM : TS w bo m k) (hl : l.length ≤ 9223372036854775807) (v u : Bool) (s t : Ty) :
  Calls Tryz.prog 123 #[sigV (.slice ao l.length cap) v s, sigV (.slice bo m.length bap) u t] w fun e w' => e = .returned (.bool (sameR (l, v, s) (m, u, t))) ∧ Only [] w w' := by
 have hq := eq_type s t
 have hst : ∃ b, b = decide (s = t) := ⟨_, rfl⟩
 obtain ⟨b, hb⟩ := hst
 rw [← hb] at hq
 replace hb := hid hb
 obtain ⟨d0, n0⟩ := s
 obtain ⟨d1, n1⟩ := t
 simp only [tyV] at hq
 simp only [sigV]
 have o1 := ((Only.refl [] w).alloc (.cells #[.slice ao l.length cap, .bool v, .int .i64 d0, .string (str n0)] 37)).alloc (.cells #[.slice bo m.length bap, .bool u, .int .i64 d1, .string (str n1)] 37)
 have HE := hid (equal_any (cap := cap) (bap := bap) (hT.only o1 (by simp)) (hM.only o1 (by simp)) hl)
 have hfin : Hid (sameR (l, v, (d0, n0)) (m, u, (d1, n1)) = (decide (v = u) && (b && decide (l = m)))) := by
  rw [hb.out]
  unfold Hid sameR
  by_cases h1 : l = m <;> by_cases h2 : v = u <;> by_cases h3 : ((d0, n0) : Ty) = (d1, n1) <;> simp [h1, h2, h3]
 cases v <;> cases u <;> cases b
 all_goals
  go_enter Tryz.func123, Tryz.ntmps123
  go_wp2_with (go_at_call 168; refine HE.out.mono ?_; rintro e w2 ⟨rfl, ho2⟩)
  go_ret
  first
   | exact ⟨by rw [hfin.out]; simp, o1.next ho2 (by simp)⟩
   | exact ⟨by rw [hfin.out]; simp, o1⟩

theorem any_take_succ {α : Type} (p : α → Bool) (l : List α) (k : Nat) (h : k < l.length) : (l.take (k + 1)).any p = ((l.take k).any p || p l[k]) := by
 rw [List.take_succ_eq_append_getElem h, List.any_append]
 simp

theorem any_of_get {α : Type} (p : α → Bool) (l : List α) (k : Nat) (h : k < l.length) (hp : p l[k] = true) : l.any p = true := List.any_eq_true.2 ⟨l[k], List.getElem_mem h, hp⟩

theorem fd_cells {w : World} {ao : Option Addr} {l : List Fd} {d : Nat} (h : RS w ao (fcs l) d) {j : Nat} (hj : j < l.length) :
  ∃ off, ao = some ⟨d, off, none⟩ ∧ w.cell? ⟨d, off + j * 4, none⟩ = some (.int .i64 l[j].1) ∧ w.cell? ⟨d, off + j * 4 + 1, none⟩ = some (.string (str l[j].2.1)) ∧ w.cell? ⟨d, off + j * 4 + 2, none⟩ = some (.int .i64 l[j].2.2.1) ∧ w.cell? ⟨d, off + j * 4 + 3, none⟩ = some (.string (str l[j].2.2.2)) := by
 obtain ⟨off, ha, hc⟩ := h.piece 4 j ((els_flat fdC (fun _ => rfl) l).el j hj) (by simp [fdC])
 exact ⟨off, ha, hc 0 _ rfl, hc 1 _ rfl, hc 2 _ rfl, hc 3 _ rfl⟩

theorem hd_cells {w : World} {ao : Option Addr} {l : List Hd} {d : Nat} (h : RS w ao (hcs l) d) {j : Nat} (hj : j < l.length) :
  ∃ off, ao = some ⟨d, off, none⟩ ∧ w.cell? ⟨d, off + j * 4, none⟩ = some (.int .i64 l[j].1) ∧ w.cell? ⟨d, off + j * 4 + 1, none⟩ = some (.int .i64 l[j].2.1) ∧ w.cell? ⟨d, off + j * 4 + 2, none⟩ = some (.int .i64 l[j].2.2.1) ∧ w.cell? ⟨d, off + j * 4 + 3, none⟩ = some (.string (str l[j].2.2.2)) := by
 obtain ⟨off, ha, hc⟩ := h.piece 4 j ((els_flat hdC (fun _ => rfl) l).el j hj) (by simp [hdC])
 exact ⟨off, ha, hc 0 _ rfl, hc 1 _ rfl, hc 2 _ rfl, hc 3 _ rfl⟩

theorem me_cells {R : Rp} {w : World} {ao : Option Addr} {l : List Me} {cs : List Value} {d : Nat} (h : RS w ao cs d) (he : Els 10 (MeC R) cs l) {j : Nat} (hj : j < l.length) :
  ∃ off vp vc vh, ao = some ⟨d, off, none⟩ ∧ MeAt R vp vc vh l[j] ∧ w.cell? ⟨d, off + j * 10, none⟩ = some (.int .i64 l[j].flags) ∧ w.cell? ⟨d, off + j * 10 + 1, none⟩ = some (.string (str l[j].name)) ∧ w.cell? ⟨d, off + j * 10 + 2, none⟩ = some vp ∧ w.cell? ⟨d, off + j * 10 + 3, none⟩ = some (.bool l[j].sig.2.1) ∧
   w.cell? ⟨d, off + j * 10 + 4, none⟩ = some (.int .i64 l[j].sig.2.2.1) ∧ w.cell? ⟨d, off + j * 10 + 5, none⟩ = some (.string (str l[j].sig.2.2.2)) ∧ w.cell? ⟨d, off + j * 10 + 6, none⟩ = some (.int .i64 l[j].stack) ∧ w.cell? ⟨d, off + j * 10 + 7, none⟩ = some (.int .i64 l[j].locals) ∧ w.cell? ⟨d, off + j * 10 + 8, none⟩ = some vc ∧ w.cell? ⟨d, off + j * 10 + 9, none⟩ = some vh := by
 obtain ⟨vp, vc, vh, hcs, hm⟩ := he.el j hj
 obtain ⟨off, ha, hc⟩ := h.piece 10 j hcs (by simp [meC])
 exact ⟨off, vp, vc, vh, ha, hm, hc 0 _ rfl, hc 1 _ rfl, hc 2 _ rfl, hc 3 _ rfl, hc 4 _ rfl, hc 5 _ rfl, hc 6 _ rfl, hc 7 _ rfl, hc 8 _ rfl, hc 9 _ rfl⟩

theorem cl_cells {R : Rp} {w : World} {ao : Option Addr} {l : List Cl} {cs : List Value} {d : Nat} (h : RS w ao cs d) (he : Els 6 (ClC R) cs l) {j : Nat} (hj : j < l.length) :
  ∃ off vf vd vm, ao = some ⟨d, off, none⟩ ∧ ClAt R vf vd vm l[j] ∧ w.cell? ⟨d, off + j * 6, none⟩ = some (.int .i64 l[j].flags) ∧ w.cell? ⟨d, off + j * 6 + 1, none⟩ = some (.string (str l[j].name)) ∧ w.cell? ⟨d, off + j * 6 + 2, none⟩ = some (.string (str l[j].super)) ∧ w.cell? ⟨d, off + j * 6 + 3, none⟩ = some vf ∧ w.cell? ⟨d, off + j * 6 + 4, none⟩ = some vd ∧ w.cell? ⟨d, off + j * 6 + 5, none⟩ = some vm := by
 obtain ⟨vf, vd, vm, hcs, hm⟩ := he.el j hj
 obtain ⟨off, ha, hc⟩ := h.piece 6 j hcs (by simp [clC])
 exact ⟨off, vf, vd, vm, ha, hm, hc 0 _ rfl, hc 1 _ rfl, hc 2 _ rfl, hc 3 _ rfl, hc 4 _ rfl, hc 5 _ rfl⟩

set_option maxHeartbeats 1000000 in
theorem fd_clo {w : World} (g : Fd) (b : Nat) (n : List UInt8) (hb : w.cell? ⟨b, 1, none⟩ = some (.string (str n))) :
  Calls Tryz.prog 119 #[fdV g, .pointer (some ⟨b, 0, none⟩)] w fun e w' => e = .returned (.bool (decide (g.2.1 = n))) ∧ Only [] w w' := by
 obtain ⟨fl, nm, td, tn⟩ := g
 unfold fdV
 simp only
 have o0 := (Only.refl [] w).alloc (.cells #[.int .i64 fl, .string (str nm), .int .i64 td, .string (str tn)] 44)
 have hb' := cell_alloc (.cells #[.int .i64 fl, .string (str nm), .int .i64 td, .string (str tn)] 44) hb
 have t1 := str_toList n
 have t2 := str_toList nm
 by_cases hq : nm = n
 ·subst hq
  rw [decide_eq_true rfl]
  go_enter Tryz.func119, Tryz.ntmps119
  go_wp2
  go_ret
  exact ⟨rfl, o0⟩
 ·rw [decide_eq_false hq]
  have hq' : (nm == n) = false := by simpa using hq
  go_enter Tryz.func119, Tryz.ntmps119
  go_wp2
  go_ret
  exact ⟨rfl, o0⟩

set_option maxHeartbeats 1000000 in
theorem cl_clo {w : World} (g : Cl) (vf vd vm : Value) (b : Nat) (n : List UInt8) (hb : w.cell? ⟨b, 1, none⟩ = some (.string (str n))) :
  Calls Tryz.prog 23 #[clV vf vd vm g, .pointer (some ⟨b, 0, none⟩)] w fun e w' => e = .returned (.bool (decide (g.name = n))) ∧ Only [] w w' := by
 obtain ⟨fl, nm, su, _, _, _⟩ := g
 unfold clV
 simp only
 have o0 := (Only.refl [] w).alloc (.cells #[.int .i64 fl, .string (str nm), .string (str su), vf, vd, vm] 28)
 have hb' := cell_alloc (.cells #[.int .i64 fl, .string (str nm), .string (str su), vf, vd, vm] 28) hb
 have t1 := str_toList n
 have t2 := str_toList nm
 by_cases hq : nm = n
 ·subst hq
  rw [decide_eq_true rfl]
  go_enter Tryz.func23, Tryz.ntmps23
  go_wp2
  go_ret
  exact ⟨rfl, o0⟩
 ·rw [decide_eq_false hq]
  have hq' : (nm == n) = false := by simpa using hq
  go_enter Tryz.func23, Tryz.ntmps23
  go_wp2
  go_ret
  exact ⟨rfl, o0⟩

/-- A method in a block: what a closure reads of it. -/
structure MeBlk (w : World) (b : Nat) (vp : Value) (m : Me) : Prop where
 c1 : w.cell? ⟨b, 1, none⟩ = some (.string (str m.name))
 c2 : w.cell? ⟨b, 2, none⟩ = some vp
 c3 : w.cell? ⟨b, 3, none⟩ = some (.bool m.sig.2.1)
 c4 : w.cell? ⟨b, 4, none⟩ = some (.int .i64 m.sig.2.2.1)
 c5 : w.cell? ⟨b, 5, none⟩ = some (.string (str m.sig.2.2.2))

theorem MeBlk.only {w w' : World} {S : List Nat} {b : Nat} {vp : Value} {m : Me} (h : MeBlk w b vp m) (ho : Only S w w') (hb : b ∉ S) : MeBlk w' b vp m := by
 have hl : b < w.heap.size := World.block_lt_of_cell? w _ h.c1
 exact ⟨(ho.cell (p := ⟨b, 1, none⟩) hl hb).trans h.c1, (ho.cell (p := ⟨b, 2, none⟩) hl hb).trans h.c2, (ho.cell (p := ⟨b, 3, none⟩) hl hb).trans h.c3, (ho.cell (p := ⟨b, 4, none⟩) hl hb).trans h.c4, (ho.cell (p := ⟨b, 5, none⟩) hl hb).trans h.c5⟩

set_option maxHeartbeats 2000000 in
theorem me_clo {w : World} {P Q : Nat → Prop} (g : Me) {vp vc vh : Value} (hg : SlV w P vp g.sig.1.length (tcs g.sig.1)) (b : Nat) {vq : Value} {m : Me} (hb : MeBlk w b vq m) (hq : SlV w Q vq m.sig.1.length (tcs m.sig.1)) :
  Calls Tryz.prog 122 #[meV vp vc vh g, .pointer (some ⟨b, 0, none⟩)] w fun e w' => e = .returned (.bool (decide (g.name = m.name) && sameR g.sig m.sig)) ∧ Only [] w w' := by
 obtain ⟨ao, ac, ad, rfl, hA⟩ := hg
 obtain ⟨bo, bc, bd, rfl, hB⟩ := hq
 obtain ⟨fl, nm, ⟨ps, vo, td, tn⟩, st, lo, code, hs⟩ := g
 obtain ⟨fl2, nm2, ⟨ps2, vo2, td2, tn2⟩, st2, lo2, code2, hs2⟩ := m
 unfold meV
 simp only at hA hB hb ⊢
 have o0 := (Only.refl [] w).alloc (.cells #[.int .i64 fl, .string (str nm), .slice ao ps.length ac, .bool vo, .int .i64 td, .string (str tn), .int .i64 st, .int .i64 lo, vc, vh] 41)
 have hb' := hb.only o0 (by simp)
 have HS := hid (same_any (cap := ac) (bap := bc) (TS.of_rs (hA.rs.only0 o0)) (TS.of_rs (hB.rs.only0 o0)) (by have := hA.le; have := hA.max; omega) vo vo2 (td, tn) (td2, tn2))
 obtain ⟨k1, k2, k3, k4, k5⟩ := hb'
 simp only at k1 k2 k3 k4 k5
 have t1 := str_toList nm
 have t2 := str_toList nm2
 clear hA hB hb
 by_cases hn : nm = nm2
 ·subst hn
  rw [decide_eq_true rfl, Bool.true_and]
  generalize sameR (ps, vo, td, tn) (ps2, vo2, td2, tn2) = z at *
  unfold sigV at HS
  cases z with
  | true =>
   go_enter Tryz.func122, Tryz.ntmps122
   go_wp2_with fail
   refine HS.out.mono ?_
   rintro e w1 ⟨rfl, ho⟩
   go_wp2_with fail
   go_ret
   exact ⟨rfl, o0.next ho (by simp)⟩
  | false =>
   go_enter Tryz.func122, Tryz.ntmps122
   go_wp2_with fail
   refine HS.out.mono ?_
   rintro e w1 ⟨rfl, ho⟩
   go_wp2_with fail
   go_ret
   exact ⟨rfl, o0.next ho (by simp)⟩
 ·rw [decide_eq_false hn, Bool.false_and]
  have hn' : (nm == nm2) = false := by simpa using hn
  clear HS
  go_enter Tryz.func122, Tryz.ntmps122
  go_wp2_with fail
  go_ret
  exact ⟨rfl, o0⟩

set_option maxHeartbeats 2000000 in
theorem index_fd {w : World} {ao : Option Addr} {l : List Fd} {d cap : Nat} (hS : RS w ao (fcs l) d) (hl : l.length ≤ 9223372036854775807) (b : Nat) (n : List UInt8) (hb : w.cell? ⟨b, 1, none⟩ = some (.string (str n))) :
  Calls Tryz.prog 164 #[.slice ao l.length cap, .func (.func 119) #[] #[.pointer (some ⟨b, 0, none⟩)]] w fun e w' => ∃ k : Int, e = .returned (.int .i64 k) ∧ decide (0 ≤ k) = l.any (fun g => decide (g.2.1 = n)) ∧ Only [] w w' := by
 have HS := hid hS
 have HB := hid hb
 clear hS hb
 go_enter Tryz.func164, Tryz.ntmps164
 go_wp2
 go_loopw [8] (fun i wr => ∃ k : Nat, k ≤ l.length ∧ i = .int .i64 (k : Int) ∧ (l.take k).any (fun g => decide (g.2.1 = n)) = false ∧ Only [] w wr) (fun i _ => l.length - (intOf i).toNat)
 case atStart => exact ⟨0, Nat.zero_le _, rfl, by simp, Only.refl _ _⟩
 case round =>
  obtain ⟨k, hk, rfl, hn, ho⟩ := hrel
  by_cases hlt : k < l.length
  ·have HA := hid (any_take_succ (fun g => decide (g.2.1 = n)) l k hlt)
   have HG := hid (any_of_get (fun g => decide (g.2.1 = n)) l k hlt)
   have HN := hid hn
   obtain ⟨off, rfl, c0, c1, c2, c3⟩ := fd_cells (HS.out.only0 ho) hlt
   have hb2 : wr.cell? ⟨b, 1, none⟩ = some (.string (str n)) := (ho.cell (p := ⟨b, 1, none⟩) (World.block_lt_of_cell? w _ HB.out) (by simp)).trans HB.out
   generalize l[k] = g at *
   have HC := hid (fd_clo g b n hb2)
   unfold fdV at HC
   clear hb2
   go_wp2_with fail
   refine HC.out.mono ?_
   rintro e w1 ⟨rfl, ho1⟩
   by_cases hq : (fun g => decide (g.2.1 = n)) g = true
   ·simp only at hq
    rw [hq]
    go_wp2_with fail
    go_ret
    exact ⟨k, rfl, by rw [HG.out hq]; simp, ho.next ho1 (by simp)⟩
   ·have hq' : (fun g => decide (g.2.1 = n)) g = false := by simpa using hq
    simp only at hq'
    rw [hq']
    go_wp2_with fail
    refine ⟨⟨k + 1, by omega, by go_num, ?_, ho.next ho1 (by simp)⟩, by simp [intOf]; omega⟩
    rw [HA.out, HN.out]
    simpa using hq'
  ·go_wp2
   go_ret
   rw [List.take_of_length_le (by omega)] at hn
   exact ⟨-1, rfl, by rw [hn]; simp, ho⟩

theorem contains_fd {w : World} {ao : Option Addr} {l : List Fd} {d cap : Nat} (hS : RS w ao (fcs l) d) (hl : l.length ≤ 9223372036854775807) (b : Nat) (n : List UInt8) (hb : w.cell? ⟨b, 1, none⟩ = some (.string (str n))) :
  Calls Tryz.prog 118 #[.slice ao l.length cap, .func (.func 119) #[] #[.pointer (some ⟨b, 0, none⟩)]] w fun e w' => e = .returned (.bool (l.any (fun g => decide (g.2.1 = n)))) ∧ Only [] w w' := by
 have HI := hid (index_fd (cap := cap) hS hl b n hb)
 go_enter Tryz.func118, Tryz.ntmps118
 go_wp2_with (go_at_call 164; refine HI.out.mono ?_; rintro e w' ⟨k, rfl, hk, ho⟩; replace hk := hid hk)
 go_ret
 exact ⟨by rw [← hk.out]; rfl, ho⟩

set_option maxHeartbeats 2000000 in
theorem index_cl {w : World} {R : Rp} {ao : Option Addr} {l : List Cl} {cs : List Value} {d cap : Nat} (hS : RS w ao cs d) (hE : Els 6 (ClC R) cs l) (hl : l.length ≤ 9223372036854775807) (b : Nat) (n : List UInt8) (hb : w.cell? ⟨b, 1, none⟩ = some (.string (str n))) :
  Calls Tryz.prog 57 #[.slice ao l.length cap, .func (.func 23) #[] #[.pointer (some ⟨b, 0, none⟩)]] w fun e w' => ∃ k : Int, e = .returned (.int .i64 k) ∧ decide (0 ≤ k) = l.any (fun g => decide (g.name = n)) ∧ Only [] w w' := by
 have HS := hid hS
 have HE := hid hE
 have HB := hid hb
 clear hS hb hE
 go_enter Tryz.func57, Tryz.ntmps57
 go_wp2
 go_loopw [8] (fun i wr => ∃ k : Nat, k ≤ l.length ∧ i = .int .i64 (k : Int) ∧ (l.take k).any (fun g => decide (g.name = n)) = false ∧ Only [] w wr) (fun i _ => l.length - (intOf i).toNat)
 case atStart => exact ⟨0, Nat.zero_le _, rfl, by simp, Only.refl _ _⟩
 case round =>
  obtain ⟨k, hk, rfl, hn, ho⟩ := hrel
  by_cases hlt : k < l.length
  ·have HA := hid (any_take_succ (fun g => decide (g.name = n)) l k hlt)
   have HG := hid (any_of_get (fun g => decide (g.name = n)) l k hlt)
   have HN := hid hn
   obtain ⟨off, vf, vd, vm, rfl, _, c0, c1, c2, c3, c4, c5⟩ := cl_cells (HS.out.only0 ho) HE.out hlt
   have hb2 : wr.cell? ⟨b, 1, none⟩ = some (.string (str n)) := (ho.cell (p := ⟨b, 1, none⟩) (World.block_lt_of_cell? w _ HB.out) (by simp)).trans HB.out
   generalize l[k] = g at *
   have HC := hid (cl_clo g vf vd vm b n hb2)
   unfold clV at HC
   clear hb2
   go_wp2_with fail
   refine HC.out.mono ?_
   rintro e w1 ⟨rfl, ho1⟩
   by_cases hq : (fun g => decide (g.name = n)) g = true
   ·simp only at hq
    rw [hq]
    go_wp2_with fail
    go_ret
    exact ⟨k, rfl, by rw [HG.out hq]; simp, ho.next ho1 (by simp)⟩
   ·have hq' : (fun g => decide (g.name = n)) g = false := by simpa using hq
    simp only at hq'
    rw [hq']
    go_wp2_with fail
    refine ⟨⟨k + 1, by omega, by go_num, ?_, ho.next ho1 (by simp)⟩, by simp [intOf]; omega⟩
    rw [HA.out, HN.out]
    simpa using hq'
  ·go_wp2
   go_ret
   rw [List.take_of_length_le (by omega)] at hn
   exact ⟨-1, rfl, by rw [hn]; simp, ho⟩

theorem contains_cl {w : World} {R : Rp} {ao : Option Addr} {l : List Cl} {cs : List Value} {d cap : Nat} (hS : RS w ao cs d) (hE : Els 6 (ClC R) cs l) (hl : l.length ≤ 9223372036854775807) (b : Nat) (n : List UInt8) (hb : w.cell? ⟨b, 1, none⟩ = some (.string (str n))) :
  Calls Tryz.prog 22 #[.slice ao l.length cap, .func (.func 23) #[] #[.pointer (some ⟨b, 0, none⟩)]] w fun e w' => e = .returned (.bool (l.any (fun g => decide (g.name = n)))) ∧ Only [] w w' := by
 have HI := hid (index_cl (cap := cap) hS hE hl b n hb)
 go_enter Tryz.func22, Tryz.ntmps22
 go_wp2_with (go_at_call 57; refine HI.out.mono ?_; rintro e w' ⟨k, rfl, hk, ho⟩; replace hk := hid hk)
 go_ret
 exact ⟨by rw [← hk.out]; rfl, ho⟩

set_option maxHeartbeats 2000000 in
theorem index_me {w : World} {P Q : Nat → Prop} {ao : Option Addr} {l : List Me} {cs : List Value} {d cap : Nat} (hS : RS w ao cs d) (hE : Els 10 (MeC (SlR w P)) cs l) (hl : l.length ≤ 9223372036854775807) (b : Nat) {vq : Value} {m : Me} (hb : MeBlk w b vq m) (hq : SlV w Q vq m.sig.1.length (tcs m.sig.1)) :
  Calls Tryz.prog 167 #[.slice ao l.length cap, .func (.func 122) #[] #[.pointer (some ⟨b, 0, none⟩)]] w fun e w' => ∃ k : Int, e = .returned (.int .i64 k) ∧ decide (0 ≤ k) = l.any (fun g => decide (g.name = m.name) && sameR g.sig m.sig) ∧ Only [] w w' := by
 have HS := hid hS
 have HE := hid hE
 have HB := hid hb
 have HQ := hid hq
 clear hS hb hE hq
 go_enter Tryz.func167, Tryz.ntmps167
 go_wp2
 go_loopw [8] (fun i wr => ∃ k : Nat, k ≤ l.length ∧ i = .int .i64 (k : Int) ∧ (l.take k).any (fun g => decide (g.name = m.name) && sameR g.sig m.sig) = false ∧ Only [] w wr) (fun i _ => l.length - (intOf i).toNat)
 case atStart => exact ⟨0, Nat.zero_le _, rfl, by simp, Only.refl _ _⟩
 case round =>
  obtain ⟨k, hk, rfl, hn, ho⟩ := hrel
  by_cases hlt : k < l.length
  ·have HA := hid (any_take_succ (fun g => decide (g.name = m.name) && sameR g.sig m.sig) l k hlt)
   have HG := hid (any_of_get (fun g => decide (g.name = m.name) && sameR g.sig m.sig) l k hlt)
   have HN := hid hn
   obtain ⟨off, vp, vc, vh, rfl, hM, c0, c1, c2, c3, c4, c5, c6, c7, c8, c9⟩ := me_cells (HS.out.only0 ho) HE.out hlt
   have hb2 := HB.out.only ho (by simp)
   have hp := SlV.only hM.params ho (by simp)
   clear hM
   have hq2 := HQ.out.only ho (by simp)
   generalize l[k] = g at *
   have HC := hid (me_clo (vc := vc) (vh := vh) g hp b hb2 hq2)
   unfold meV at HC
   clear hb2 hp hq2
   go_wp2_with fail
   refine HC.out.mono ?_
   rintro e w1 ⟨rfl, ho1⟩
   by_cases hq : (fun g => decide (g.name = m.name) && sameR g.sig m.sig) g = true
   ·simp only at hq
    rw [hq]
    go_wp2_with fail
    go_ret
    exact ⟨k, rfl, by rw [HG.out hq]; simp, ho.next ho1 (by simp)⟩
   ·have hq' : (fun g => decide (g.name = m.name) && sameR g.sig m.sig) g = false := by simpa using hq
    simp only at hq'
    rw [hq']
    go_wp2_with fail
    refine ⟨⟨k + 1, by omega, by go_num, ?_, ho.next ho1 (by simp)⟩, by simp [intOf]; omega⟩
    rw [HA.out, HN.out]
    simpa using hq'
  ·go_wp2
   go_ret
   rw [List.take_of_length_le (by omega)] at hn
   exact ⟨-1, rfl, by rw [hn]; simp, ho⟩

theorem contains_me {w : World} {P Q : Nat → Prop} {ao : Option Addr} {l : List Me} {cs : List Value} {d cap : Nat} (hS : RS w ao cs d) (hE : Els 10 (MeC (SlR w P)) cs l) (hl : l.length ≤ 9223372036854775807) (b : Nat) {vq : Value} {m : Me} (hb : MeBlk w b vq m) (hq : SlV w Q vq m.sig.1.length (tcs m.sig.1)) :
  Calls Tryz.prog 121 #[.slice ao l.length cap, .func (.func 122) #[] #[.pointer (some ⟨b, 0, none⟩)]] w fun e w' => e = .returned (.bool (l.any (fun g => decide (g.name = m.name) && sameR g.sig m.sig))) ∧ Only [] w w' := by
 have HI := hid (index_me (cap := cap) hS hE hl b hb hq)
 go_enter Tryz.func121, Tryz.ntmps121
 go_wp2_with (go_at_call 167; refine HI.out.mono ?_; rintro e w' ⟨k, rfl, hk, ho⟩; replace hk := hid hk)
 go_ret
 exact ⟨by rw [← hk.out]; rfl, ho⟩

end Go.Proofs.YtildemmkhndhjaaGreatDoor
