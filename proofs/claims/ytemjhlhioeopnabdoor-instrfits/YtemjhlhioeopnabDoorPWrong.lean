/-
  The contract of wrong: what is wrong with an entry of a list. No conditions.
-/
import Derived.Test.YtemjhlhioeopnabDoorPText
import Derived.Deep.RegionHeld3
namespace Go.Proofs.YtemjhlhioeopnabDoor
open Go.RowKit

/-- An entry in a block, and what was there is as it was. -/
def EnS (w0 : World) (p : Nat) (e : En) (w : World) : Prop := w.cell? ⟨p, 0, none⟩ = some (.int .i64 e.1) ∧ w.cell? ⟨p, 1, none⟩ = some (.string (str e.2.1)) ∧ w.cell? ⟨p, 2, none⟩ = some (.int .i64 e.2.2.1) ∧ w.cell? ⟨p, 3, none⟩ = some (.int .i64 e.2.2.2.1) ∧ w.cell? ⟨p, 4, none⟩ = some (.int .i64 e.2.2.2.2.1) ∧ w.cell? ⟨p, 5, none⟩ = some (.int .i64 e.2.2.2.2.2) ∧ Only [] w0 w

theorem keep_en {a b z : World} {p : Nat} {x0 x1 x2 x3 x4 x5 : Value} (ho : Only [] a b)
    (h : a.cell? ⟨p, 0, none⟩ = some x0 ∧ a.cell? ⟨p, 1, none⟩ = some x1 ∧ a.cell? ⟨p, 2, none⟩ = some x2 ∧ a.cell? ⟨p, 3, none⟩ = some x3 ∧ a.cell? ⟨p, 4, none⟩ = some x4 ∧ a.cell? ⟨p, 5, none⟩ = some x5 ∧ Only [] z a) :
    b.cell? ⟨p, 0, none⟩ = some x0 ∧ b.cell? ⟨p, 1, none⟩ = some x1 ∧ b.cell? ⟨p, 2, none⟩ = some x2 ∧ b.cell? ⟨p, 3, none⟩ = some x3 ∧ b.cell? ⟨p, 4, none⟩ = some x4 ∧ b.cell? ⟨p, 5, none⟩ = some x5 ∧ Only [] z b := by
  obtain ⟨h0, h1, h2, h3, h4, h5, hz⟩ := h
  have hl := World.block_lt_of_cell? _ _ h0
  exact ⟨(ho.cell (p := ⟨p, 0, none⟩) hl (by simp)).trans h0, (ho.cell (p := ⟨p, 1, none⟩) hl (by simp)).trans h1, (ho.cell (p := ⟨p, 2, none⟩) hl (by simp)).trans h2, (ho.cell (p := ⟨p, 3, none⟩) hl (by simp)).trans h3, (ho.cell (p := ⟨p, 4, none⟩) hl (by simp)).trans h4, (ho.cell (p := ⟨p, 5, none⟩) hl (by simp)).trans h5, hz.next ho (by simp)⟩

set_option maxHeartbeats 400000 in
set_option maxRecDepth 100000 in
theorem wrong_any {w : World} {ao : Option Addr} {l : List En} {d cap : Nat} (hE : ES w ao l d) (hl : l.length ≤ 9223372036854775807) (hA : ∀ e ∈ l, e.2.1.length ≤ 9223372036854775807) (j : Nat) (hj : j < l.length) :
    Calls Tryd.prog 33 #[.slice ao l.length cap, .int .i64 (j : Int)] w fun r w' => r = .returned (.int .i64 (wrongE l l[j])) ∧ Only [] w w' := by
  have g2 : ((j : Int) < (l.length : Int)) := by omega
  have ht := hA l[j] (List.getElem_mem hj)
  obtain ⟨off, hao, hc⟩ := hE.at hj
  have HU := fun W => used_any l[j] W
  have hq := neq_entry l[j] (usedE l[j])
  have o0 := (Only.refl [] w).alloc (.cells #[.int .i64 l[j].1, .string (str l[j].2.1), .int .i64 l[j].2.2.1, .int .i64 l[j].2.2.2.1, .int .i64 l[j].2.2.2.2.1, .int .i64 l[j].2.2.2.2.2] 67)
  have E0 := enAt_new w l[j] 67
  have hw : ∃ r, r = wrongE l l[j] := ⟨_, rfl⟩
  obtain ⟨r, hr⟩ := hw
  rw [← hr]
  have HWC := fun W (hW : Only [] w W) (i : Int) => wrongClass_any (cap := cap) (hE.only hW (by simp)) hl i
  have HWN := fun W (hW : Only [] w W) (i : Int) => wrongName_any (cap := cap) (hE.only hW (by simp)) hl hA i
  have HWM := fun W (hW : Only [] w W) (i : Int) => wrongMeth_any (cap := cap) (hE.only hW (by simp)) hl hA i
  have HWT := fun W (hW : Only [] w W) (i : Int) => wrongType_any (cap := cap) (hE.only hW (by simp)) hl hA i
  have HWS := fun W (hW : Only [] w W) (i : Int) => wrongSig_any (cap := cap) (hE.only hW (by simp)) hl hA i
  generalize l[j] = e at *
  generalize hug : usedE e = u at *
  obtain ⟨k, t, n, a, b, c⟩ := e
  obtain ⟨uk, ut, un, ua, ub, uc⟩ := u
  obtain ⟨y0, y1, y2, y3, y4, y5⟩ := hc
  obtain ⟨e0, e1, e2, e3, e4, e5⟩ := E0
  simp only [Nat.zero_add] at e0 e1 e2 e3 e4 e5
  simp only [enV] at *
  replace HU := hid HU
  replace HWC := hid HWC
  replace HWN := hid HWN
  replace HWM := hid HWM
  replace HWT := hid HWT
  replace HWS := hid HWS
  replace hug := hid hug
  replace hE := hid hE
  clear hA
  replace hr := hid hr
  have hb : k < 1 ∨ 6 < k ∨ (1 ≤ k ∧ k ≤ 6) := by omega
  rcases hb with hk | hk | ⟨hk1, hk2⟩
  · have er : r = 3 := by rw [hr.out]; simp [wrongE, hk]
    subst er
    subst hao
    go_enter Tryd.func33, Tryd.ntmps33
    go_wp2
    go_ret
    exact ⟨rfl, o0⟩
  · have er : r = 3 := by rw [hr.out]; simp [wrongE, hk]
    subst er
    subst hao
    have hk' : ¬ (k < 1) := by omega
    go_enter Tryd.func33, Tryd.ntmps33
    go_wp2
    go_ret
    exact ⟨rfl, o0⟩
  have hk' : ¬ (k < 1) := by omega
  have hk6 : ¬ (6 < k) := by omega
  by_cases hne : ((k, t, n, a, b, c) : En) = (uk, ut, un, ua, ub, uc)
  · have hw : r = if k = 1 then longE t else if k = 2 then 0 else if k = 3 then wText l a fName else if k = 4 then wText l a fType else if k = 5 then or3 (wClass l a) (wText l b fName) (wText l c fType) else or3 (wClass l a) (wText l b fMethod) (wText l c fSig) := by
      rw [hr.out]
      unfold wrongE
      rw [hug.out, if_neg (by simp; omega), if_neg (fun h => h hne)]
    rw [decide_eq_true hne] at hq
    simp only [Bool.not_true] at hq
    clear hne hug hr hk' hk6
    subst hao
    replace o0 := hid o0
    replace hw := hid hw
    rcases (by omega : k = 1 ∨ k = 2 ∨ k = 3 ∨ k = 4 ∨ k = 5 ∨ k = 6) with rfl | rfl | rfl | rfl | rfl | rfl
    · go_enter Tryd.func33, Tryd.ntmps33
      go_wp2_with fail
      go_region_held3 (fun w' => w'.cell? ⟨w.heap.size, 0, none⟩ = some (.int .i64 1) ∧ w'.cell? ⟨w.heap.size, 1, none⟩ = some (.string (str t)) ∧ w'.cell? ⟨w.heap.size, 2, none⟩ = some (.int .i64 n) ∧ w'.cell? ⟨w.heap.size, 3, none⟩ = some (.int .i64 a) ∧ w'.cell? ⟨w.heap.size, 4, none⟩ = some (.int .i64 b) ∧ w'.cell? ⟨w.heap.size, 5, none⟩ = some (.int .i64 c) ∧ Only [] w w') (first | exact keep_en (by assumption) (by assumption) | exact keep_en ((Only.refl [] _).alloc _) (by assumption) | exact ⟨e0, e1, e2, e3, e4, e5, o0.out.drew⟩ | exact ⟨e0, e1, e2, e3, e4, e5, o0.out⟩ | assumption) (first | (go_at_call 36; with_reducible refine (HU.out _).mono ?_; rintro e w6 ⟨rfl, ho6⟩))
      rename_i hS
      clear e0 e1 e2 e3 e4 e5
      obtain ⟨e0, e1, e2, e3, e4, e5, o1⟩ := hS
      replace o1 := hid o1
      go_wp2_with (go_at_call 37; refine (tooLong_any t ht _).mono ?_; rintro e w7 ⟨rfl, rfl⟩)
      go_ret
      exact ⟨by rw [hw.out]; rfl, o1.out⟩
    · go_enter Tryd.func33, Tryd.ntmps33
      go_wp2_with fail
      go_region_held3 (fun w' => w'.cell? ⟨w.heap.size, 0, none⟩ = some (.int .i64 2) ∧ w'.cell? ⟨w.heap.size, 1, none⟩ = some (.string (str t)) ∧ w'.cell? ⟨w.heap.size, 2, none⟩ = some (.int .i64 n) ∧ w'.cell? ⟨w.heap.size, 3, none⟩ = some (.int .i64 a) ∧ w'.cell? ⟨w.heap.size, 4, none⟩ = some (.int .i64 b) ∧ w'.cell? ⟨w.heap.size, 5, none⟩ = some (.int .i64 c) ∧ Only [] w w') (first | exact keep_en (by assumption) (by assumption) | exact keep_en ((Only.refl [] _).alloc _) (by assumption) | exact ⟨e0, e1, e2, e3, e4, e5, o0.out.drew⟩ | exact ⟨e0, e1, e2, e3, e4, e5, o0.out⟩ | assumption) (first | (go_at_call 36; with_reducible refine (HU.out _).mono ?_; rintro e w6 ⟨rfl, ho6⟩))
      rename_i hS
      clear e0 e1 e2 e3 e4 e5
      obtain ⟨e0, e1, e2, e3, e4, e5, o1⟩ := hS
      replace o1 := hid o1
      go_wp2
      go_ret
      exact ⟨by rw [hw.out]; rfl, o1.out⟩
    · go_enter Tryd.func33, Tryd.ntmps33
      go_wp2_with fail
      go_region_held3 (fun w' => w'.cell? ⟨w.heap.size, 0, none⟩ = some (.int .i64 3) ∧ w'.cell? ⟨w.heap.size, 1, none⟩ = some (.string (str t)) ∧ w'.cell? ⟨w.heap.size, 2, none⟩ = some (.int .i64 n) ∧ w'.cell? ⟨w.heap.size, 3, none⟩ = some (.int .i64 a) ∧ w'.cell? ⟨w.heap.size, 4, none⟩ = some (.int .i64 b) ∧ w'.cell? ⟨w.heap.size, 5, none⟩ = some (.int .i64 c) ∧ Only [] w w') (first | exact keep_en (by assumption) (by assumption) | exact keep_en ((Only.refl [] _).alloc _) (by assumption) | exact ⟨e0, e1, e2, e3, e4, e5, o0.out.drew⟩ | exact ⟨e0, e1, e2, e3, e4, e5, o0.out⟩ | assumption) (first | (go_at_call 36; with_reducible refine (HU.out _).mono ?_; rintro e w6 ⟨rfl, ho6⟩))
      rename_i hS
      clear e0 e1 e2 e3 e4 e5
      obtain ⟨e0, e1, e2, e3, e4, e5, o1⟩ := hS
      replace o1 := hid o1
      go_wp2_with (go_at_call 38; refine (HWN.out _ o1.out a).mono ?_; rintro e w7 ⟨rfl, rfl⟩)
      go_ret
      exact ⟨by rw [hw.out]; rfl, o1.out⟩
    · go_enter Tryd.func33, Tryd.ntmps33
      go_wp2_with fail
      go_region_held3 (fun w' => w'.cell? ⟨w.heap.size, 0, none⟩ = some (.int .i64 4) ∧ w'.cell? ⟨w.heap.size, 1, none⟩ = some (.string (str t)) ∧ w'.cell? ⟨w.heap.size, 2, none⟩ = some (.int .i64 n) ∧ w'.cell? ⟨w.heap.size, 3, none⟩ = some (.int .i64 a) ∧ w'.cell? ⟨w.heap.size, 4, none⟩ = some (.int .i64 b) ∧ w'.cell? ⟨w.heap.size, 5, none⟩ = some (.int .i64 c) ∧ Only [] w w') (first | exact keep_en (by assumption) (by assumption) | exact keep_en ((Only.refl [] _).alloc _) (by assumption) | exact ⟨e0, e1, e2, e3, e4, e5, o0.out.drew⟩ | exact ⟨e0, e1, e2, e3, e4, e5, o0.out⟩ | assumption) (first | (go_at_call 36; with_reducible refine (HU.out _).mono ?_; rintro e w6 ⟨rfl, ho6⟩))
      rename_i hS
      clear e0 e1 e2 e3 e4 e5
      obtain ⟨e0, e1, e2, e3, e4, e5, o1⟩ := hS
      replace o1 := hid o1
      go_wp2_with (go_at_call 40; refine (HWT.out _ o1.out a).mono ?_; rintro e w7 ⟨rfl, ho7⟩)
      go_ret
      exact ⟨by rw [hw.out]; rfl, o1.out.next ho7 (by simp)⟩
    · go_enter Tryd.func33, Tryd.ntmps33
      go_wp2_with fail
      go_region_held3 (fun w' => w'.cell? ⟨w.heap.size, 0, none⟩ = some (.int .i64 5) ∧ w'.cell? ⟨w.heap.size, 1, none⟩ = some (.string (str t)) ∧ w'.cell? ⟨w.heap.size, 2, none⟩ = some (.int .i64 n) ∧ w'.cell? ⟨w.heap.size, 3, none⟩ = some (.int .i64 a) ∧ w'.cell? ⟨w.heap.size, 4, none⟩ = some (.int .i64 b) ∧ w'.cell? ⟨w.heap.size, 5, none⟩ = some (.int .i64 c) ∧ Only [] w w') (first | exact keep_en (by assumption) (by assumption) | exact keep_en ((Only.refl [] _).alloc _) (by assumption) | exact ⟨e0, e1, e2, e3, e4, e5, o0.out.drew⟩ | exact ⟨e0, e1, e2, e3, e4, e5, o0.out⟩ | assumption) (first | (go_at_call 36; with_reducible refine (HU.out _).mono ?_; rintro e w6 ⟨rfl, ho6⟩))
      rename_i hS
      clear e0 e1 e2 e3 e4 e5
      obtain ⟨e0, e1, e2, e3, e4, e5, o1⟩ := hS
      replace o1 := hid o1
      replace o1 := o1.out
      go_wp2_with fail
      go_region_held3 (fun w' => w'.cell? ⟨w.heap.size, 0, none⟩ = some (.int .i64 5) ∧ w'.cell? ⟨w.heap.size, 1, none⟩ = some (.string (str t)) ∧ w'.cell? ⟨w.heap.size, 2, none⟩ = some (.int .i64 n) ∧ w'.cell? ⟨w.heap.size, 3, none⟩ = some (.int .i64 a) ∧ w'.cell? ⟨w.heap.size, 4, none⟩ = some (.int .i64 b) ∧ w'.cell? ⟨w.heap.size, 5, none⟩ = some (.int .i64 c) ∧ Only [] w w') (first | exact keep_en (by assumption) (by assumption) | exact keep_en ((Only.refl [] _).alloc _) (by assumption) | exact ⟨e0, e1, e2, e3, e4, e5, o1.drew⟩ | exact ⟨e0, e1, e2, e3, e4, e5, o1⟩ | assumption) (first | (go_at_call 42; with_reducible refine (HWC.out _ ?_ a).mono ?_; (simp [*]); rintro e w7 ⟨rfl, rfl⟩) | (go_at_call 38; with_reducible refine (HWN.out _ ?_ b).mono ?_; (simp [*]); rintro e w8 ⟨rfl, rfl⟩) | (go_at_call 40; with_reducible refine (HWT.out _ ?_ c).mono ?_; (simp [*]); rintro e w9 ⟨rfl, ho9⟩) | (go_at_call 41; with_reducible refine (or_any _ _ _ _).mono ?_; rintro e w10 ⟨rfl, rfl⟩))
      rename_i hS
      go_wp2
      go_ret
      exact ⟨by rw [hw.out]; rfl, hS.2.2.2.2.2.2⟩
    · go_enter Tryd.func33, Tryd.ntmps33
      go_wp2_with fail
      go_region_held3 (fun w' => w'.cell? ⟨w.heap.size, 0, none⟩ = some (.int .i64 6) ∧ w'.cell? ⟨w.heap.size, 1, none⟩ = some (.string (str t)) ∧ w'.cell? ⟨w.heap.size, 2, none⟩ = some (.int .i64 n) ∧ w'.cell? ⟨w.heap.size, 3, none⟩ = some (.int .i64 a) ∧ w'.cell? ⟨w.heap.size, 4, none⟩ = some (.int .i64 b) ∧ w'.cell? ⟨w.heap.size, 5, none⟩ = some (.int .i64 c) ∧ Only [] w w') (first | exact keep_en (by assumption) (by assumption) | exact keep_en ((Only.refl [] _).alloc _) (by assumption) | exact ⟨e0, e1, e2, e3, e4, e5, o0.out.drew⟩ | exact ⟨e0, e1, e2, e3, e4, e5, o0.out⟩ | assumption) (first | (go_at_call 36; with_reducible refine (HU.out _).mono ?_; rintro e w6 ⟨rfl, ho6⟩))
      rename_i hS
      clear e0 e1 e2 e3 e4 e5
      obtain ⟨e0, e1, e2, e3, e4, e5, o1⟩ := hS
      replace o1 := hid o1
      replace o1 := o1.out
      go_wp2_with fail
      go_region_held3 (fun w' => w'.cell? ⟨w.heap.size, 0, none⟩ = some (.int .i64 6) ∧ w'.cell? ⟨w.heap.size, 1, none⟩ = some (.string (str t)) ∧ w'.cell? ⟨w.heap.size, 2, none⟩ = some (.int .i64 n) ∧ w'.cell? ⟨w.heap.size, 3, none⟩ = some (.int .i64 a) ∧ w'.cell? ⟨w.heap.size, 4, none⟩ = some (.int .i64 b) ∧ w'.cell? ⟨w.heap.size, 5, none⟩ = some (.int .i64 c) ∧ Only [] w w') (first | exact keep_en (by assumption) (by assumption) | exact keep_en ((Only.refl [] _).alloc _) (by assumption) | exact ⟨e0, e1, e2, e3, e4, e5, o1.drew⟩ | exact ⟨e0, e1, e2, e3, e4, e5, o1⟩ | assumption) (first | (go_at_call 42; with_reducible refine (HWC.out _ ?_ a).mono ?_; (simp [*]); rintro e w7 ⟨rfl, rfl⟩) | (go_at_call 38; with_reducible refine (HWM.out _ ?_ b).mono ?_; (simp [*]); rintro e w8 ⟨rfl, rfl⟩) | (go_at_call 44; with_reducible refine (HWS.out _ ?_ c).mono ?_; (simp [*]); rintro e w9 ⟨rfl, ho9⟩) | (go_at_call 41; with_reducible refine (or_any _ _ _ _).mono ?_; rintro e w10 ⟨rfl, rfl⟩))
      rename_i hS
      go_wp2
      go_ret
      exact ⟨by rw [hw.out]; rfl, hS.2.2.2.2.2.2⟩
  · have er : r = 1 := by
      rw [hr.out]
      unfold wrongE
      rw [hug.out, if_neg (by simp; omega), if_pos hne]
    subst er
    subst hao
    simp only [hne, decide_false, Bool.not_false] at hq
    clear hne hk1 hk2
    replace o0 := hid o0
    go_enter Tryd.func33, Tryd.ntmps33
    go_wp2_with fail
    go_region_held3 (fun w' => w'.cell? ⟨w.heap.size, 0, none⟩ = some (.int .i64 k) ∧ w'.cell? ⟨w.heap.size, 1, none⟩ = some (.string (str t)) ∧ w'.cell? ⟨w.heap.size, 2, none⟩ = some (.int .i64 n) ∧ w'.cell? ⟨w.heap.size, 3, none⟩ = some (.int .i64 a) ∧ w'.cell? ⟨w.heap.size, 4, none⟩ = some (.int .i64 b) ∧ w'.cell? ⟨w.heap.size, 5, none⟩ = some (.int .i64 c) ∧ Only [] w w') (first | exact keep_en (by assumption) (by assumption) | exact ⟨e0, e1, e2, e3, e4, e5, o0.out.drew⟩ | exact ⟨e0, e1, e2, e3, e4, e5, o0.out⟩ | assumption) (first | (go_at_call 36; with_reducible refine (HU.out _).mono ?_; rintro e w6 ⟨rfl, ho6⟩))
    go_wp2
    go_ret
    rename_i hS
    exact ⟨rfl, hS.2.2.2.2.2.2⟩

end Go.Proofs.YtemjhlhioeopnabDoor
