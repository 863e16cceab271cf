/-
  What the proof leans on, part 23 of 28. The conditions stand in each theorem.
-/
import Derived.Test.YtildemmkhndhjaaGreatDoorB22
import Derived.Deep.RegionHeld3
import Derived.Test.YtildemmkhndhjaaGreatDoorB04
import Derived.Test.YtildemmkhndhjaaGreatDoorB05
import Derived.Test.YtildemmkhndhjaaGreatDoorB09
namespace Go.Proofs.YtildemmkhndhjaaGreatDoor
open Go.RowKit

theorem out_bind {α β : Type} {p : Pr α} {f : α → Pr β} {t t1 t2 : St} {x : α} {y : β} (h1 : Out p t x t1) (h2 : Out (f x) t1 y t2) : Out (pBind p f) t y t2 := by
 unfold Out at h1 h2 ⊢
 cases t with
 | inl g =>
  simp only at h1
  subst h1
  exact h2
 | inr u =>
  simp only [pBind] at h1 ⊢
  cases hp : p u with
  | inl g =>
   simp only [hp] at h1 ⊢
   subst h1
   exact h2
  | inr z =>
   obtain ⟨x', u'⟩ := z
   simp only [hp] at h1 ⊢
   obtain ⟨rfl, rfl⟩ := h1
   exact h2

theorem out_done {α : Type} (x : α) (t : St) : Out (pDone x) t x t := by
 unfold Out pDone
 cases t with
 | inl g => rfl
 | inr u => exact ⟨rfl, rfl⟩

/-- What is written into a block in which something else than a number lies is not what was wrong. -/
theorem Sc.other {w w' : World} {sb r d rv : Nat} {t : St} (h : Sc w sb r d t) {u : Value} (hu : ∀ x, u ≠ .int .i64 x) (hc : (w.cell? ⟨rv, 0, none⟩ = some u) ∨ (w.cell? ⟨rv, 1, none⟩ = some u) ∨ (w.cell? ⟨rv, 3, none⟩ = some u)) (hne : rv ≠ sb ∧ rv ≠ r ∧ rv ≠ d) (ho : Only [rv] w w') : Sc w' sb r d t := by
 have h1 : sb ∉ [rv] := by simp; omega
 have h2 : r ∉ [rv] := by simp; omega
 have h3 : d ∉ [rv] := by simp; omega
 cases h with
 | fine h => exact .fine (h.only ho h1 h2 h3)
 | cut he h => exact .cut he (h.only ho h1 h2 h3)
 | bad he h hq hn =>
  refine .bad he (h.only ho h1 h2 h3) (hq.only ho (fun hm => ?_)) hn
  simp at hm
  subst hm
  rcases hc with hc | hc | hc
  ·rw [hq.c0] at hc
   exact hu _ (Option.some.inj hc).symm
  ·rw [hq.c1] at hc
   exact hu _ (Option.some.inj hc).symm
  ·rw [hq.c3] at hc
   exact hu _ (Option.some.inj hc).symm

theorem sc_textO {w : World} {sb r d : Nat} {t : St} (h : Sc w sb r d t) :
  Calls Tryz.prog 138 #[.pointer (some ⟨r, 0, none⟩)] w fun e w' => ∃ (x : List UInt8) (t' : St), e = .returned (.string (str x)) ∧ x.length ≤ 262144 ∧ Sc w' sb r d t' ∧ Out pText t x t' ∧ Only [sb, r] w w' :=
 (sc_text h).mono fun _ _ h => by
  obtain ⟨x, t', h1, h2, h3, h4, h5⟩ := h
  exact ⟨x, t', h1, h2, h3, h4, h5.mono (by simp)⟩

/-- Whatever lies in a cell. -/
def Gv (rv : Nat) (gv : Nat → World → Value) : Prop := ∀ i w, gv i w = (w.cell? ⟨rv, i, none⟩).getD undef

theorem gv_ex (rv : Nat) : ∃ gv, Gv rv gv := ⟨fun i w => (w.cell? ⟨rv, i, none⟩).getD undef, fun _ _ => rfl⟩

theorem Gv.of {rv : Nat} {gv : Nat → World → Value} (h : Gv rv gv) {w : World} {i : Nat} {v : Value} (hc : w.cell? ⟨rv, i, none⟩ = some v) : w.cell? ⟨rv, i, none⟩ = some (gv i w) := by
 rw [h i w, hc]
 rfl

theorem Gv.set {rv : Nat} {gv : Nat → World → Value} (h : Gv rv gv) {w : World} {i j : Nat} {u v : Value} (hc : w.cell? ⟨rv, i, none⟩ = some v) : (w.setCell ⟨rv, j, none⟩ u).cell? ⟨rv, i, none⟩ = some (gv i (w.setCell ⟨rv, j, none⟩ u)) := by
 by_cases e : j = i
 ·subst e
  exact h.of (cell_setCell_same _ _ hc)
 ·exact h.of ((cell_setCell_ne _ _ (by simp)).trans hc)

theorem kcall4 {w z z' : World} {sb r d rv : Nat} {t : St} {gv : Nat → World → Value} {X : List Nat} (hg : Gv rv gv) (hr : rv ≠ sb ∧ rv ≠ r) (h : z.cell? ⟨sb, 0, none⟩ = some (.pointer (some ⟨r, 0, none⟩)) ∧ Only [sb, r] w z ∧ z.cell? ⟨rv, 0, none⟩ = some (gv 0 z) ∧ z.cell? ⟨rv, 1, none⟩ = some (gv 1 z) ∧ z.cell? ⟨rv, 2, none⟩ = some (gv 2 z) ∧ z.cell? ⟨rv, 3, none⟩ = some (gv 3 z) ∧ z.frozen? ⟨rv, 0, none⟩ = false ∧ z.frozen? ⟨rv, 1, none⟩ = false ∧ z.frozen? ⟨rv, 2, none⟩ = false ∧ z.frozen? ⟨rv, 3, none⟩ = false) (hs : Sc z' sb r d t) (hX : Only X z z') (hx : ∀ x ∈ X, x = sb ∨ x = r) : z'.cell? ⟨sb, 0, none⟩ = some (.pointer (some ⟨r, 0, none⟩)) ∧ Only [sb, r] w z' ∧ z'.cell? ⟨rv, 0, none⟩ = some (gv 0 z') ∧ z'.cell? ⟨rv, 1, none⟩ = some (gv 1 z') ∧ z'.cell? ⟨rv, 2, none⟩ = some (gv 2 z') ∧ z'.cell? ⟨rv, 3, none⟩ = some (gv 3 z') ∧ z'.frozen? ⟨rv, 0, none⟩ = false ∧ z'.frozen? ⟨rv, 1, none⟩ = false ∧ z'.frozen? ⟨rv, 2, none⟩ = false ∧ z'.frozen? ⟨rv, 3, none⟩ = false := by
 obtain ⟨hc, ho, c0, c1, c2, c3, f0, f1, f2, f3⟩ := h
 have hl := World.block_lt_of_cell? z _ c0
 have hm : rv ∉ X := fun hm => by rcases hx rv hm with h | h <;> omega
 exact ⟨hs.c0, ho.trans hX (fun x hm => by rcases hx x hm with h | h <;> simp [h]), hg.of ((hX.cell (p := ⟨rv, 0, none⟩) hl hm).trans c0), hg.of ((hX.cell (p := ⟨rv, 1, none⟩) hl hm).trans c1), hg.of ((hX.cell (p := ⟨rv, 2, none⟩) hl hm).trans c2), hg.of ((hX.cell (p := ⟨rv, 3, none⟩) hl hm).trans c3), (hX.frozen (p := ⟨rv, 0, none⟩) hl hm).trans f0, (hX.frozen (p := ⟨rv, 1, none⟩) hl hm).trans f1, (hX.frozen (p := ⟨rv, 2, none⟩) hl hm).trans f2, (hX.frozen (p := ⟨rv, 3, none⟩) hl hm).trans f3⟩

theorem kset4 {w z : World} {sb r rv : Nat} {gv : Nat → World → Value} (hg : Gv rv gv) (hr : rv ≠ sb ∧ rv ≠ r) (hw : w.heap.size ≤ rv) (j : Nat) (u : Value) (h : z.cell? ⟨sb, 0, none⟩ = some (.pointer (some ⟨r, 0, none⟩)) ∧ Only [sb, r] w z ∧ z.cell? ⟨rv, 0, none⟩ = some (gv 0 z) ∧ z.cell? ⟨rv, 1, none⟩ = some (gv 1 z) ∧ z.cell? ⟨rv, 2, none⟩ = some (gv 2 z) ∧ z.cell? ⟨rv, 3, none⟩ = some (gv 3 z) ∧ z.frozen? ⟨rv, 0, none⟩ = false ∧ z.frozen? ⟨rv, 1, none⟩ = false ∧ z.frozen? ⟨rv, 2, none⟩ = false ∧ z.frozen? ⟨rv, 3, none⟩ = false) : (z.setCell ⟨rv, j, none⟩ u).cell? ⟨sb, 0, none⟩ = some (.pointer (some ⟨r, 0, none⟩)) ∧ Only [sb, r] w (z.setCell ⟨rv, j, none⟩ u) ∧ (z.setCell ⟨rv, j, none⟩ u).cell? ⟨rv, 0, none⟩ = some (gv 0 (z.setCell ⟨rv, j, none⟩ u)) ∧ (z.setCell ⟨rv, j, none⟩ u).cell? ⟨rv, 1, none⟩ = some (gv 1 (z.setCell ⟨rv, j, none⟩ u)) ∧ (z.setCell ⟨rv, j, none⟩ u).cell? ⟨rv, 2, none⟩ = some (gv 2 (z.setCell ⟨rv, j, none⟩ u)) ∧ (z.setCell ⟨rv, j, none⟩ u).cell? ⟨rv, 3, none⟩ = some (gv 3 (z.setCell ⟨rv, j, none⟩ u)) ∧ (z.setCell ⟨rv, j, none⟩ u).frozen? ⟨rv, 0, none⟩ = false ∧ (z.setCell ⟨rv, j, none⟩ u).frozen? ⟨rv, 1, none⟩ = false ∧ (z.setCell ⟨rv, j, none⟩ u).frozen? ⟨rv, 2, none⟩ = false ∧ (z.setCell ⟨rv, j, none⟩ u).frozen? ⟨rv, 3, none⟩ = false := by
 obtain ⟨hc, ho, c0, c1, c2, c3, f0, f1, f2, f3⟩ := h
 exact ⟨(cell_setCell_ne _ _ (by simp)).trans hc, ho.setCell (.inr hw) _, hg.set c0, hg.set c1, hg.set c2, hg.set c3, (frozen_setCell _ _ _ _).trans f0, (frozen_setCell _ _ _ _).trans f1, (frozen_setCell _ _ _ _).trans f2, (frozen_setCell _ _ _ _).trans f3⟩

theorem knew4 {w z : World} {sb r rv : Nat} {gv : Nat → World → Value} (hg : Gv rv gv) (hc : z.cell? ⟨sb, 0, none⟩ = some (.pointer (some ⟨r, 0, none⟩))) (ho : Only [sb, r] w z) {v0 : Value} (c0 : z.cell? ⟨rv, 0, none⟩ = some v0) {v1 : Value} (c1 : z.cell? ⟨rv, 1, none⟩ = some v1) {v2 : Value} (c2 : z.cell? ⟨rv, 2, none⟩ = some v2) {v3 : Value} (c3 : z.cell? ⟨rv, 3, none⟩ = some v3) (f0 : z.frozen? ⟨rv, 0, none⟩ = false) (f1 : z.frozen? ⟨rv, 1, none⟩ = false) (f2 : z.frozen? ⟨rv, 2, none⟩ = false) (f3 : z.frozen? ⟨rv, 3, none⟩ = false) : z.cell? ⟨sb, 0, none⟩ = some (.pointer (some ⟨r, 0, none⟩)) ∧ Only [sb, r] w z ∧ z.cell? ⟨rv, 0, none⟩ = some (gv 0 z) ∧ z.cell? ⟨rv, 1, none⟩ = some (gv 1 z) ∧ z.cell? ⟨rv, 2, none⟩ = some (gv 2 z) ∧ z.cell? ⟨rv, 3, none⟩ = some (gv 3 z) ∧ z.frozen? ⟨rv, 0, none⟩ = false ∧ z.frozen? ⟨rv, 1, none⟩ = false ∧ z.frozen? ⟨rv, 2, none⟩ = false ∧ z.frozen? ⟨rv, 3, none⟩ = false := ⟨hc, ho, hg.of c0, hg.of c1, hg.of c2, hg.of c3, f0, f1, f2, f3⟩

theorem kdrew4 {w z : World} {sb r rv : Nat} {gv : Nat → World → Value} (hg : Gv rv gv) (h : z.cell? ⟨sb, 0, none⟩ = some (.pointer (some ⟨r, 0, none⟩)) ∧ Only [sb, r] w z ∧ z.cell? ⟨rv, 0, none⟩ = some (gv 0 z) ∧ z.cell? ⟨rv, 1, none⟩ = some (gv 1 z) ∧ z.cell? ⟨rv, 2, none⟩ = some (gv 2 z) ∧ z.cell? ⟨rv, 3, none⟩ = some (gv 3 z) ∧ z.frozen? ⟨rv, 0, none⟩ = false ∧ z.frozen? ⟨rv, 1, none⟩ = false ∧ z.frozen? ⟨rv, 2, none⟩ = false ∧ z.frozen? ⟨rv, 3, none⟩ = false) : z.drew.cell? ⟨sb, 0, none⟩ = some (.pointer (some ⟨r, 0, none⟩)) ∧ Only [sb, r] w z.drew ∧ z.drew.cell? ⟨rv, 0, none⟩ = some (gv 0 z.drew) ∧ z.drew.cell? ⟨rv, 1, none⟩ = some (gv 1 z.drew) ∧ z.drew.cell? ⟨rv, 2, none⟩ = some (gv 2 z.drew) ∧ z.drew.cell? ⟨rv, 3, none⟩ = some (gv 3 z.drew) ∧ z.drew.frozen? ⟨rv, 0, none⟩ = false ∧ z.drew.frozen? ⟨rv, 1, none⟩ = false ∧ z.drew.frozen? ⟨rv, 2, none⟩ = false ∧ z.drew.frozen? ⟨rv, 3, none⟩ = false := by
 obtain ⟨hc, ho, c0, c1, c2, c3, f0, f1, f2, f3⟩ := h
 exact ⟨hc, ho.drew, hg.of (w := z.drew) c0, hg.of (w := z.drew) c1, hg.of (w := z.drew) c2, hg.of (w := z.drew) c3, f0, f1, f2, f3⟩

theorem kcall6 {w z z' : World} {sb r d rv : Nat} {t : St} {gv : Nat → World → Value} {X : List Nat} (hg : Gv rv gv) (hr : rv ≠ sb ∧ rv ≠ r) (h : z.cell? ⟨sb, 0, none⟩ = some (.pointer (some ⟨r, 0, none⟩)) ∧ Only [sb, r] w z ∧ z.cell? ⟨rv, 0, none⟩ = some (gv 0 z) ∧ z.cell? ⟨rv, 1, none⟩ = some (gv 1 z) ∧ z.cell? ⟨rv, 2, none⟩ = some (gv 2 z) ∧ z.cell? ⟨rv, 3, none⟩ = some (gv 3 z) ∧ z.cell? ⟨rv, 4, none⟩ = some (gv 4 z) ∧ z.cell? ⟨rv, 5, none⟩ = some (gv 5 z) ∧ z.frozen? ⟨rv, 0, none⟩ = false ∧ z.frozen? ⟨rv, 1, none⟩ = false ∧ z.frozen? ⟨rv, 2, none⟩ = false ∧ z.frozen? ⟨rv, 3, none⟩ = false ∧ z.frozen? ⟨rv, 4, none⟩ = false ∧ z.frozen? ⟨rv, 5, none⟩ = false) (hs : Sc z' sb r d t) (hX : Only X z z') (hx : ∀ x ∈ X, x = sb ∨ x = r) : z'.cell? ⟨sb, 0, none⟩ = some (.pointer (some ⟨r, 0, none⟩)) ∧ Only [sb, r] w z' ∧ z'.cell? ⟨rv, 0, none⟩ = some (gv 0 z') ∧ z'.cell? ⟨rv, 1, none⟩ = some (gv 1 z') ∧ z'.cell? ⟨rv, 2, none⟩ = some (gv 2 z') ∧ z'.cell? ⟨rv, 3, none⟩ = some (gv 3 z') ∧ z'.cell? ⟨rv, 4, none⟩ = some (gv 4 z') ∧ z'.cell? ⟨rv, 5, none⟩ = some (gv 5 z') ∧ z'.frozen? ⟨rv, 0, none⟩ = false ∧ z'.frozen? ⟨rv, 1, none⟩ = false ∧ z'.frozen? ⟨rv, 2, none⟩ = false ∧ z'.frozen? ⟨rv, 3, none⟩ = false ∧ z'.frozen? ⟨rv, 4, none⟩ = false ∧ z'.frozen? ⟨rv, 5, none⟩ = false := by
 obtain ⟨hc, ho, c0, c1, c2, c3, c4, c5, f0, f1, f2, f3, f4, f5⟩ := h
 have hl := World.block_lt_of_cell? z _ c0
 have hm : rv ∉ X := fun hm => by rcases hx rv hm with h | h <;> omega
 exact ⟨hs.c0, ho.trans hX (fun x hm => by rcases hx x hm with h | h <;> simp [h]), hg.of ((hX.cell (p := ⟨rv, 0, none⟩) hl hm).trans c0), hg.of ((hX.cell (p := ⟨rv, 1, none⟩) hl hm).trans c1), hg.of ((hX.cell (p := ⟨rv, 2, none⟩) hl hm).trans c2), hg.of ((hX.cell (p := ⟨rv, 3, none⟩) hl hm).trans c3), hg.of ((hX.cell (p := ⟨rv, 4, none⟩) hl hm).trans c4), hg.of ((hX.cell (p := ⟨rv, 5, none⟩) hl hm).trans c5), (hX.frozen (p := ⟨rv, 0, none⟩) hl hm).trans f0, (hX.frozen (p := ⟨rv, 1, none⟩) hl hm).trans f1, (hX.frozen (p := ⟨rv, 2, none⟩) hl hm).trans f2, (hX.frozen (p := ⟨rv, 3, none⟩) hl hm).trans f3, (hX.frozen (p := ⟨rv, 4, none⟩) hl hm).trans f4, (hX.frozen (p := ⟨rv, 5, none⟩) hl hm).trans f5⟩

theorem kset6 {w z : World} {sb r rv : Nat} {gv : Nat → World → Value} (hg : Gv rv gv) (hr : rv ≠ sb ∧ rv ≠ r) (hw : w.heap.size ≤ rv) (j : Nat) (u : Value) (h : z.cell? ⟨sb, 0, none⟩ = some (.pointer (some ⟨r, 0, none⟩)) ∧ Only [sb, r] w z ∧ z.cell? ⟨rv, 0, none⟩ = some (gv 0 z) ∧ z.cell? ⟨rv, 1, none⟩ = some (gv 1 z) ∧ z.cell? ⟨rv, 2, none⟩ = some (gv 2 z) ∧ z.cell? ⟨rv, 3, none⟩ = some (gv 3 z) ∧ z.cell? ⟨rv, 4, none⟩ = some (gv 4 z) ∧ z.cell? ⟨rv, 5, none⟩ = some (gv 5 z) ∧ z.frozen? ⟨rv, 0, none⟩ = false ∧ z.frozen? ⟨rv, 1, none⟩ = false ∧ z.frozen? ⟨rv, 2, none⟩ = false ∧ z.frozen? ⟨rv, 3, none⟩ = false ∧ z.frozen? ⟨rv, 4, none⟩ = false ∧ z.frozen? ⟨rv, 5, none⟩ = false) : (z.setCell ⟨rv, j, none⟩ u).cell? ⟨sb, 0, none⟩ = some (.pointer (some ⟨r, 0, none⟩)) ∧ Only [sb, r] w (z.setCell ⟨rv, j, none⟩ u) ∧ (z.setCell ⟨rv, j, none⟩ u).cell? ⟨rv, 0, none⟩ = some (gv 0 (z.setCell ⟨rv, j, none⟩ u)) ∧ (z.setCell ⟨rv, j, none⟩ u).cell? ⟨rv, 1, none⟩ = some (gv 1 (z.setCell ⟨rv, j, none⟩ u)) ∧ (z.setCell ⟨rv, j, none⟩ u).cell? ⟨rv, 2, none⟩ = some (gv 2 (z.setCell ⟨rv, j, none⟩ u)) ∧ (z.setCell ⟨rv, j, none⟩ u).cell? ⟨rv, 3, none⟩ = some (gv 3 (z.setCell ⟨rv, j, none⟩ u)) ∧ (z.setCell ⟨rv, j, none⟩ u).cell? ⟨rv, 4, none⟩ = some (gv 4 (z.setCell ⟨rv, j, none⟩ u)) ∧ (z.setCell ⟨rv, j, none⟩ u).cell? ⟨rv, 5, none⟩ = some (gv 5 (z.setCell ⟨rv, j, none⟩ u)) ∧ (z.setCell ⟨rv, j, none⟩ u).frozen? ⟨rv, 0, none⟩ = false ∧ (z.setCell ⟨rv, j, none⟩ u).frozen? ⟨rv, 1, none⟩ = false ∧ (z.setCell ⟨rv, j, none⟩ u).frozen? ⟨rv, 2, none⟩ = false ∧ (z.setCell ⟨rv, j, none⟩ u).frozen? ⟨rv, 3, none⟩ = false ∧ (z.setCell ⟨rv, j, none⟩ u).frozen? ⟨rv, 4, none⟩ = false ∧ (z.setCell ⟨rv, j, none⟩ u).frozen? ⟨rv, 5, none⟩ = false := by
 obtain ⟨hc, ho, c0, c1, c2, c3, c4, c5, f0, f1, f2, f3, f4, f5⟩ := h
 exact ⟨(cell_setCell_ne _ _ (by simp)).trans hc, ho.setCell (.inr hw) _, hg.set c0, hg.set c1, hg.set c2, hg.set c3, hg.set c4, hg.set c5, (frozen_setCell _ _ _ _).trans f0, (frozen_setCell _ _ _ _).trans f1, (frozen_setCell _ _ _ _).trans f2, (frozen_setCell _ _ _ _).trans f3, (frozen_setCell _ _ _ _).trans f4, (frozen_setCell _ _ _ _).trans f5⟩

theorem knew6 {w z : World} {sb r rv : Nat} {gv : Nat → World → Value} (hg : Gv rv gv) (hc : z.cell? ⟨sb, 0, none⟩ = some (.pointer (some ⟨r, 0, none⟩))) (ho : Only [sb, r] w z) {v0 : Value} (c0 : z.cell? ⟨rv, 0, none⟩ = some v0) {v1 : Value} (c1 : z.cell? ⟨rv, 1, none⟩ = some v1) {v2 : Value} (c2 : z.cell? ⟨rv, 2, none⟩ = some v2) {v3 : Value} (c3 : z.cell? ⟨rv, 3, none⟩ = some v3) {v4 : Value} (c4 : z.cell? ⟨rv, 4, none⟩ = some v4) {v5 : Value} (c5 : z.cell? ⟨rv, 5, none⟩ = some v5) (f0 : z.frozen? ⟨rv, 0, none⟩ = false) (f1 : z.frozen? ⟨rv, 1, none⟩ = false) (f2 : z.frozen? ⟨rv, 2, none⟩ = false) (f3 : z.frozen? ⟨rv, 3, none⟩ = false) (f4 : z.frozen? ⟨rv, 4, none⟩ = false) (f5 : z.frozen? ⟨rv, 5, none⟩ = false) : z.cell? ⟨sb, 0, none⟩ = some (.pointer (some ⟨r, 0, none⟩)) ∧ Only [sb, r] w z ∧ z.cell? ⟨rv, 0, none⟩ = some (gv 0 z) ∧ z.cell? ⟨rv, 1, none⟩ = some (gv 1 z) ∧ z.cell? ⟨rv, 2, none⟩ = some (gv 2 z) ∧ z.cell? ⟨rv, 3, none⟩ = some (gv 3 z) ∧ z.cell? ⟨rv, 4, none⟩ = some (gv 4 z) ∧ z.cell? ⟨rv, 5, none⟩ = some (gv 5 z) ∧ z.frozen? ⟨rv, 0, none⟩ = false ∧ z.frozen? ⟨rv, 1, none⟩ = false ∧ z.frozen? ⟨rv, 2, none⟩ = false ∧ z.frozen? ⟨rv, 3, none⟩ = false ∧ z.frozen? ⟨rv, 4, none⟩ = false ∧ z.frozen? ⟨rv, 5, none⟩ = false := ⟨hc, ho, hg.of c0, hg.of c1, hg.of c2, hg.of c3, hg.of c4, hg.of c5, f0, f1, f2, f3, f4, f5⟩

theorem kdrew6 {w z : World} {sb r rv : Nat} {gv : Nat → World → Value} (hg : Gv rv gv) (h : z.cell? ⟨sb, 0, none⟩ = some (.pointer (some ⟨r, 0, none⟩)) ∧ Only [sb, r] w z ∧ z.cell? ⟨rv, 0, none⟩ = some (gv 0 z) ∧ z.cell? ⟨rv, 1, none⟩ = some (gv 1 z) ∧ z.cell? ⟨rv, 2, none⟩ = some (gv 2 z) ∧ z.cell? ⟨rv, 3, none⟩ = some (gv 3 z) ∧ z.cell? ⟨rv, 4, none⟩ = some (gv 4 z) ∧ z.cell? ⟨rv, 5, none⟩ = some (gv 5 z) ∧ z.frozen? ⟨rv, 0, none⟩ = false ∧ z.frozen? ⟨rv, 1, none⟩ = false ∧ z.frozen? ⟨rv, 2, none⟩ = false ∧ z.frozen? ⟨rv, 3, none⟩ = false ∧ z.frozen? ⟨rv, 4, none⟩ = false ∧ z.frozen? ⟨rv, 5, none⟩ = false) : z.drew.cell? ⟨sb, 0, none⟩ = some (.pointer (some ⟨r, 0, none⟩)) ∧ Only [sb, r] w z.drew ∧ z.drew.cell? ⟨rv, 0, none⟩ = some (gv 0 z.drew) ∧ z.drew.cell? ⟨rv, 1, none⟩ = some (gv 1 z.drew) ∧ z.drew.cell? ⟨rv, 2, none⟩ = some (gv 2 z.drew) ∧ z.drew.cell? ⟨rv, 3, none⟩ = some (gv 3 z.drew) ∧ z.drew.cell? ⟨rv, 4, none⟩ = some (gv 4 z.drew) ∧ z.drew.cell? ⟨rv, 5, none⟩ = some (gv 5 z.drew) ∧ z.drew.frozen? ⟨rv, 0, none⟩ = false ∧ z.drew.frozen? ⟨rv, 1, none⟩ = false ∧ z.drew.frozen? ⟨rv, 2, none⟩ = false ∧ z.drew.frozen? ⟨rv, 3, none⟩ = false ∧ z.drew.frozen? ⟨rv, 4, none⟩ = false ∧ z.drew.frozen? ⟨rv, 5, none⟩ = false := by
 obtain ⟨hc, ho, c0, c1, c2, c3, c4, c5, f0, f1, f2, f3, f4, f5⟩ := h
 exact ⟨hc, ho.drew, hg.of (w := z.drew) c0, hg.of (w := z.drew) c1, hg.of (w := z.drew) c2, hg.of (w := z.drew) c3, hg.of (w := z.drew) c4, hg.of (w := z.drew) c5, f0, f1, f2, f3, f4, f5⟩

theorem kcall10 {w z z' : World} {sb r d rv : Nat} {t : St} {gv : Nat → World → Value} {X : List Nat} (hg : Gv rv gv) (hr : rv ≠ sb ∧ rv ≠ r) (h : z.cell? ⟨sb, 0, none⟩ = some (.pointer (some ⟨r, 0, none⟩)) ∧ Only [sb, r] w z ∧ z.cell? ⟨rv, 0, none⟩ = some (gv 0 z) ∧ z.cell? ⟨rv, 1, none⟩ = some (gv 1 z) ∧ z.cell? ⟨rv, 2, none⟩ = some (gv 2 z) ∧ z.cell? ⟨rv, 3, none⟩ = some (gv 3 z) ∧ z.cell? ⟨rv, 4, none⟩ = some (gv 4 z) ∧ z.cell? ⟨rv, 5, none⟩ = some (gv 5 z) ∧ z.cell? ⟨rv, 6, none⟩ = some (gv 6 z) ∧ z.cell? ⟨rv, 7, none⟩ = some (gv 7 z) ∧ z.cell? ⟨rv, 8, none⟩ = some (gv 8 z) ∧ z.cell? ⟨rv, 9, none⟩ = some (gv 9 z) ∧ z.frozen? ⟨rv, 0, none⟩ = false ∧ z.frozen? ⟨rv, 1, none⟩ = false ∧ z.frozen? ⟨rv, 2, none⟩ = false ∧ z.frozen? ⟨rv, 3, none⟩ = false ∧ z.frozen? ⟨rv, 4, none⟩ = false ∧ z.frozen? ⟨rv, 5, none⟩ = false ∧ z.frozen? ⟨rv, 6, none⟩ = false ∧ z.frozen? ⟨rv, 7, none⟩ = false ∧ z.frozen? ⟨rv, 8, none⟩ = false ∧ z.frozen? ⟨rv, 9, none⟩ = false) (hs : Sc z' sb r d t) (hX : Only X z z') (hx : ∀ x ∈ X, x = sb ∨ x = r) : z'.cell? ⟨sb, 0, none⟩ = some (.pointer (some ⟨r, 0, none⟩)) ∧ Only [sb, r] w z' ∧ z'.cell? ⟨rv, 0, none⟩ = some (gv 0 z') ∧ z'.cell? ⟨rv, 1, none⟩ = some (gv 1 z') ∧ z'.cell? ⟨rv, 2, none⟩ = some (gv 2 z') ∧ z'.cell? ⟨rv, 3, none⟩ = some (gv 3 z') ∧ z'.cell? ⟨rv, 4, none⟩ = some (gv 4 z') ∧ z'.cell? ⟨rv, 5, none⟩ = some (gv 5 z') ∧ z'.cell? ⟨rv, 6, none⟩ = some (gv 6 z') ∧ z'.cell? ⟨rv, 7, none⟩ = some (gv 7 z') ∧ z'.cell? ⟨rv, 8, none⟩ = some (gv 8 z') ∧ z'.cell? ⟨rv, 9, none⟩ = some (gv 9 z') ∧ z'.frozen? ⟨rv, 0, none⟩ = false ∧ z'.frozen? ⟨rv, 1, none⟩ = false ∧ z'.frozen? ⟨rv, 2, none⟩ = false ∧ z'.frozen? ⟨rv, 3, none⟩ = false ∧ z'.frozen? ⟨rv, 4, none⟩ = false ∧ z'.frozen? ⟨rv, 5, none⟩ = false ∧ z'.frozen? ⟨rv, 6, none⟩ = false ∧ z'.frozen? ⟨rv, 7, none⟩ = false ∧ z'.frozen? ⟨rv, 8, none⟩ = false ∧ z'.frozen? ⟨rv, 9, none⟩ = false := by
 obtain ⟨hc, ho, c0, c1, c2, c3, c4, c5, c6, c7, c8, c9, f0, f1, f2, f3, f4, f5, f6, f7, f8, f9⟩ := h
 have hl := World.block_lt_of_cell? z _ c0
 have hm : rv ∉ X := fun hm => by rcases hx rv hm with h | h <;> omega
 exact ⟨hs.c0, ho.trans hX (fun x hm => by rcases hx x hm with h | h <;> simp [h]), hg.of ((hX.cell (p := ⟨rv, 0, none⟩) hl hm).trans c0), hg.of ((hX.cell (p := ⟨rv, 1, none⟩) hl hm).trans c1), hg.of ((hX.cell (p := ⟨rv, 2, none⟩) hl hm).trans c2), hg.of ((hX.cell (p := ⟨rv, 3, none⟩) hl hm).trans c3), hg.of ((hX.cell (p := ⟨rv, 4, none⟩) hl hm).trans c4), hg.of ((hX.cell (p := ⟨rv, 5, none⟩) hl hm).trans c5), hg.of ((hX.cell (p := ⟨rv, 6, none⟩) hl hm).trans c6), hg.of ((hX.cell (p := ⟨rv, 7, none⟩) hl hm).trans c7), hg.of ((hX.cell (p := ⟨rv, 8, none⟩) hl hm).trans c8), hg.of ((hX.cell (p := ⟨rv, 9, none⟩) hl hm).trans c9), (hX.frozen (p := ⟨rv, 0, none⟩) hl hm).trans f0, (hX.frozen (p := ⟨rv, 1, none⟩) hl hm).trans f1, (hX.frozen (p := ⟨rv, 2, none⟩) hl hm).trans f2, (hX.frozen (p := ⟨rv, 3, none⟩) hl hm).trans f3, (hX.frozen (p := ⟨rv, 4, none⟩) hl hm).trans f4, (hX.frozen (p := ⟨rv, 5, none⟩) hl hm).trans f5, (hX.frozen (p := ⟨rv, 6, none⟩) hl hm).trans f6, (hX.frozen (p := ⟨rv, 7, none⟩) hl hm).trans f7, (hX.frozen (p := ⟨rv, 8, none⟩) hl hm).trans f8, (hX.frozen (p := ⟨rv, 9, none⟩) hl hm).trans f9⟩

theorem kset10 {w z : World} {sb r rv : Nat} {gv : Nat → World → Value} (hg : Gv rv gv) (hr : rv ≠ sb ∧ rv ≠ r) (hw : w.heap.size ≤ rv) (j : Nat) (u : Value) (h : z.cell? ⟨sb, 0, none⟩ = some (.pointer (some ⟨r, 0, none⟩)) ∧ Only [sb, r] w z ∧ z.cell? ⟨rv, 0, none⟩ = some (gv 0 z) ∧ z.cell? ⟨rv, 1, none⟩ = some (gv 1 z) ∧ z.cell? ⟨rv, 2, none⟩ = some (gv 2 z) ∧ z.cell? ⟨rv, 3, none⟩ = some (gv 3 z) ∧ z.cell? ⟨rv, 4, none⟩ = some (gv 4 z) ∧ z.cell? ⟨rv, 5, none⟩ = some (gv 5 z) ∧ z.cell? ⟨rv, 6, none⟩ = some (gv 6 z) ∧ z.cell? ⟨rv, 7, none⟩ = some (gv 7 z) ∧ z.cell? ⟨rv, 8, none⟩ = some (gv 8 z) ∧ z.cell? ⟨rv, 9, none⟩ = some (gv 9 z) ∧ z.frozen? ⟨rv, 0, none⟩ = false ∧ z.frozen? ⟨rv, 1, none⟩ = false ∧ z.frozen? ⟨rv, 2, none⟩ = false ∧ z.frozen? ⟨rv, 3, none⟩ = false ∧ z.frozen? ⟨rv, 4, none⟩ = false ∧ z.frozen? ⟨rv, 5, none⟩ = false ∧ z.frozen? ⟨rv, 6, none⟩ = false ∧ z.frozen? ⟨rv, 7, none⟩ = false ∧ z.frozen? ⟨rv, 8, none⟩ = false ∧ z.frozen? ⟨rv, 9, none⟩ = false) : (z.setCell ⟨rv, j, none⟩ u).cell? ⟨sb, 0, none⟩ = some (.pointer (some ⟨r, 0, none⟩)) ∧ Only [sb, r] w (z.setCell ⟨rv, j, none⟩ u) ∧ (z.setCell ⟨rv, j, none⟩ u).cell? ⟨rv, 0, none⟩ = some (gv 0 (z.setCell ⟨rv, j, none⟩ u)) ∧ (z.setCell ⟨rv, j, none⟩ u).cell? ⟨rv, 1, none⟩ = some (gv 1 (z.setCell ⟨rv, j, none⟩ u)) ∧ (z.setCell ⟨rv, j, none⟩ u).cell? ⟨rv, 2, none⟩ = some (gv 2 (z.setCell ⟨rv, j, none⟩ u)) ∧ (z.setCell ⟨rv, j, none⟩ u).cell? ⟨rv, 3, none⟩ = some (gv 3 (z.setCell ⟨rv, j, none⟩ u)) ∧ (z.setCell ⟨rv, j, none⟩ u).cell? ⟨rv, 4, none⟩ = some (gv 4 (z.setCell ⟨rv, j, none⟩ u)) ∧ (z.setCell ⟨rv, j, none⟩ u).cell? ⟨rv, 5, none⟩ = some (gv 5 (z.setCell ⟨rv, j, none⟩ u)) ∧ (z.setCell ⟨rv, j, none⟩ u).cell? ⟨rv, 6, none⟩ = some (gv 6 (z.setCell ⟨rv, j, none⟩ u)) ∧ (z.setCell ⟨rv, j, none⟩ u).cell? ⟨rv, 7, none⟩ = some (gv 7 (z.setCell ⟨rv, j, none⟩ u)) ∧ (z.setCell ⟨rv, j, none⟩ u).cell? ⟨rv, 8, none⟩ = some (gv 8 (z.setCell ⟨rv, j, none⟩ u)) ∧ (z.setCell ⟨rv, j, none⟩ u).cell? ⟨rv, 9, none⟩ = some (gv 9 (z.setCell ⟨rv, j, none⟩ u)) ∧ (z.setCell ⟨rv, j, none⟩ u).frozen? ⟨rv, 0, none⟩ = false ∧ (z.setCell ⟨rv, j, none⟩ u).frozen? ⟨rv, 1, none⟩ = false ∧ (z.setCell ⟨rv, j, none⟩ u).frozen? ⟨rv, 2, none⟩ = false ∧ (z.setCell ⟨rv, j, none⟩ u).frozen? ⟨rv, 3, none⟩ = false ∧ (z.setCell ⟨rv, j, none⟩ u).frozen? ⟨rv, 4, none⟩ = false ∧ (z.setCell ⟨rv, j, none⟩ u).frozen? ⟨rv, 5, none⟩ = false ∧ (z.setCell ⟨rv, j, none⟩ u).frozen? ⟨rv, 6, none⟩ = false ∧ (z.setCell ⟨rv, j, none⟩ u).frozen? ⟨rv, 7, none⟩ = false ∧ (z.setCell ⟨rv, j, none⟩ u).frozen? ⟨rv, 8, none⟩ = false ∧ (z.setCell ⟨rv, j, none⟩ u).frozen? ⟨rv, 9, none⟩ = false := by
 obtain ⟨hc, ho, c0, c1, c2, c3, c4, c5, c6, c7, c8, c9, f0, f1, f2, f3, f4, f5, f6, f7, f8, f9⟩ := h
 exact ⟨(cell_setCell_ne _ _ (by simp)).trans hc, ho.setCell (.inr hw) _, hg.set c0, hg.set c1, hg.set c2, hg.set c3, hg.set c4, hg.set c5, hg.set c6, hg.set c7, hg.set c8, hg.set c9, (frozen_setCell _ _ _ _).trans f0, (frozen_setCell _ _ _ _).trans f1, (frozen_setCell _ _ _ _).trans f2, (frozen_setCell _ _ _ _).trans f3, (frozen_setCell _ _ _ _).trans f4, (frozen_setCell _ _ _ _).trans f5, (frozen_setCell _ _ _ _).trans f6, (frozen_setCell _ _ _ _).trans f7, (frozen_setCell _ _ _ _).trans f8, (frozen_setCell _ _ _ _).trans f9⟩

theorem knew10 {w z : World} {sb r rv : Nat} {gv : Nat → World → Value} (hg : Gv rv gv) (hc : z.cell? ⟨sb, 0, none⟩ = some (.pointer (some ⟨r, 0, none⟩))) (ho : Only [sb, r] w z) {v0 : Value} (c0 : z.cell? ⟨rv, 0, none⟩ = some v0) {v1 : Value} (c1 : z.cell? ⟨rv, 1, none⟩ = some v1) {v2 : Value} (c2 : z.cell? ⟨rv, 2, none⟩ = some v2) {v3 : Value} (c3 : z.cell? ⟨rv, 3, none⟩ = some v3) {v4 : Value} (c4 : z.cell? ⟨rv, 4, none⟩ = some v4) {v5 : Value} (c5 : z.cell? ⟨rv, 5, none⟩ = some v5) {v6 : Value} (c6 : z.cell? ⟨rv, 6, none⟩ = some v6) {v7 : Value} (c7 : z.cell? ⟨rv, 7, none⟩ = some v7) {v8 : Value} (c8 : z.cell? ⟨rv, 8, none⟩ = some v8) {v9 : Value} (c9 : z.cell? ⟨rv, 9, none⟩ = some v9) (f0 : z.frozen? ⟨rv, 0, none⟩ = false) (f1 : z.frozen? ⟨rv, 1, none⟩ = false) (f2 : z.frozen? ⟨rv, 2, none⟩ = false) (f3 : z.frozen? ⟨rv, 3, none⟩ = false) (f4 : z.frozen? ⟨rv, 4, none⟩ = false) (f5 : z.frozen? ⟨rv, 5, none⟩ = false) (f6 : z.frozen? ⟨rv, 6, none⟩ = false) (f7 : z.frozen? ⟨rv, 7, none⟩ = false) (f8 : z.frozen? ⟨rv, 8, none⟩ = false) (f9 : z.frozen? ⟨rv, 9, none⟩ = false) : z.cell? ⟨sb, 0, none⟩ = some (.pointer (some ⟨r, 0, none⟩)) ∧ Only [sb, r] w z ∧ z.cell? ⟨rv, 0, none⟩ = some (gv 0 z) ∧ z.cell? ⟨rv, 1, none⟩ = some (gv 1 z) ∧ z.cell? ⟨rv, 2, none⟩ = some (gv 2 z) ∧ z.cell? ⟨rv, 3, none⟩ = some (gv 3 z) ∧ z.cell? ⟨rv, 4, none⟩ = some (gv 4 z) ∧ z.cell? ⟨rv, 5, none⟩ = some (gv 5 z) ∧ z.cell? ⟨rv, 6, none⟩ = some (gv 6 z) ∧ z.cell? ⟨rv, 7, none⟩ = some (gv 7 z) ∧ z.cell? ⟨rv, 8, none⟩ = some (gv 8 z) ∧ z.cell? ⟨rv, 9, none⟩ = some (gv 9 z) ∧ z.frozen? ⟨rv, 0, none⟩ = false ∧ z.frozen? ⟨rv, 1, none⟩ = false ∧ z.frozen? ⟨rv, 2, none⟩ = false ∧ z.frozen? ⟨rv, 3, none⟩ = false ∧ z.frozen? ⟨rv, 4, none⟩ = false ∧ z.frozen? ⟨rv, 5, none⟩ = false ∧ z.frozen? ⟨rv, 6, none⟩ = false ∧ z.frozen? ⟨rv, 7, none⟩ = false ∧ z.frozen? ⟨rv, 8, none⟩ = false ∧ z.frozen? ⟨rv, 9, none⟩ = false := ⟨hc, ho, hg.of c0, hg.of c1, hg.of c2, hg.of c3, hg.of c4, hg.of c5, hg.of c6, hg.of c7, hg.of c8, hg.of c9, f0, f1, f2, f3, f4, f5, f6, f7, f8, f9⟩

theorem kdrew10 {w z : World} {sb r rv : Nat} {gv : Nat → World → Value} (hg : Gv rv gv) (h : z.cell? ⟨sb, 0, none⟩ = some (.pointer (some ⟨r, 0, none⟩)) ∧ Only [sb, r] w z ∧ z.cell? ⟨rv, 0, none⟩ = some (gv 0 z) ∧ z.cell? ⟨rv, 1, none⟩ = some (gv 1 z) ∧ z.cell? ⟨rv, 2, none⟩ = some (gv 2 z) ∧ z.cell? ⟨rv, 3, none⟩ = some (gv 3 z) ∧ z.cell? ⟨rv, 4, none⟩ = some (gv 4 z) ∧ z.cell? ⟨rv, 5, none⟩ = some (gv 5 z) ∧ z.cell? ⟨rv, 6, none⟩ = some (gv 6 z) ∧ z.cell? ⟨rv, 7, none⟩ = some (gv 7 z) ∧ z.cell? ⟨rv, 8, none⟩ = some (gv 8 z) ∧ z.cell? ⟨rv, 9, none⟩ = some (gv 9 z) ∧ z.frozen? ⟨rv, 0, none⟩ = false ∧ z.frozen? ⟨rv, 1, none⟩ = false ∧ z.frozen? ⟨rv, 2, none⟩ = false ∧ z.frozen? ⟨rv, 3, none⟩ = false ∧ z.frozen? ⟨rv, 4, none⟩ = false ∧ z.frozen? ⟨rv, 5, none⟩ = false ∧ z.frozen? ⟨rv, 6, none⟩ = false ∧ z.frozen? ⟨rv, 7, none⟩ = false ∧ z.frozen? ⟨rv, 8, none⟩ = false ∧ z.frozen? ⟨rv, 9, none⟩ = false) : z.drew.cell? ⟨sb, 0, none⟩ = some (.pointer (some ⟨r, 0, none⟩)) ∧ Only [sb, r] w z.drew ∧ z.drew.cell? ⟨rv, 0, none⟩ = some (gv 0 z.drew) ∧ z.drew.cell? ⟨rv, 1, none⟩ = some (gv 1 z.drew) ∧ z.drew.cell? ⟨rv, 2, none⟩ = some (gv 2 z.drew) ∧ z.drew.cell? ⟨rv, 3, none⟩ = some (gv 3 z.drew) ∧ z.drew.cell? ⟨rv, 4, none⟩ = some (gv 4 z.drew) ∧ z.drew.cell? ⟨rv, 5, none⟩ = some (gv 5 z.drew) ∧ z.drew.cell? ⟨rv, 6, none⟩ = some (gv 6 z.drew) ∧ z.drew.cell? ⟨rv, 7, none⟩ = some (gv 7 z.drew) ∧ z.drew.cell? ⟨rv, 8, none⟩ = some (gv 8 z.drew) ∧ z.drew.cell? ⟨rv, 9, none⟩ = some (gv 9 z.drew) ∧ z.drew.frozen? ⟨rv, 0, none⟩ = false ∧ z.drew.frozen? ⟨rv, 1, none⟩ = false ∧ z.drew.frozen? ⟨rv, 2, none⟩ = false ∧ z.drew.frozen? ⟨rv, 3, none⟩ = false ∧ z.drew.frozen? ⟨rv, 4, none⟩ = false ∧ z.drew.frozen? ⟨rv, 5, none⟩ = false ∧ z.drew.frozen? ⟨rv, 6, none⟩ = false ∧ z.drew.frozen? ⟨rv, 7, none⟩ = false ∧ z.drew.frozen? ⟨rv, 8, none⟩ = false ∧ z.drew.frozen? ⟨rv, 9, none⟩ = false := by
 obtain ⟨hc, ho, c0, c1, c2, c3, c4, c5, c6, c7, c8, c9, f0, f1, f2, f3, f4, f5, f6, f7, f8, f9⟩ := h
 exact ⟨hc, ho.drew, hg.of (w := z.drew) c0, hg.of (w := z.drew) c1, hg.of (w := z.drew) c2, hg.of (w := z.drew) c3, hg.of (w := z.drew) c4, hg.of (w := z.drew) c5, hg.of (w := z.drew) c6, hg.of (w := z.drew) c7, hg.of (w := z.drew) c8, hg.of (w := z.drew) c9, f0, f1, f2, f3, f4, f5, f6, f7, f8, f9⟩

theorem pList_snoc {α : Type} {p : Pr α} : ∀ (k : Nat) (u u1 u2 : Rs) (xs : List α) (y : α), pList p k u = .inr (xs, u1) → p u1 = .inr (y, u2) → pList p (k + 1) u = .inr (xs ++ [y], u2) := by
 intro k
 induction k with
 | zero =>
  intro u u1 u2 xs y h h1
  simp only [pList, pDone, Sum.inr.injEq, Prod.mk.injEq] at h
  obtain ⟨rfl, rfl⟩ := h
  simp [pList, pBind, pDone, h1]
 | succ k ih =>
  intro u u1 u2 xs y h h1
  rw [pList] at h ⊢
  unfold pBind at h ⊢
  cases hp : p u with
  | inl f => rw [hp] at h; cases h
  | inr z =>
   obtain ⟨x, v⟩ := z
   simp only [hp] at h ⊢
   cases hq : pList p k v with
   | inl f => rw [hq] at h; cases h
   | inr z2 =>
    obtain ⟨ys, v1⟩ := z2
    simp only [hq, pDone, Sum.inr.injEq, Prod.mk.injEq] at h
    obtain ⟨rfl, rfl⟩ := h
    rw [ih v v1 u2 ys y hq h1]
    rfl

theorem pList_fail {α : Type} {p : Pr α} : ∀ (k n : Nat) (u u1 : Rs) (xs : List α) (f : Int × Int), pList p k u = .inr (xs, u1) → p u1 = .inl f → k < n → pList p n u = .inl f := by
 intro k
 induction k with
 | zero =>
  intro n u u1 xs f h h1 hn
  simp only [pList, pDone, Sum.inr.injEq, Prod.mk.injEq] at h
  obtain ⟨rfl, rfl⟩ := h
  cases n with
  | zero => omega
  | succ n => simp [pList, pBind, h1]
 | succ k ih =>
  intro n u u1 xs f h h1 hn
  cases n with
  | zero => omega
  | succ n =>
   rw [pList] at h ⊢
   unfold pBind at h ⊢
   cases hp : p u with
   | inl f => rw [hp] at h; cases h
   | inr z =>
    obtain ⟨x, v⟩ := z
    simp only [hp] at h ⊢
    cases hq : pList p k v with
    | inl f => rw [hq] at h; cases h
    | inr z2 =>
     obtain ⟨ys, v1⟩ := z2
     simp only [hq, pDone, Sum.inr.injEq, Prod.mk.injEq] at h
     obtain ⟨rfl, rfl⟩ := h
     rw [ih n v v1 ys f hq h1 (by omega)]

/-- How far n elements are read: all up to here, or the first that was wrong. -/
def Far {α : Type} (p : Pr α) (n : Nat) (t0 : St) (xs : List α) (t1 : St) : Prop := match t0 with
 | .inl f => t1 = .inl f
 | .inr u => (∃ u1, t1 = .inr u1 ∧ pList p xs.length u = .inr (xs, u1)) ∨ ∃ f, t1 = .inl f ∧ pList p n u = .inl f

theorem far_start {α : Type} (p : Pr α) (n : Nat) (t0 : St) : Far p n t0 [] t0 := by
 cases t0 with
 | inl f => rfl
 | inr u => exact .inl ⟨u, rfl, rfl⟩

theorem far_step {α : Type} {p : Pr α} {n : Nat} {t0 t1 t2 : St} {xs : List α} {y : α} (h : Far p n t0 xs t1) (hf : isFine t1 = true) (hy : Out p t1 y t2) (hn : xs.length < n) : Far p n t0 (xs ++ [y]) t2 := by
 cases t1 with
 | inl f => cases hf
 | inr v =>
  cases t0 with
  | inl f => cases h
  | inr u =>
   rcases h with ⟨u1, hu, hl⟩ | ⟨f, hf, _⟩
   ·have e := Sum.inr.inj hu
    subst e
    unfold Out at hy
    simp only at hy
    cases hp : p v with
    | inl f =>
     simp only [hp] at hy
     exact .inr ⟨f, hy, pList_fail _ n _ _ _ f hl hp hn⟩
    | inr z =>
     obtain ⟨y', u2⟩ := z
     simp only [hp] at hy
     obtain ⟨rfl, rfl⟩ := hy
     refine .inl ⟨u2, rfl, ?_⟩
     rw [List.length_append]
     exact pList_snoc _ _ _ _ _ _ hl hp
   ·cases hf

/-- What reading so many came to, when it ended. -/
theorem out_rows {α : Type} {p : Pr α} {k most n at_ : Nat} {t t0 t1 : St} {xs : List α} (hc : Out (pU k) t n t0) (ha : ∀ u, t = .inr u → at_ = u.2)
  (h : (most < n ∧ t1 = tRefuse (at_ : Int) 4 t0) ∨ (¬ most < n ∧ Far p n t0 xs t1 ∧ (isFine t1 = true → xs.length = n))) : Out (pRows k most p) t xs t1 := by
 unfold Out at hc ⊢
 cases t with
 | inl f =>
  simp only at hc
  subst hc
  rcases h with ⟨_, rfl⟩ | ⟨_, h, _⟩
  ·rfl
  ·exact h
 | inr u =>
  have ha := ha u rfl
  simp only [pRows, pBind] at hc ⊢
  cases hp : pU k u with
  | inl f =>
   simp only [hp] at hc ⊢
   subst hc
   rcases h with ⟨_, rfl⟩ | ⟨_, h, _⟩
   ·rfl
   ·exact h
  | inr z =>
   obtain ⟨m, u'⟩ := z
   simp only [hp] at hc ⊢
   obtain ⟨rfl, rfl⟩ := hc
   rcases h with ⟨hm, rfl⟩ | ⟨hm, h, hl⟩
   ·rw [if_pos hm, ha]
    rfl
   ·rw [if_neg hm]
    rcases h with ⟨u1, rfl, h⟩ | ⟨f, rfl, h⟩
    ·rw [hl rfl] at h
     simp [h]
    ·simp only [h]

/-- A row that is grown is not what was wrong. -/
theorem Sc.row {w w' : World} {sb r d B : Nat} {t : St} (h : Sc w sb r d t) {e : TypeId} {k m n' cap cap' : Nat} {ao ao' : Option Addr} {xs ys : List Value} (hown : w.ownsRow B e k (.slice ao m cap) m xs) (hA : Appd w w' B e k ao ao' m n' cap' ys) (hB : sb < B ∧ r < B ∧ d < B) {u : Value} (hu : ∀ x, u ≠ .int .i64 x) (hc : ao ≠ none → xs[0]? = some u ∨ xs[1]? = some u ∨ xs[3]? = some u) : Sc w' sb r d t := by
 cases ao with
 | none => exact h.only0 hA.only
 | some a =>
  obtain ⟨q1, _, _, _, q5⟩ := RS.of_owns hown
  obtain ⟨b1, b2, b3⟩ := q5 a rfl
  have hcell : ∀ i v, xs[i]? = some v → w.cell? ⟨a.block, i, none⟩ = some v := by
   intro i v hv
   have := q1.cells i v hv
   rw [b3, Addr.add_lit, Nat.zero_add] at this
   exact this
  have ho : Only [a.block] w w' := hA.only
  refine h.other hu ?_ (by omega) ho
  rcases hc (by simp) with h | h | h
  ·exact .inl (hcell 0 u h)
  ·exact .inr (.inl (hcell 1 u h))
  ·exact .inr (.inr (hcell 3 u h))

def sliceLen (v : Value) : Nat := match v with
 | .slice _ n _ => n
 | _ => 0

theorem out_spell {α : Type} (f : List UInt8 → α × Int) {t t1 : St} {x : List UInt8} {n : Nat} (h : Out pText t x t1) (hn : ∀ u, t = .inr u → n = u.2) : Out (pSpell f) t (f x).1 (if (f x).2 = 0 then t1 else tRefuse (n : Int) (f x).2 t1) := by
 unfold Out at h ⊢
 cases t with
 | inl g =>
  simp only at h
  subst h
  show (if (f x).2 = 0 then Sum.inl g else tRefuse (n : Int) (f x).2 (Sum.inl g)) = Sum.inl g
  split <;> rfl
 | inr u =>
  have hn := hn u rfl
  simp only [pSpell, pBind] at h ⊢
  cases hp : pText u with
  | inl g =>
   simp only [hp] at h ⊢
   subst h
   split <;> rfl
  | inr z =>
   obtain ⟨y, u'⟩ := z
   simp only [hp] at h ⊢
   obtain ⟨rfl, rfl⟩ := h
   by_cases he : (f x).2 = 0
   ·rw [if_pos he, if_pos he]
    exact ⟨rfl, rfl⟩
   ·rw [if_neg he, if_neg he, hn]
    rfl

theorem typeR_len (l : List UInt8) : (typeR l).1.2.length ≤ 32 := by
 by_cases h : (typeR l).2 = 0
 ·exact (check_fit (type_read l h).1).2.2
 ·unfold typeR at h ⊢
  split
  ·rename_i hp
   rw [hp] at h
   simp at h
  ·simp

set_option maxHeartbeats 4000000 in
theorem rspell_ty {w : World} {sb r d : Nat} {t : St} (h : Sc w sb r d t) :
  Calls Tryz.prog 175 #[.pointer (some ⟨sb, 0, none⟩), .func (.func 161) #[] #[]] w fun e w' => ∃ (x : Ty) (t' : St), e = .returned (tyV x) ∧ x.2.length ≤ 32 ∧ Sc w' sb r d t' ∧ Out (pSpell typeR) t x t' ∧ Only [sb, r] w w' := by
 have o0 := hid ((Only.refl [sb, r] w).alloc (.cells #[.int .i64 0, .string ⟨#[]⟩] 35))
 have h0 := h.only0 ((Only.refl [] w).alloc (.cells #[.int .i64 0, .string ⟨#[]⟩] 35))
 have hl := h.lt
 clear h
 have q0 : Hid ((w.alloc (.cells #[.int .i64 0, .string ⟨#[]⟩] 35)).cell? ⟨w.heap.size, 0, none⟩ = some (.int .i64 0) ∧ (w.alloc (.cells #[.int .i64 0, .string ⟨#[]⟩] 35)).cell? ⟨w.heap.size, 1, none⟩ = some (.string ⟨#[]⟩)) := ⟨by rw [cell_new]; rfl, by rw [cell_new]; rfl⟩
 have c0 := h0.c0
 have HA := hid (sc_at h0)
 go_enter Tryz.func175, Tryz.ntmps175
 go_wp2_with fail
 refine HA.out.mono ?_
 rintro e w1 ⟨n, rfl, hn, rfl⟩
 have HT := hid (sc_text h0)
 go_wp2_with fail
 refine HT.out.mono ?_
 rintro e w2 ⟨x, t1, rfl, hx, h1, hO, ho2⟩
 have HD := hid (type_any x (by omega) w2)
 clear HA HT c0
 have c0 := h1.c0
 have o2 := hid (o0.out.trans ho2 (by simp))
 have hos := out_spell typeR hO hn
 have hl2 := h1.lt
 have hs2 : w.heap.size < w2.heap.size := Nat.lt_of_lt_of_le (by simp) ho2.size
 have q1 : Hid (w2.cell? ⟨w.heap.size, 0, none⟩ = some (.int .i64 0) ∧ w2.cell? ⟨w.heap.size, 1, none⟩ = some (.string ⟨#[]⟩) ∧ w2.frozen? ⟨w.heap.size, 0, none⟩ = false ∧ w2.frozen? ⟨w.heap.size, 1, none⟩ = false) :=
  ⟨(ho2.cell (p := ⟨w.heap.size, 0, none⟩) (by simp) (by simp; omega)).trans q0.out.1, (ho2.cell (p := ⟨w.heap.size, 1, none⟩) (by simp) (by simp; omega)).trans q0.out.2, (ho2.frozen (p := ⟨w.heap.size, 0, none⟩) (by simp) (by simp; omega)).trans (frozen_new _ _ _ _), (ho2.frozen (p := ⟨w.heap.size, 1, none⟩) (by simp) (by simp; omega)).trans (frozen_new _ _ _ _)⟩
 have htn := typeR_len x
 generalize typeR x = y at *
 obtain ⟨⟨yd, yn⟩, ye⟩ := y
 unfold tyV at HD
 simp only at hos HD htn
 by_cases he : ye = 0
 ·subst he
  rw [if_pos rfl] at hos
  go_wp2_with fail
  refine HD.out.mono ?_
  rintro e w3 ⟨rfl, ho3⟩
  have r0 := (ho3.cell (p := ⟨w.heap.size, 0, none⟩) hs2 (by simp)).trans q1.out.1
  have r1 := (ho3.cell (p := ⟨w.heap.size, 1, none⟩) hs2 (by simp)).trans q1.out.2.1
  have z0 := (ho3.frozen (p := ⟨w.heap.size, 0, none⟩) hs2 (by simp)).trans q1.out.2.2.1
  have z1 := (ho3.frozen (p := ⟨w.heap.size, 1, none⟩) hs2 (by simp)).trans q1.out.2.2.2
  have r0' := fun o => cell_alloc o r0
  have r1' := fun o => cell_alloc o r1
  have hs3 : w.heap.size < w3.heap.size := Nat.lt_of_lt_of_le hs2 ho3.size
  have z0' : ∀ o, (w3.alloc o).frozen? ⟨w.heap.size, 0, none⟩ = false := fun o => (frozen_alloc o hs3).trans z0
  have z1' : ∀ o, (w3.alloc o).frozen? ⟨w.heap.size, 1, none⟩ = false := fun o => (frozen_alloc o hs3).trans z1
  go_wp2_with fail
  have p2 := put2 (.int .i64 yd) (.string (str yn)) r0 r1 (by decide)
  have d0 := cell_alloc (.cells #[.int .i64 yd, .string (str yn)] 35) p2.1
  have d1 := cell_alloc (.cells #[.int .i64 yd, .string (str yn)] 35) p2.2
  refine bodyPost_ret (v := tyV (yd, yn)) (by simp [results, Tryz.results175, go_sem, d0, d1, tyV]) rfl ?_
  have oS : Only [w.heap.size] w3 _ := ((Only.refl [w.heap.size] w3).setCell (p := ⟨w.heap.size, 0, none⟩) (.inl (by simp)) (.int .i64 yd)).setCell (p := ⟨w.heap.size, 1, none⟩) (.inl (by simp)) (.string (str yn))
  refine ⟨(yd, yn), t1, rfl, htn, ?_, hos, ?_⟩
  ·exact ((h1.only0 ho3).other (by simp) (.inr (.inl r1)) (by omega) oS).only0 ((Only.refl [] _).alloc _)
  ·exact ((o2.out.next ho3 (by simp)).next oS (by simp)).alloc _
 ·have he' : (ye == 0) = false := by simpa using he
  rw [if_neg he] at hos
  go_wp2_with fail
  refine HD.out.mono ?_
  rintro e w3 ⟨rfl, ho3⟩
  have hs3 : w.heap.size < w3.heap.size := Nat.lt_of_lt_of_le hs2 ho3.size
  have oA := (Only.refl [] w3).alloc (.cells #[.int .i64 yd, .string (str yn)] 35)
  have h3 := (h1.only0 ho3).only0 oA
  have HR := hid (refuse_src h3 (n : Int) ye he)
  have a0 : Hid ((w3.alloc (.cells #[.int .i64 yd, .string (str yn)] 35)).cell? ⟨w3.heap.size, 0, none⟩ = some (.int .i64 yd) ∧ (w3.alloc (.cells #[.int .i64 yd, .string (str yn)] 35)).cell? ⟨w3.heap.size, 1, none⟩ = some (.string (str yn))) := ⟨by rw [cell_new]; rfl, by rw [cell_new]; rfl⟩
  have q3 : Hid ((w3.alloc (.cells #[.int .i64 yd, .string (str yn)] 35)).cell? ⟨w.heap.size, 0, none⟩ = some (.int .i64 0) ∧ (w3.alloc (.cells #[.int .i64 yd, .string (str yn)] 35)).cell? ⟨w.heap.size, 1, none⟩ = some (.string ⟨#[]⟩) ∧ (w3.alloc (.cells #[.int .i64 yd, .string (str yn)] 35)).frozen? ⟨w.heap.size, 0, none⟩ = false ∧ (w3.alloc (.cells #[.int .i64 yd, .string (str yn)] 35)).frozen? ⟨w.heap.size, 1, none⟩ = false) :=
   ⟨((ho3.next oA (by simp)).cell (p := ⟨w.heap.size, 0, none⟩) hs2 (by simp)).trans q1.out.1, ((ho3.next oA (by simp)).cell (p := ⟨w.heap.size, 1, none⟩) hs2 (by simp)).trans q1.out.2.1, ((ho3.next oA (by simp)).frozen (p := ⟨w.heap.size, 0, none⟩) hs2 (by simp)).trans q1.out.2.2.1, ((ho3.next oA (by simp)).frozen (p := ⟨w.heap.size, 1, none⟩) hs2 (by simp)).trans q1.out.2.2.2⟩
  have hs4 : w.heap.size < (w3.alloc (.cells #[.int .i64 yd, .string (str yn)] 35)).heap.size := by simp; omega
  have hs5 : w3.heap.size < (w3.alloc (.cells #[.int .i64 yd, .string (str yn)] 35)).heap.size := by simp
  have hsb : sb < w3.heap.size := by have := ho3.size; omega
  clear HD
  go_wp2_with fail
  refine HR.out.mono ?_
  rintro e w4 ⟨rfl, h4, ho4⟩
  have b0 := (ho4.cell (p := ⟨w3.heap.size, 0, none⟩) hs5 (by simp; omega)).trans a0.out.1
  have b1 := (ho4.cell (p := ⟨w3.heap.size, 1, none⟩) hs5 (by simp; omega)).trans a0.out.2
  have r0 := (ho4.cell (p := ⟨w.heap.size, 0, none⟩) hs4 (by simp; omega)).trans q3.out.1
  have r1 := (ho4.cell (p := ⟨w.heap.size, 1, none⟩) hs4 (by simp; omega)).trans q3.out.2.1
  have z0 := (ho4.frozen (p := ⟨w.heap.size, 0, none⟩) hs4 (by simp; omega)).trans q3.out.2.2.1
  have z1 := (ho4.frozen (p := ⟨w.heap.size, 1, none⟩) hs4 (by simp; omega)).trans q3.out.2.2.2
  clear HR
  go_wp2_with fail
  have p2 := put2 (.int .i64 yd) (.string (str yn)) r0 r1 (by decide)
  have d0 := p2.1
  have d1 := p2.2
  refine bodyPost_ret (v := tyV (yd, yn)) (by simp [results, Tryz.results175, go_sem, d0, d1, tyV]) rfl ?_
  have oS : Only [w.heap.size] w4 _ := ((Only.refl [w.heap.size] w4).setCell (p := ⟨w.heap.size, 0, none⟩) (.inl (by simp)) (.int .i64 yd)).setCell (p := ⟨w.heap.size, 1, none⟩) (.inl (by simp)) (.string (str yn))
  refine ⟨(yd, yn), _, rfl, htn, h4.other (by simp) (.inr (.inl r1)) (by omega) oS, hos, ?_⟩
  exact (((o2.out.next ho3 (by simp)).next oA (by simp)).trans ho4 (by simp)).next oS (by simp)

theorem put4 {w : World} {b : Nat} {x0 x1 x2 x3 : Value} (v0 v1 v2 v3 : Value) (c0 : w.cell? ⟨b, 0, none⟩ = some x0) (c1 : w.cell? ⟨b, 1, none⟩ = some x1) (c2 : w.cell? ⟨b, 2, none⟩ = some x2) (c3 : w.cell? ⟨b, 3, none⟩ = some x3) :
  ((((w.setCell ⟨b, 0, none⟩ v0).setCell ⟨b, 1, none⟩ v1).setCell ⟨b, 2, none⟩ v2).setCell ⟨b, 3, none⟩ v3).cell? ⟨b, 0, none⟩ = some v0 ∧ ((((w.setCell ⟨b, 0, none⟩ v0).setCell ⟨b, 1, none⟩ v1).setCell ⟨b, 2, none⟩ v2).setCell ⟨b, 3, none⟩ v3).cell? ⟨b, 1, none⟩ = some v1 ∧
  ((((w.setCell ⟨b, 0, none⟩ v0).setCell ⟨b, 1, none⟩ v1).setCell ⟨b, 2, none⟩ v2).setCell ⟨b, 3, none⟩ v3).cell? ⟨b, 2, none⟩ = some v2 ∧ ((((w.setCell ⟨b, 0, none⟩ v0).setCell ⟨b, 1, none⟩ v1).setCell ⟨b, 2, none⟩ v2).setCell ⟨b, 3, none⟩ v3).cell? ⟨b, 3, none⟩ = some v3 := by
 refine ⟨?_, ?_, ?_, ?_⟩
 ·rw [cell_setCell_ne _ _ (by simp), cell_setCell_ne _ _ (by simp), cell_setCell_ne _ _ (by simp)]
  exact cell_setCell_same _ _ c0
 ·rw [cell_setCell_ne _ _ (by simp), cell_setCell_ne _ _ (by simp)]
  exact cell_setCell_same _ _ (by rw [cell_setCell_ne _ _ (by simp)]; exact c1)
 ·rw [cell_setCell_ne _ _ (by simp)]
  exact cell_setCell_same _ _ (by rw [cell_setCell_ne _ _ (by simp), cell_setCell_ne _ _ (by simp)]; exact c2)
 ·exact cell_setCell_same _ _ (by rw [cell_setCell_ne _ _ (by simp), cell_setCell_ne _ _ (by simp), cell_setCell_ne _ _ (by simp)]; exact c3)

/-- The names of a signature that was read are short. -/
structure SgShort (x : Sg) : Prop where
 params : ∀ t ∈ x.1, t.2.length ≤ 32
 res : x.2.2.2.length ≤ 32

theorem sigR_short (l : List UInt8) : SgShort (sigR l).1 := by
 by_cases h : (sigR l).2 = 0
 ·obtain ⟨_, h2, h3, _⟩ := sigCheck_ok (sig_read l h).1
  exact ⟨fun t ht => (check_fit (h2 t ht)).2.2, (check_fit h3).2.2⟩
 ·unfold sigR at h ⊢
  cases hp : sigP l with
  | none => exact ⟨by simp, by simp⟩
  | some z =>
   obtain ⟨ps, rr⟩ := z
   simp only [hp] at h ⊢
   by_cases h16 : 16 < ps.length
   ·rw [if_pos h16]
    exact ⟨by simp, by simp⟩
   ·rw [if_neg h16] at h
    exact absurd rfl h

/-- The four cells of a signature's block. -/
structure Sg4 (w : World) (b : Nat) (v0 v1 v2 v3 : Value) : Prop where
 c0 : w.cell? ⟨b, 0, none⟩ = some v0
 c1 : w.cell? ⟨b, 1, none⟩ = some v1
 c2 : w.cell? ⟨b, 2, none⟩ = some v2
 c3 : w.cell? ⟨b, 3, none⟩ = some v3
 f0 : w.frozen? ⟨b, 0, none⟩ = false
 f1 : w.frozen? ⟨b, 1, none⟩ = false
 f2 : w.frozen? ⟨b, 2, none⟩ = false
 f3 : w.frozen? ⟨b, 3, none⟩ = false

theorem Sg4.only {w w' : World} {S : List Nat} {b : Nat} {v0 v1 v2 v3 : Value} (h : Sg4 w b v0 v1 v2 v3) (ho : Only S w w') (hb : b ∉ S) : Sg4 w' b v0 v1 v2 v3 := by
 have hl := World.block_lt_of_cell? w _ h.c0
 exact ⟨(ho.cell (p := ⟨b, 0, none⟩) hl hb).trans h.c0, (ho.cell (p := ⟨b, 1, none⟩) hl hb).trans h.c1, (ho.cell (p := ⟨b, 2, none⟩) hl hb).trans h.c2, (ho.cell (p := ⟨b, 3, none⟩) hl hb).trans h.c3,
  (ho.frozen (p := ⟨b, 0, none⟩) hl hb).trans h.f0, (ho.frozen (p := ⟨b, 1, none⟩) hl hb).trans h.f1, (ho.frozen (p := ⟨b, 2, none⟩) hl hb).trans h.f2, (ho.frozen (p := ⟨b, 3, none⟩) hl hb).trans h.f3⟩

theorem sg4_new (w : World) (v0 v1 v2 v3 : Value) (t : TypeId) : Sg4 (w.alloc (.cells #[v0, v1, v2, v3] t)) w.heap.size v0 v1 v2 v3 :=
 ⟨by rw [cell_new]; rfl, by rw [cell_new]; rfl, by rw [cell_new]; rfl, by rw [cell_new]; rfl, frozen_new _ _ _ _, frozen_new _ _ _ _, frozen_new _ _ _ _, frozen_new _ _ _ _⟩

set_option maxHeartbeats 4000000 in
theorem rspell_sig {w : World} {sb r d : Nat} {t : St} (h : Sc w sb r d t) :
  Calls Tryz.prog 176 #[.pointer (some ⟨sb, 0, none⟩), .func (.func 162) #[] #[]] w fun e w' => ∃ (x : Sg) (t' : St) (ao : Option Addr) (cap : Nat), e = .returned (.agg #[.slice ao x.1.length cap, .bool x.2.1, .int .i64 x.2.2.1, .string (str x.2.2.2)]) ∧ SgShort x ∧ Own w' w.heap.size (.slice ao x.1.length cap) x.1 ∧ Sc w' sb r d t' ∧ Out (pSpell sigR) t x t' ∧ Only [sb, r] w w' := by
 have o0 := hid ((Only.refl [sb, r] w).alloc (.cells #[.slice none 0 0, .bool false, .int .i64 0, .string ⟨#[]⟩] 37))
 have h0 := h.only0 ((Only.refl [] w).alloc (.cells #[.slice none 0 0, .bool false, .int .i64 0, .string ⟨#[]⟩] 37))
 have hl := h.lt
 clear h
 have q0 := hid (sg4_new w (.slice none 0 0) (.bool false) (.int .i64 0) (.string ⟨#[]⟩) 37)
 have c0 := h0.c0
 have HA := hid (sc_at h0)
 go_enter Tryz.func176, Tryz.ntmps176
 go_wp2_with fail
 refine HA.out.mono ?_
 rintro e w1 ⟨n, rfl, hn, rfl⟩
 have HT := hid (sc_text h0)
 go_wp2_with fail
 refine HT.out.mono ?_
 rintro e w2 ⟨x, t1, rfl, hx, h1, hO, ho2⟩
 have HD := hid (sig_any x (by omega) w2)
 clear HA HT c0
 have c0 := h1.c0
 have o2 := hid (o0.out.trans ho2 (by simp))
 have hos := out_spell sigR hO hn
 have hl2 := h1.lt
 have hs2 : w.heap.size < w2.heap.size := Nat.lt_of_lt_of_le (by simp) ho2.size
 have q1 := hid (q0.out.only ho2 (by simp; omega))
 have hsh := sigR_short x
 generalize sigR x = y at *
 obtain ⟨⟨ps, vo, yd, yn⟩, ye⟩ := y
 unfold sigV at HD
 simp only at hos HD hsh
 by_cases he : ye = 0
 ·subst he
  rw [if_pos rfl] at hos
  go_wp2_with fail
  refine HD.out.mono ?_
  rintro e w3 ⟨v, rfl, hown, ho3⟩
  obtain ⟨ao, cap, rfl⟩ := own_slice hown
  have hQ := hid (q1.out.only ho3 (by simp))
  obtain ⟨r0, r1, r2, r3, z0, z1, z2, z3⟩ := q1.out.only ho3 (by simp)
  have hs3 : w.heap.size < w3.heap.size := Nat.lt_of_lt_of_le hs2 ho3.size
  have r0' := fun o => cell_alloc o r0
  have r1' := fun o => cell_alloc o r1
  have r2' := fun o => cell_alloc o r2
  have r3' := fun o => cell_alloc o r3
  have z0' : ∀ o, (w3.alloc o).frozen? ⟨w.heap.size, 0, none⟩ = false := fun o => (frozen_alloc o hs3).trans z0
  have z1' : ∀ o, (w3.alloc o).frozen? ⟨w.heap.size, 1, none⟩ = false := fun o => (frozen_alloc o hs3).trans z1
  have z2' : ∀ o, (w3.alloc o).frozen? ⟨w.heap.size, 2, none⟩ = false := fun o => (frozen_alloc o hs3).trans z2
  have z3' : ∀ o, (w3.alloc o).frozen? ⟨w.heap.size, 3, none⟩ = false := fun o => (frozen_alloc o hs3).trans z3
  go_wp2_with fail
  have p4 := put4 (.slice ao ps.length cap) (.bool vo) (.int .i64 yd) (.string (str yn)) hQ.out.c0 hQ.out.c1 hQ.out.c2 hQ.out.c3
  have d0 := cell_alloc (.cells #[.slice ao ps.length cap, .bool vo, .int .i64 yd, .string (str yn)] 37) p4.1
  have d1 := cell_alloc (.cells #[.slice ao ps.length cap, .bool vo, .int .i64 yd, .string (str yn)] 37) p4.2.1
  have d2 := cell_alloc (.cells #[.slice ao ps.length cap, .bool vo, .int .i64 yd, .string (str yn)] 37) p4.2.2.1
  have d3 := cell_alloc (.cells #[.slice ao ps.length cap, .bool vo, .int .i64 yd, .string (str yn)] 37) p4.2.2.2
  refine bodyPost_ret (v := .agg #[.slice ao ps.length cap, .bool vo, .int .i64 yd, .string (str yn)]) (by simp [results, Tryz.results176, go_sem, d0, d1, d2, d3]) rfl ?_
  have oS : Only [w.heap.size] w3 ((((w3.setCell ⟨w.heap.size, 0, none⟩ (.slice ao ps.length cap)).setCell ⟨w.heap.size, 1, none⟩ (.bool vo)).setCell ⟨w.heap.size, 2, none⟩ (.int .i64 yd)).setCell ⟨w.heap.size, 3, none⟩ (.string (str yn))) := ((((Only.refl [w.heap.size] w3).setCell (.inl (by simp)) _).setCell (.inl (by simp)) _).setCell (.inl (by simp)) _).setCell (.inl (by simp)) _
  refine ⟨(ps, vo, yd, yn), t1, ao, cap, rfl, hsh, own_mono (own_only hown (oS.alloc _) (fun k hk => ?_)) (by omega), ?_, hos, ?_⟩
  ·have := (hown.lt k hk).1
   simp
   omega
  ·exact ((h1.only0 ho3).other (by simp) (.inl hQ.out.c0) (by omega) oS).only0 ((Only.refl [] _).alloc _)
  ·exact ((o2.out.next ho3 (by simp)).next oS (by simp)).alloc _
 ·have he' : (ye == 0) = false := by simpa using he
  rw [if_neg he] at hos
  go_wp2_with fail
  refine HD.out.mono ?_
  rintro e w3 ⟨v, rfl, hown, ho3⟩
  obtain ⟨ao, cap, rfl⟩ := own_slice hown
  have hs3 : w.heap.size < w3.heap.size := Nat.lt_of_lt_of_le hs2 ho3.size
  have oA := (Only.refl [] w3).alloc (.cells #[.slice ao ps.length cap, .bool vo, .int .i64 yd, .string (str yn)] 37)
  have h3 := (h1.only0 ho3).only0 oA
  have HR := hid (refuse_src h3 (n : Int) ye he)
  have a0 := hid (sg4_new w3 (.slice ao ps.length cap) (.bool vo) (.int .i64 yd) (.string (str yn)) 37)
  have q3 := hid (q1.out.only (ho3.next oA (by simp)) (by simp))
  have hsb : sb < w3.heap.size := by have := ho3.size; omega
  clear HD
  go_wp2_with fail
  refine HR.out.mono ?_
  rintro e w4 ⟨rfl, h4, ho4⟩
  obtain ⟨b0, b1, b2, b3, _, _, _, _⟩ := a0.out.only ho4 (by simp; omega)
  have hQ := hid (q3.out.only ho4 (by simp; omega))
  obtain ⟨r0, r1, r2, r3, z0, z1, z2, z3⟩ := q3.out.only ho4 (by simp; omega)
  clear HR
  go_wp2_with fail
  have p4 := put4 (.slice ao ps.length cap) (.bool vo) (.int .i64 yd) (.string (str yn)) hQ.out.c0 hQ.out.c1 hQ.out.c2 hQ.out.c3
  have d0 := p4.1
  have d1 := p4.2.1
  have d2 := p4.2.2.1
  have d3 := p4.2.2.2
  refine bodyPost_ret (v := .agg #[.slice ao ps.length cap, .bool vo, .int .i64 yd, .string (str yn)]) (by simp [results, Tryz.results176, go_sem, d0, d1, d2, d3]) rfl ?_
  have oS : Only [w.heap.size] w4 ((((w4.setCell ⟨w.heap.size, 0, none⟩ (.slice ao ps.length cap)).setCell ⟨w.heap.size, 1, none⟩ (.bool vo)).setCell ⟨w.heap.size, 2, none⟩ (.int .i64 yd)).setCell ⟨w.heap.size, 3, none⟩ (.string (str yn))) := ((((Only.refl [w.heap.size] w4).setCell (.inl (by simp)) _).setCell (.inl (by simp)) _).setCell (.inl (by simp)) _).setCell (.inl (by simp)) _
  refine ⟨(ps, vo, yd, yn), _, ao, cap, rfl, hsh, own_mono (own_only (own_only hown ((oA.mono (S' := [sb]) (by simp)).trans ho4 (by simp)) (fun k hk => ?_)) oS (fun k hk => ?_)) (by omega), h4.other (by simp) (.inl hQ.out.c0) (by omega) oS, hos, ?_⟩
  ·have := (hown.lt k hk).1
   simp
   omega
  ·have := (hown.lt k hk).1
   simp
   omega
  ·exact (((o2.out.next ho3 (by simp)).next oA (by simp)).trans ho4 (by simp)).next oS (by simp)

set_option maxHeartbeats 4000000 in
theorem rhandler_any {w : World} {sb r d : Nat} {t : St} (h : Sc w sb r d t) :
  Calls Tryz.prog 178 #[.pointer (some ⟨sb, 0, none⟩)] w fun e w' => ∃ (x : Hd) (t' : St), e = .returned (hdV x) ∧ x.2.2.2.length ≤ 262144 ∧ Sc w' sb r d t' ∧ Out pHand t x t' ∧ Only [sb, r] w w' := by
 have o0 := (Only.refl [sb, r] w).alloc (.cells #[.int .i64 0, .int .i64 0, .int .i64 0, .string ⟨#[]⟩] 46)
 have h0 := h.only0 ((Only.refl [] w).alloc (.cells #[.int .i64 0, .int .i64 0, .int .i64 0, .string ⟨#[]⟩] 46))
 have hl := h.lt
 obtain ⟨rv, hrv⟩ : ∃ rv, rv = w.heap.size := ⟨_, rfl⟩
 have hr : rv ≠ sb ∧ rv ≠ r := by omega
 have hw : w.heap.size ≤ rv := by omega
 obtain ⟨gv, hgv⟩ := gv_ex rv
 replace hgv := hid hgv
 have hk := knew4 hgv.out h0.c0 o0 (by subst hrv; rw [cell_new]; rfl) (by subst hrv; rw [cell_new]; rfl) (by subst hrv; rw [cell_new]; rfl) (by subst hrv; rw [cell_new]; rfl) (by subst hrv; exact frozen_new _ _ _ _) (by subst hrv; exact frozen_new _ _ _ _) (by subst hrv; exact frozen_new _ _ _ _) (by subst hrv; exact frozen_new _ _ _ _)
 clear h
 replace hk := hid hk
 replace hrv := hid hrv
 go_enter Tryz.func178, Tryz.ntmps178
 go_wp2_with fail
 rw [← hrv.out]
 go_region_held3 (fun w' => w'.cell? ⟨sb, 0, none⟩ = some (.pointer (some ⟨r, 0, none⟩)) ∧ Only [sb, r] w w' ∧ w'.cell? ⟨rv, 0, none⟩ = some (gv 0 w') ∧ w'.cell? ⟨rv, 1, none⟩ = some (gv 1 w') ∧ w'.cell? ⟨rv, 2, none⟩ = some (gv 2 w') ∧ w'.cell? ⟨rv, 3, none⟩ = some (gv 3 w') ∧ w'.frozen? ⟨rv, 0, none⟩ = false ∧ w'.frozen? ⟨rv, 1, none⟩ = false ∧ w'.frozen? ⟨rv, 2, none⟩ = false ∧ w'.frozen? ⟨rv, 3, none⟩ = false)
  (first | (with_reducible exact hk.out) | (with_reducible exact kdrew4 hgv.out hk.out) | ((with_reducible refine kset4 hgv.out hr hw _ _ ?_); (with_reducible refine kset4 hgv.out hr hw _ _ ?_); (with_reducible refine kset4 hgv.out hr hw _ _ ?_); (with_reducible refine kset4 hgv.out hr hw _ _ ?_); (with_reducible assumption)) | (with_reducible exact kcall4 hgv.out hr (by assumption) (by assumption) (by assumption) (by simp)))
  (first
   | (go_at_call 77; (first | (with_reducible refine (sc_u2 (by assumption)).mono ?_) | (with_reducible refine (sc_u2 (Sc.drew (by assumption))).mono ?_)); rintro e w1 ⟨n, t', rfl, hn, hs, hO, ho⟩)
   | (go_at_call 138; (first | (with_reducible refine (sc_text (by assumption)).mono ?_) | (with_reducible refine (sc_text (Sc.drew (by assumption))).mono ?_)); rintro e w1 ⟨x, t', rfl, hx, hs, hO, ho⟩; obtain ⟨_, _, k0, k1, k2, k3, z0, z1, z2, z3⟩ := kcall4 hgv.out hr (by assumption) hs ho (by simp)))
 rename_i wa na ta hna hsa hOa hoa wb nb tb hnb hsb hOb hob wc tc hsc hOc hoc _ hOn hH
 clear hH k0 k1 k2 k3
 have hlv : rv < (w.alloc (.cells #[.int .i64 0, .int .i64 0, .int .i64 0, .string ⟨#[]⟩] 46)).heap.size := by have := hrv.out; simp; omega
 have hoa2 : Only [r] (w.alloc (.cells #[.int .i64 0, .int .i64 0, .int .i64 0, .string ⟨#[]⟩] 46)) w1 := ((((Only.refl [r] _).drew.trans hoa (by simp)).trans hob (by simp)).trans hoc (by simp)).trans ho (by simp)
 have g : ∀ i v, #[.int .i64 0, .int .i64 0, .int .i64 0, .string ⟨#[]⟩][i]? = some v → w1.cell? ⟨rv, i, none⟩ = some v := fun i v hv => (hoa2.cell (p := ⟨rv, i, none⟩) hlv (by simp [hr.2])).trans (by rw [hrv.out, cell_new, hv])
 have u0 := cell_setCell_same w1 (.int .i64 (na : Int)) (g 0 _ rfl)
 have oS : Only [rv] w1 ((((w1.setCell ⟨rv, 0, none⟩ (.int .i64 (na : Int))).setCell ⟨rv, 1, none⟩ (.int .i64 (nb : Int))).setCell ⟨rv, 2, none⟩ (.int .i64 (n : Int))).setCell ⟨rv, 3, none⟩ (.string (str x))) := ((((Only.refl [rv] w1).setCell (.inl (by simp)) _).setCell (.inl (by simp)) _).setCell (.inl (by simp)) _).setCell (.inl (by simp)) _
 have hfin := hs.other (by simp) (.inr (.inr (g 3 _ rfl))) (by omega) oS
 have hout : Out pHand t ((na : Int), (nb : Int), (n : Int), x) t' := out_bind hOa (out_bind hOb (out_bind hOc (out_bind hO (out_done _ _))))
 have e0 := g 0 _ rfl
 have e1 := g 1 _ rfl
 have e2 := g 2 _ rfl
 have e3 := g 3 _ rfl
 go_wp2_with fail
 refine bodyPost_ret (v := hdV ((na : Int), (nb : Int), (n : Int), x)) (by simp [results, Tryz.results178, go_sem, e0, e1, e2, e3, hdV]) rfl ?_
 exact ⟨_, t', rfl, hx, hfin, hout, hOn.next oS (by simp; omega)⟩

end Go.Proofs.YtildemmkhndhjaaGreatDoor
