/-
  Rows of what is known that are written in their place. No conditions.
-/
import Derived.Test.YtpjkgdkebkkjeaaGreatDoorFC3
namespace Go.Proofs.YtpjkgdkebkkjeaaGreatDoor
open Go.RowKit

/-- One in the place of another one. -/
def swV (a b : Vt) (x : Vt) : Vt := if x = a then b else x
/-- A row in block g that is written. -/
structure Wr4 (w : World) (v : Value) (l : List Vt) (g : Nat) : Prop where
  shape : ∃ ao cap, v = .slice ao l.length cap ∧ (ao = none → cap = 0) ∧ (l ≠ [] → ao = some ⟨g, 0, none⟩)
  cell : ∀ j u, (vcs l)[j]? = some u → w.cell? ⟨g, j, none⟩ = some u
  free : l ≠ [] → ∀ j, w.frozen? ⟨g, j, none⟩ = false
  lt : l ≠ [] → g < w.heap.size

theorem Wr4.rd {w : World} {v : Value} {l : List Vt} {g : Nat} (h : Wr4 w v l g) : Rd w v l := by
  obtain ⟨ao, cap, h1, h2, h3⟩ := h.shape
  refine ⟨ao, cap, g, h1, ?_, h2⟩
  by_cases hl : l = []
  · exact .inl (by rw [hl]; rfl)
  · exact .inr ⟨0, h3 hl, fun j u hj => by rw [Nat.zero_add]; exact h.cell j u hj⟩

theorem Wr4.only {w w' : World} {S : List Nat} {v : Value} {l : List Vt} {g : Nat} (h : Wr4 w v l g) (ho : Only S w w') (hn : g ∉ S) : Wr4 w' v l g := by
  refine ⟨h.shape, fun j u hj => ?_, fun hl j => ?_, fun hl => Nat.lt_of_lt_of_le (h.lt hl) ho.size⟩
  · have hc := h.cell j u hj
    rw [ho.cell (World.block_lt_of_cell? w _ hc) hn]
    exact hc
  · rw [ho.frozen (h.lt hl) hn]
    exact h.free hl j

theorem vcs_nil {l : List Vt} (h : vcs l = []) : l = [] := by cases l with | nil => rfl | cons a l => simp [vcs] at h

theorem Wr4.of_owns {w : World} {B : Nat} {v : Value} {l : List Vt} (h : OwV w B v l) : ∃ g, Wr4 w v l g ∧ (l ≠ [] → v.ownBlock = some g ∧ B ≤ g) ∧ (l = [] → g = 0) := by
  rcases h.2 with ⟨rfl, h0⟩ | ⟨g, cap, cur, rfl, hb, hg, hn, hm, hs, ht⟩
  · have : l = [] := List.eq_nil_of_length_eq_zero h0
    subst this
    exact ⟨0, ⟨⟨none, 0, rfl, fun _ => rfl, fun h => absurd rfl h⟩, fun j u hj => by simp [vcs] at hj, fun h => absurd rfl h, fun h => absurd rfl h⟩, fun h => absurd rfl h, fun _ => rfl⟩
  · by_cases hl : l = []
    · subst hl
      exact ⟨0, ⟨⟨some ⟨g, 0, none⟩, cap, rfl, (fun h => by cases h), fun h => absurd rfl h⟩, fun j u hj => by simp [vcs] at hj, fun h => absurd rfl h, fun h => absurd rfl h⟩, fun h => absurd rfl h, fun _ => rfl⟩
    · refine ⟨g, ⟨⟨some ⟨g, 0, none⟩, cap, rfl, (fun h => by cases h), fun _ => rfl⟩, fun j u hj => ?_, fun _ j => ?_, fun _ => (Array.getElem?_eq_some_iff.1 hg).1⟩, fun _ => ⟨rfl, hb⟩, fun h => absurd h hl⟩
      · have := h.cells (g := g) rfl j u hj
        rw [Addr.add_lit, Nat.zero_add] at this
        exact this
      · simp [World.frozen?, hg]

/-- A frame's four cells of what is known are written. -/
def set4 (w : World) (g o : Nat) (x : Vt) : World := (((w.setCell ⟨g, o, none⟩ (.int .i64 x.1)).setCell ⟨g, o + 1, none⟩ (.int .i64 x.2.1)).setCell ⟨g, o + 2, none⟩ (.string (str x.2.2.1))).setCell ⟨g, o + 3, none⟩ (.int .i64 x.2.2.2)
theorem set4_only (w : World) (g o : Nat) (x : Vt) : Only [g] w (set4 w g o x) :=
  ((((Only.refl [g] w).setCell (.inl (by simp)) _).setCell (.inl (by simp)) _).setCell (.inl (by simp)) _).setCell (.inl (by simp)) _
theorem set4_other {w : World} {g o j : Nat} {x : Vt} (h : j < o ∨ o + 4 ≤ j) : (set4 w g o x).cell? ⟨g, j, none⟩ = w.cell? ⟨g, j, none⟩ := by
  have ne : ∀ i, i < 4 → (⟨g, o + i, none⟩ : Addr) ≠ ⟨g, j, none⟩ := fun i hi e => by
    injection e with _ e
    omega
  have n0 := ne 0 (by omega)
  rw [Nat.add_zero] at n0
  unfold set4
  rw [cell_setCell_ne _ _ (ne 3 (by omega)), cell_setCell_ne _ _ (ne 2 (by omega)), cell_setCell_ne _ _ (ne 1 (by omega)), cell_setCell_ne _ _ n0]
theorem set4_at {w : World} {g o : Nat} {x : Vt} (h : ∀ j, j < 4 → ∃ u, w.cell? ⟨g, o + j, none⟩ = some u) : VtAt (set4 w g o x) g o x := by
  obtain ⟨u0, h0⟩ := h 0 (by omega)
  obtain ⟨u1, h1⟩ := h 1 (by omega)
  obtain ⟨u2, h2⟩ := h 2 (by omega)
  obtain ⟨u3, h3⟩ := h 3 (by omega)
  rw [Nat.add_zero] at h0
  unfold set4
  refine ⟨?_, ?_, ?_, ?_⟩
  · rw [cell_setCell_ne _ _ (by simp), cell_setCell_ne _ _ (by simp), cell_setCell_ne _ _ (by simp)]
    exact cell_setCell_same _ _ h0
  · rw [cell_setCell_ne _ _ (by simp), cell_setCell_ne _ _ (by simp)]
    exact cell_setCell_same _ _ (by rw [cell_setCell_ne _ _ (by simp)]; exact h1)
  · rw [cell_setCell_ne _ _ (by simp)]
    exact cell_setCell_same _ _ (by rw [cell_setCell_ne _ _ (by simp), cell_setCell_ne _ _ (by simp)]; exact h2)
  · exact cell_setCell_same _ _ (by rw [cell_setCell_ne _ _ (by simp), cell_setCell_ne _ _ (by simp), cell_setCell_ne _ _ (by simp)]; exact h3)
theorem set4_frozen (w : World) (g o : Nat) (x : Vt) (a : Addr) : (set4 w g o x).frozen? a = w.frozen? a := by simp only [set4, frozen_setCell]

theorem vcs_at {l : List Vt} {j : Nat} {u : Value} (h : (vcs l)[j]? = some u) : ∃ (hk : j / 4 < l.length), (j % 4 = 0 ∧ u = .int .i64 l[j / 4].1) ∨ (j % 4 = 1 ∧ u = .int .i64 l[j / 4].2.1) ∨ (j % 4 = 2 ∧ u = .string (str l[j / 4].2.2.1)) ∨ (j % 4 = 3 ∧ u = .int .i64 l[j / 4].2.2.2) := by
  have hj : j < l.length * 4 := by
    have := (List.getElem?_eq_some_iff.1 h).1
    rwa [vcs_length] at this
  have hk : j / 4 < l.length := by omega
  refine ⟨hk, ?_⟩
  obtain ⟨g0, g1, g2, g3⟩ := vcs_get l (j / 4) hk
  rcases (by omega : j % 4 = 0 ∨ j % 4 = 1 ∨ j % 4 = 2 ∨ j % 4 = 3) with e | e | e | e
  · rw [show j / 4 * 4 = j by omega, h] at g0
    exact .inl ⟨e, by simpa using g0⟩
  · rw [show j / 4 * 4 + 1 = j by omega, h] at g1
    exact .inr (.inl ⟨e, by simpa using g1⟩)
  · rw [show j / 4 * 4 + 2 = j by omega, h] at g2
    exact .inr (.inr (.inl ⟨e, by simpa using g2⟩))
  · rw [show j / 4 * 4 + 3 = j by omega, h] at g3
    exact .inr (.inr (.inr ⟨e, by simpa using g3⟩))

theorem vcs_cell {w : World} {g : Nat} {l : List Vt} (h : ∀ i (hi : i < l.length), VtAt w g (i * 4) l[i]) : ∀ j u, (vcs l)[j]? = some u → w.cell? ⟨g, j, none⟩ = some u := fun j u hj => by
  obtain ⟨hk, hu⟩ := vcs_at hj
  obtain ⟨c0, c1, c2, c3⟩ := h (j / 4) hk
  rcases hu with ⟨e, rfl⟩ | ⟨e, rfl⟩ | ⟨e, rfl⟩ | ⟨e, rfl⟩
  · rwa [show j / 4 * 4 = j by omega] at c0
  · rwa [show j / 4 * 4 + 1 = j by omega] at c1
  · rwa [show j / 4 * 4 + 2 = j by omega] at c2
  · rwa [show j / 4 * 4 + 3 = j by omega] at c3
theorem Wr4.one {w : World} {v : Value} {l : List Vt} {g : Nat} (h : Wr4 w v l g) {i : Nat} (hi : i < l.length) : VtAt w g (i * 4) l[i] := by
  obtain ⟨g0, g1, g2, g3⟩ := vcs_get l i hi
  exact ⟨h.cell _ _ g0, h.cell _ _ g1, h.cell _ _ g2, h.cell _ _ g3⟩
/-- One of a row is written over. -/
theorem Wr4.set {w : World} {v : Value} {l : List Vt} {g : Nat} (h : Wr4 w v l g) {i : Nat} (hi : i < l.length) (x : Vt) : Wr4 (set4 w g (i * 4) x) v (l.set i x) g := by
  have hne : l ≠ [] := by rintro rfl; simp at hi
  obtain ⟨ao, cap, h1, h2, h3⟩ := h.shape
  have hone := h.one hi
  have hat : VtAt (set4 w g (i * 4) x) g (i * 4) x := set4_at fun j hj => by
    rcases (by omega : j = 0 ∨ j = 1 ∨ j = 2 ∨ j = 3) with rfl | rfl | rfl | rfl
    · exact ⟨_, hone.c0⟩
    · exact ⟨_, hone.c1⟩
    · exact ⟨_, hone.c2⟩
    · exact ⟨_, hone.c3⟩
  refine ⟨⟨ao, cap, by rw [List.length_set]; exact h1, h2, fun _ => h3 hne⟩, vcs_cell fun k hk => ?_, fun _ j => by rw [set4_frozen]; exact h.free hne j, fun _ => Nat.lt_of_lt_of_le (h.lt hne) (set4_only w g (i * 4) x).size⟩
  have hk' : k < l.length := by rw [List.length_set] at hk; exact hk
  by_cases e : k = i
  · subst e
    rw [List.getElem_set_self]
    exact hat
  · rw [List.getElem_set_ne (fun h => e h.symm)]
    obtain ⟨c0, c1, c2, c3⟩ := h.one hk'
    exact ⟨by rw [set4_other (by omega)]; exact c0, by rw [set4_other (by omega)]; exact c1, by rw [set4_other (by omega)]; exact c2, by rw [set4_other (by omega)]; exact c3⟩

/-- A row of which the first ones are turned. -/
def part4 (a b : Vt) (i : Nat) (l : List Vt) : List Vt := (l.take i).map (swV a b) ++ l.drop i
theorem part4_zero (a b : Vt) (l : List Vt) : part4 a b 0 l = l := by simp [part4]
theorem part4_all (a b : Vt) (l : List Vt) : part4 a b l.length l = l.map (swV a b) := by simp [part4]
theorem part4_length (a b : Vt) (i : Nat) (l : List Vt) : (part4 a b i l).length = l.length := by simp [part4]; omega
theorem part4_at {a b : Vt} {i : Nat} {l : List Vt} (h : i < l.length) : (part4 a b i l)[i]'(by rw [part4_length]; exact h) = l[i] := by
  simp only [part4]
  rw [List.getElem_append_right (by simp; omega)]
  simp
  congr 1
  omega
theorem part4_same {a b : Vt} {i : Nat} {l : List Vt} (h : i < l.length) (hn : l[i] ≠ a) : part4 a b (i + 1) l = part4 a b i l := by
  simp only [part4, List.take_add_one, List.getElem?_eq_getElem h, Option.toList_some, List.map_append, List.map_cons, List.map_nil]
  have : swV a b l[i] = l[i] := if_neg hn
  rw [this, List.append_assoc, List.singleton_append, List.getElem_cons_drop]
theorem part4_set {a b : Vt} {i : Nat} {l : List Vt} (h : i < l.length) (hn : l[i] = a) : part4 a b (i + 1) l = (part4 a b i l).set i b := by
  simp only [part4, List.take_add_one, List.getElem?_eq_getElem h, Option.toList_some, List.map_append, List.map_cons, List.map_nil]
  have : swV a b l[i] = b := if_pos hn
  rw [this, List.set_append, if_neg (by simp; omega)]
  have e : i - ((l.take i).map (swV a b)).length = 0 := by simp; omega
  have e2 : l.drop i = l[i] :: l.drop (i + 1) := (List.getElem_cons_drop h).symm
  rw [e, e2, List.set_cons_zero, List.append_assoc, List.singleton_append]

end Go.Proofs.YtpjkgdkebkkjeaaGreatDoor
