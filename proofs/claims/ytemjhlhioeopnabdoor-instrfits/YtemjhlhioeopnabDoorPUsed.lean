/-
  The contracts of used, wrongName, wrongType, wrongSig, cmp.Or. No conditions.
-/
import Derived.Test.YtemjhlhioeopnabDoorPHas
namespace Go.Proofs.YtemjhlhioeopnabDoor
open Go.RowKit

/-- What is laid into a new entry. -/
theorem EnAt.put {w : World} {b : Nat} {e0 : En} (h : EnAt w b 0 e0) (e : En) :
    EnAt ((((((w.setCell ⟨b, 0, none⟩ (.int .i64 e.1)).setCell ⟨b, 1, none⟩ (.string (str e.2.1))).setCell ⟨b, 2, none⟩ (.int .i64 e.2.2.1)).setCell ⟨b, 3, none⟩ (.int .i64 e.2.2.2.1)).setCell ⟨b, 4, none⟩ (.int .i64 e.2.2.2.2.1)).setCell ⟨b, 5, none⟩ (.int .i64 e.2.2.2.2.2)) b 0 e := by
  obtain ⟨c0, c1, c2, c3, c4, c5⟩ := h
  simp only [Nat.zero_add] at c0 c1 c2 c3 c4 c5
  have n1 : ∀ {i j : Nat}, i ≠ j → (⟨b, i, none⟩ : Addr) ≠ ⟨b, j, none⟩ := fun h e => h (by injection e)
  refine ⟨?_, ?_, ?_, ?_, ?_, ?_⟩
  · rw [cell_setCell_ne _ _ (n1 (by decide)), cell_setCell_ne _ _ (n1 (by decide)), cell_setCell_ne _ _ (n1 (by decide)), cell_setCell_ne _ _ (n1 (by decide)), cell_setCell_ne _ _ (n1 (by decide))]
    exact cell_setCell_same _ _ c0
  · rw [cell_setCell_ne _ _ (n1 (by decide)), cell_setCell_ne _ _ (n1 (by decide)), cell_setCell_ne _ _ (n1 (by decide)), cell_setCell_ne _ _ (n1 (by decide))]
    exact cell_setCell_same _ _ (by rw [cell_setCell_ne _ _ (n1 (by decide))]; exact c1)
  · rw [cell_setCell_ne _ _ (n1 (by decide)), cell_setCell_ne _ _ (n1 (by decide)), cell_setCell_ne _ _ (n1 (by decide))]
    exact cell_setCell_same _ _ (by rw [cell_setCell_ne _ _ (n1 (by decide)), cell_setCell_ne _ _ (n1 (by decide))]; exact c2)
  · rw [cell_setCell_ne _ _ (n1 (by decide)), cell_setCell_ne _ _ (n1 (by decide))]
    exact cell_setCell_same _ _ (by rw [cell_setCell_ne _ _ (n1 (by decide)), cell_setCell_ne _ _ (n1 (by decide)), cell_setCell_ne _ _ (n1 (by decide))]; exact c3)
  · rw [cell_setCell_ne _ _ (n1 (by decide))]
    exact cell_setCell_same _ _ (by rw [cell_setCell_ne _ _ (n1 (by decide)), cell_setCell_ne _ _ (n1 (by decide)), cell_setCell_ne _ _ (n1 (by decide)), cell_setCell_ne _ _ (n1 (by decide))]; exact c4)
  · exact cell_setCell_same _ _ (by rw [cell_setCell_ne _ _ (n1 (by decide)), cell_setCell_ne _ _ (n1 (by decide)), cell_setCell_ne _ _ (n1 (by decide)), cell_setCell_ne _ _ (n1 (by decide)), cell_setCell_ne _ _ (n1 (by decide))]; exact c5)

theorem put6_only {w : World} {S : List Nat} {a : World} (h : Only S a w) {b : Nat} (hb : b ∈ S ∨ a.heap.size ≤ b) (v0 v1 v2 v3 v4 v5 : Value) :
    Only S a ((((((w.setCell ⟨b, 0, none⟩ v0).setCell ⟨b, 1, none⟩ v1).setCell ⟨b, 2, none⟩ v2).setCell ⟨b, 3, none⟩ v3).setCell ⟨b, 4, none⟩ v4).setCell ⟨b, 5, none⟩ v5) :=
  (((((h.setCell hb _).setCell hb _).setCell hb _).setCell hb _).setCell hb _).setCell hb _

theorem enAt_new2 (w : World) (o : Obj) (e : En) : EnAt ((w.alloc o).alloc (.cells #[.int .i64 e.1, .string (str e.2.1), .int .i64 e.2.2.1, .int .i64 e.2.2.2.1, .int .i64 e.2.2.2.2.1, .int .i64 e.2.2.2.2.2] 67)) (w.heap.size + 1) 0 e := by
  have E1 := enAt_new (w.alloc o) e 67
  rw [World.size_alloc] at E1
  exact E1

set_option maxHeartbeats 400000 in
set_option maxRecDepth 100000 in
theorem used_any (e : En) (w : World) : Calls Tryd.prog 36 #[enV e] w fun r w' => r = .returned (enV (usedE e)) ∧ Only [] w w' := by
  have hu : ∃ u, u = usedE e := ⟨_, rfl⟩
  obtain ⟨u, hu⟩ := hu
  rw [← hu]
  obtain ⟨k, t, n, a, b, c⟩ := e
  simp only [enV]
  by_cases h1 : k = 1
  · subst h1
    have e1 : u = (1, t, 0, 0, 0, 0) := by rw [hu]; simp [usedE]
    subst e1
    clear hu
    go_enter Tryd.func36, Tryd.ntmps36
    go_wp2
    exact bodyPost_ret (used_result (enAt_new2 w _ (1, t, 0, 0, 0, 0)) _ rfl) rfl ⟨rfl, ((Only.refl [] w).alloc _).alloc _⟩
  have g1 : (k == 1) = false := by simpa using h1
  by_cases h2 : k = 2
  · subst h2
    have e1 : u = (2, [], n, 0, 0, 0) := by rw [hu]; simp [usedE]
    subst e1
    clear hu h1 g1
    go_enter Tryd.func36, Tryd.ntmps36
    go_wp2
    exact bodyPost_ret (used_result (enAt_new2 w _ (2, [], n, 0, 0, 0)) _ rfl) rfl ⟨rfl, ((Only.refl [] w).alloc _).alloc _⟩
  have g2 : (k == 2) = false := by simpa using h2
  by_cases h3 : k = 3
  · subst h3
    have e1 : u = (3, [], 0, a, 0, 0) := by rw [hu]; simp [usedE]
    subst e1
    clear hu h1 g1 h2 g2
    go_enter Tryd.func36, Tryd.ntmps36
    go_wp2
    exact bodyPost_ret (used_result (enAt_new2 w _ (3, [], 0, a, 0, 0)) _ rfl) rfl ⟨rfl, ((Only.refl [] w).alloc _).alloc _⟩
  have g3 : (k == 3) = false := by simpa using h3
  by_cases h4 : k = 4
  · subst h4
    have e1 : u = (4, [], 0, a, 0, 0) := by rw [hu]; simp [usedE]
    subst e1
    clear hu h1 g1 h2 g2 h3 g3
    go_enter Tryd.func36, Tryd.ntmps36
    go_wp2
    exact bodyPost_ret (used_result (enAt_new2 w _ (4, [], 0, a, 0, 0)) _ rfl) rfl ⟨rfl, ((Only.refl [] w).alloc _).alloc _⟩
  have g4 : (k == 4) = false := by simpa using h4
  have e1 : u = (k, [], 0, a, b, c) := by rw [hu]; simp [usedE, h1, h2, h3, h4]
  subst e1
  clear hu h1 h2 h3 h4
  go_enter Tryd.func36, Tryd.ntmps36
  go_wp2
  exact bodyPost_ret (used_result (enAt_new2 w _ (k, [], 0, a, b, c)) _ rfl) rfl ⟨rfl, ((Only.refl [] w).alloc _).alloc _⟩

/-- The text of a number lies in memory. -/
theorem text_cell {w : World} {ao : Option Addr} {l : List En} {d : Nat} (hE : ES w ao l d) {i : Int} {s : List UInt8} (h : textAt l i = some s) :
    ∃ (j off : Nat), i = (j : Int) ∧ j < l.length ∧ ao = some ⟨d, off, none⟩ ∧ w.cell? ⟨d, off + j * 6 + 1, none⟩ = some (.string (str s)) ∧ ∃ e ∈ l, e.2.1 = s := by
  unfold textAt at h
  split at h
  · rename_i e he
    split at h
    · obtain ⟨j, hj, rfl, rfl⟩ := enAt_some he
      simp at h
      obtain ⟨off, ha, hc⟩ := hE.at hj
      exact ⟨j, off, rfl, hj, ha, by rw [← h]; exact hc.c1, l[j], List.getElem_mem hj, h⟩
    · cases h
  · cases h

theorem hasE_text (l : List En) (i : Int) : hasE l i 1 = (textAt l i).isSome := by
  unfold hasE textAt
  split
  · rename_i e he
    by_cases h : e.1 = 1 <;> simp [h]
  · rfl

end Go.Proofs.YtemjhlhioeopnabDoor
