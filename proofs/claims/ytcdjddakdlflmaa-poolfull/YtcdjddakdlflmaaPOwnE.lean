/-
  Entries that are written into a row of one's own; how long a builder's list gets. No conditions.
-/
import Derived.Test.YtcdjddakdlflmaaPTold
import Derived.Laws.OwnMore
namespace Go.Proofs.Ytcdjddakdlflmaa
open Go.RowKit

theorem ecs_set (l : List En) (j : Nat) (h : j < l.length) (e : En) : ecs (l.set j e) = ((((((ecs l).set (j * 6) (.int .i64 e.1)).set (j * 6 + 1) (.string (str e.2.1))).set (j * 6 + 2) (.int .i64 e.2.2.1)).set (j * 6 + 3) (.int .i64 e.2.2.2.1)).set (j * 6 + 4) (.int .i64 e.2.2.2.2.1)).set (j * 6 + 5) (.int .i64 e.2.2.2.2.2) := by
  induction l generalizing j with
  | nil => simp at h
  | cons a l ih =>
    cases j with
    | zero => rfl
    | succ j =>
      have := ih j (by simpa using h)
      simp only [List.set_cons_succ, ecs, Nat.add_mul, Nat.one_mul]
      rw [this]

theorem owe_put {w : World} {B g cap : Nat} {l : List En} (h : OwE w B (.slice (some ⟨g, 0, none⟩) l.length cap) l) (j : Nat) (hj : j < l.length) (e : En) :
    OwE ((((((w.setCell ⟨g, j * 6, none⟩ (.int .i64 e.1)).setCell ⟨g, j * 6 + 1, none⟩ (.string (str e.2.1))).setCell ⟨g, j * 6 + 2, none⟩ (.int .i64 e.2.2.1)).setCell ⟨g, j * 6 + 3, none⟩ (.int .i64 e.2.2.2.1)).setCell ⟨g, j * 6 + 4, none⟩ (.int .i64 e.2.2.2.2.1)).setCell ⟨g, j * 6 + 5, none⟩ (.int .i64 e.2.2.2.2.2)) B (.slice (some ⟨g, 0, none⟩) l.length cap) (l.set j e) := by
  unfold OwE
  rw [List.length_set, ecs_set l j hj]
  exact ((((((h.stored (j * 6) (.int .i64 e.1)).1.stored (j * 6 + 1) (.string (str e.2.1))).1.stored (j * 6 + 2) (.int .i64 e.2.2.1)).1.stored (j * 6 + 3) (.int .i64 e.2.2.2.1)).1.stored (j * 6 + 4) (.int .i64 e.2.2.2.2.1)).1.stored (j * 6 + 5) (.int .i64 e.2.2.2.2.2)).1

theorem six_only (w : World) (g i0 i1 i2 i3 i4 i5 : Nat) (x0 x1 x2 x3 x4 x5 : Value) : Only [g] w ((((((w.setCell ⟨g, i0, none⟩ x0).setCell ⟨g, i1, none⟩ x1).setCell ⟨g, i2, none⟩ x2).setCell ⟨g, i3, none⟩ x3).setCell ⟨g, i4, none⟩ x4).setCell ⟨g, i5, none⟩ x5) :=
  ((((((Only.refl [g] w).setCell (.inl (by simp)) _).setCell (.inl (by simp)) _).setCell (.inl (by simp)) _).setCell (.inl (by simp)) _).setCell (.inl (by simp)) _).setCell (.inl (by simp)) _

theorem fit_len' (l : List En) (hl : l.length ≤ 4096) (x : List En × Int) : (fitE l.length x).1.length ≤ 4096 := by
  unfold fitE
  split
  · simp
    omega
  · simp only
    omega

theorem callB_len (l : List En) (hl : l.length ≤ 4096) (x : Cal) : (callB l x).1.length ≤ 4096 := by
  unfold callB
  split
  · unfold textB
    split
    · exact fit_len' l hl _
    · exact hl
  split
  · exact fit_len' l hl _
  split
  · unfold classB
    split
    · exact fit_len' l hl _
    · exact hl
  split
  · unfold typeB
    split
    · exact fit_len' l hl _
    · exact hl
  split
  · unfold fieldB
    split
    · split
      · exact fit_len' l hl _
      · exact hl
    · exact hl
  split
  · unfold methodB
    split
    · split
      · split
        · exact fit_len' l hl _
        · exact hl
      · exact hl
    · exact hl
  · exact hl

theorem newE_len (l : List En) : (newE l).length ≤ 4096 := by
  unfold newE
  split
  · rename_i h
    unfold checkE at h
    split at h
    · cases h
    · omega
  · simp

end Go.Proofs.Ytcdjddakdlflmaa
