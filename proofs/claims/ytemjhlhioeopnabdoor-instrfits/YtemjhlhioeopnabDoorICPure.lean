/-
  What follows of Check: whether code is taken, by its parts; how it hangs on the number of locals. No conditions.
-/
import Derived.Test.YtemjhlhioeopnabDoorIKnown
import Derived.Test.YtemjhlhioeopnabDoorICheck3
namespace Go.Proofs.YtemjhlhioeopnabDoor
open Go.RowKit

/-- One more than the greatest local that is named. -/
def mostL : List In → Int → Int
  | [], m => m
  | i :: r, m => mostL r (if i.2.1 = 3 ∨ i.2.1 = 4 then max m (i.2.2.1 + 1) else m)

theorem mostL_spec (l : List In) : ∀ (m x : Int), (mostL l m ≤ x ↔ m ≤ x ∧ ∀ i ∈ l, (i.2.1 = 3 ∨ i.2.1 = 4) → i.2.2.1 + 1 ≤ x) := by
  induction l with
  | nil => intro m x; simp [mostL]
  | cons i r ih =>
    intro m x
    rw [mostL, ih]
    by_cases h : i.2.1 = 3 ∨ i.2.1 = 4
    · rw [if_pos h]
      constructor
      · rintro ⟨h1, h2⟩
        refine ⟨by omega, fun j hj hr => ?_⟩
        rcases List.mem_cons.1 hj with rfl | hj
        · omega
        · exact h2 j hj hr
      · rintro ⟨h1, h2⟩
        have := h2 i (by simp) h
        exact ⟨by omega, fun j hj hr => h2 j (by simp [hj]) hr⟩
    · rw [if_neg h]
      constructor
      · rintro ⟨h1, h2⟩
        refine ⟨h1, fun j hj hr => ?_⟩
        rcases List.mem_cons.1 hj with rfl | hj
        · exact absurd hr h
        · exact h2 j hj hr
      · rintro ⟨h1, h2⟩
        exact ⟨h1, fun j hj hr => h2 j (by simp [hj]) hr⟩

theorem mostL_drop {l : List In} {m : Int} {j : Nat} (h : j < l.length) : mostL (l.drop j) m = mostL (l.drop (j + 1)) (if l[j].2.1 = 3 ∨ l[j].2.1 = 4 then max m (l[j].2.2.1 + 1) else m) := by
  rw [List.drop_eq_getElem_cons h, mostL]

theorem row_local (op : Int) : rowI op = 2 ↔ op = 3 ∨ op = 4 := by
  unfold rowI
  repeat' split
  all_goals omega

theorem checkL_ok {all : List In} {l : List En} {locals : Int} {r : List In} : (checkL all l locals r).2 = 0 ↔ ∀ i ∈ r, wrongI all l locals i = 0 := by
  induction r with
  | nil => simp [checkL]
  | cons i r ih =>
    rw [checkL]
    by_cases h : wrongI all l locals i = 0
    · rw [if_pos h, ih]
      simp [h]
    · rw [if_neg h]
      simp [h]

theorem checkL_err {all : List In} {l : List En} {locals : Int} {r : List In} (P : Int → Prop) (h : ∀ i ∈ r, wrongI all l locals i = 0 ∨ P (wrongI all l locals i)) : (checkL all l locals r).2 = 0 ∨ P (checkL all l locals r).2 := by
  induction r with
  | nil => left; rfl
  | cons i r ih =>
    rw [checkL]
    by_cases h0 : wrongI all l locals i = 0
    · rw [if_pos h0]
      exact ih fun j hj => h j (by simp [hj])
    · rw [if_neg h0]
      right
      rcases h i (by simp) with q | q
      · exact absurd q h0
      · exact q

/-- Whether code is taken, by its parts. -/
theorem check_parts {code : List UInt8} {l : List En} {locals : Int} (h : (checkI code l locals).2 = 0) : code ≠ [] ∧ code.length ≤ 1024 ∧ (allR code).2.2 = 0 ∧ (∀ i ∈ (allR code).1, wrongI (allR code).1 l locals i = 0) ∧ ∀ k, checkI code l k = checkL (allR code).1 l k (allR code).1 := by
  unfold checkI at h
  by_cases h0 : code = []
  · rw [if_pos h0] at h
    simp at h
  rw [if_neg h0] at h
  by_cases h1 : 1024 < code.length
  · rw [if_pos h1] at h
    simp at h
  rw [if_neg h1] at h
  by_cases h2 : (allR code).2.2 = 0
  · rw [if_pos h2] at h
    refine ⟨h0, by omega, h2, checkL_ok.1 h, fun k => ?_⟩
    unfold checkI
    rw [if_neg h0, if_neg h1, if_pos h2]
  · rw [if_neg h2] at h
    exact absurd h h2

theorem wrong_locals {all : List In} {l : List En} {i : In} {k m : Int} (h : wrongI all l k i = 0) : (rowI i.2.1 = 2 ∧ wrongI all l m i = if m ≤ i.2.2.1 then 43 else 0) ∨ (rowI i.2.1 ≠ 2 ∧ wrongI all l m i = 0) := by
  unfold wrongI at h ⊢
  by_cases h2 : rowI i.2.1 = 2
  · left
    rw [if_pos h2]
    exact ⟨h2, rfl⟩
  · right
    rw [if_neg h2] at h ⊢
    exact ⟨h2, h⟩

theorem locals_pure {code : List UInt8} {l : List En} (h : (checkI code l 256).2 = 0) (m : Int) :
    ((checkI code l m).2 = 0 ∨ (checkI code l m).2 = 43) ∧ ((checkI code l m).2 = 0 ↔ (mostL (allR code).1 0 = 0 ∨ mostL (allR code).1 0 ≤ m)) := by
  obtain ⟨_, _, _, hw, hk⟩ := check_parts h
  have hev := all_each code
  rw [hk m]
  refine ⟨checkL_err (fun x => x = 43) fun i hi => ?_, ?_⟩
  · rcases wrong_locals (m := m) (hw i hi) with ⟨_, e⟩ | ⟨_, e⟩
    · rw [e]
      split
      · exact .inr rfl
      · exact .inl rfl
    · exact .inl e
  · rw [checkL_ok]
    have hz : (0 : Int) ≤ mostL (allR code).1 0 := by
      have := (mostL_spec (allR code).1 0 (mostL (allR code).1 0)).1 (Int.le_refl _)
      exact this.1
    constructor
    · intro hall
      by_cases h0 : mostL (allR code).1 0 = 0
      · exact .inl h0
      · right
        have key : ∀ i ∈ (allR code).1, (i.2.1 = 3 ∨ i.2.1 = 4) → i.2.2.1 + 1 ≤ m := by
          intro i hi hr
          have e := hall i hi
          rcases wrong_locals (m := m) (hw i hi) with ⟨_, e'⟩ | ⟨hn, _⟩
          · rw [e'] at e
            split at e
            · exact absurd e (by decide)
            · omega
          · exact absurd ((row_local _).2 hr) hn
        refine (mostL_spec _ 0 m).2 ⟨?_, key⟩
        by_cases h1 : ∃ i ∈ (allR code).1, i.2.1 = 3 ∨ i.2.1 = 4
        · obtain ⟨i, hi, hr⟩ := h1
          have := key i hi hr
          have := (hev i hi).2.2.2.2.2.2.1
          omega
        · exfalso
          have := (mostL_spec (allR code).1 0 0).2 ⟨Int.le_refl _, fun i hi hr => absurd ⟨i, hi, hr⟩ h1⟩
          omega
    · intro hm i hi
      rcases wrong_locals (m := m) (hw i hi) with ⟨hr, e⟩ | ⟨_, e⟩
      · have hr' := (row_local _).1 hr
        have h1 := ((mostL_spec (allR code).1 0 (mostL (allR code).1 0)).1 (Int.le_refl _)).2 i hi hr'
        have h2 := (hev i hi).2.2.2.2.2.2.1
        rw [e, if_neg]
        rcases hm with hm | hm <;> omega
      · exact e

theorem all_err_nil {code : List UInt8} (h : (allR code).2.2 ≠ 0) : (allR code).1 = [] := (all_place h).1

end Go.Proofs.YtemjhlhioeopnabDoor
