/-
  What is known of a list of which every entry is right. No conditions.
-/
import Derived.Test.YtcdjddakdlflmabPLaws
namespace Go.Proofs.Ytcdjddakdlflmab

theorem check_all {l : List En} (h : (checkE l).2 = 0) : l.length ≤ 4096 ∧ ∀ e ∈ l, wrongE l e = 0 := by
  unfold checkE at h
  split at h
  · cases h
  · refine ⟨by omega, ?_⟩
    have key : ∀ (r : List En) (i : Nat), (firstWrong l r i).2 = 0 → ∀ e ∈ r, wrongE l e = 0 := by
      intro r
      induction r with
      | nil => intro i _ e he; cases he
      | cons x r ih =>
        intro i hi e he
        unfold firstWrong at hi
        split at hi
        · rename_i hx
          rcases List.mem_cons.1 he with rfl | he
          · exact hx
          · exact ih (i + 1) hi e he
        · rename_i hx
          exact absurd hi hx
    exact key l 0 h

theorem check_of_all {l : List En} (hl : l.length ≤ 4096) (h : ∀ e ∈ l, wrongE l e = 0) : checkE l = (0, 0) := by
  unfold checkE
  rw [if_neg (by omega)]
  exact firstWrong_ok h

theorem right_kind {l : List En} (hall : ∀ e ∈ l, wrongE l e = 0) (j : Nat) (hj : j < l.length) (kind : Int) : rightE l (j : Int) kind = if l[j].1 = kind then (l[j], 0) else (en0, 16) := by
  unfold rightE
  rw [enAt_nat j hj]
  simp only [hall l[j] (List.getElem_mem hj), if_true]

theorem class_ok {l : List En} (hall : ∀ e ∈ l, wrongE l e = 0) {i : Int} (h : hasE l i 3 = true) : (classR l i).2 = 0 := by
  obtain ⟨e, he, hk⟩ := hasE_kind h
  obtain ⟨j, hj, rfl, rfl⟩ := enAt_some he
  unfold classR
  rw [right_kind hall j hj 3, if_pos hk]
  simp

theorem kind_class {l : List En} (hall : ∀ e ∈ l, wrongE l e = 0) (j : Nat) (hj : j < l.length) : (classR l (j : Int)).2 = if l[j].1 = 3 then 0 else 16 := by
  unfold classR
  rw [right_kind hall j hj 3]
  by_cases hk : l[j].1 = 3 <;> simp [hk]

theorem kind_type {l : List En} (hall : ∀ e ∈ l, wrongE l e = 0) (j : Nat) (hj : j < l.length) : (typeAtR l (j : Int)).2 = if l[j].1 = 4 then 0 else 16 := by
  unfold typeAtR
  rw [right_kind hall j hj 4]
  by_cases hk : l[j].1 = 4
  · obtain ⟨s, hs, hz⟩ := wrong_type (hall l[j] (List.getElem_mem hj)) hk
    simp [hk, textAt_textOf hs, hz]
  · simp [hk]

theorem kind_member {l : List En} (hall : ∀ e ∈ l, wrongE l e = 0) (j : Nat) (hj : j < l.length) (kind : Int) (hkd : kind = 5 ∨ kind = 6) :
    memberR l (j : Int) kind = if l[j].1 = kind then (((classR l l[j].2.2.2.1).1, textOf l l[j].2.2.2.2.1, textOf l l[j].2.2.2.2.2), 0) else (([], [], []), 16) := by
  unfold memberR
  rw [right_kind hall j hj kind]
  by_cases hk : l[j].1 = kind
  · have hc : hasE l l[j].2.2.2.1 3 = true := by
      rcases hkd with rfl | rfl
      · exact (wrong_field (hall l[j] (List.getElem_mem hj)) hk).1
      · exact (wrong_method (hall l[j] (List.getElem_mem hj)) hk).1
    simp [hk, class_ok hall hc]
  · simp [hk]

theorem kind_field {l : List En} (hall : ∀ e ∈ l, wrongE l e = 0) (j : Nat) (hj : j < l.length) : (fieldR l (j : Int)).2 = if l[j].1 = 5 then 0 else 16 := by
  unfold fieldR
  rw [kind_member hall j hj 5 (.inl rfl)]
  by_cases hk : l[j].1 = 5
  · obtain ⟨_, _, s, hs, hz⟩ := wrong_field (hall l[j] (List.getElem_mem hj)) hk
    simp [hk, textAt_textOf hs, hz]
  · simp [hk]

theorem kind_method {l : List En} (hall : ∀ e ∈ l, wrongE l e = 0) (j : Nat) (hj : j < l.length) : (methodR l (j : Int)).2 = if l[j].1 = 6 then 0 else 16 := by
  unfold methodR
  rw [kind_member hall j hj 6 (.inr rfl)]
  by_cases hk : l[j].1 = 6
  · obtain ⟨_, _, s, hs, hz⟩ := wrong_method (hall l[j] (List.getElem_mem hj)) hk
    simp [hk, textAt_textOf hs, hz]
  · simp [hk]

theorem kind_text {l : List En} (hall : ∀ e ∈ l, wrongE l e = 0) (j : Nat) (hj : j < l.length) : (textR l (j : Int)).2 = if l[j].1 = 1 then 0 else 16 := by
  unfold textR
  rw [right_kind hall j hj 1]
  by_cases hk : l[j].1 = 1 <;> simp [hk]

theorem kind_number {l : List En} (hall : ∀ e ∈ l, wrongE l e = 0) (j : Nat) (hj : j < l.length) : (numberR l (j : Int)).2 = if l[j].1 = 2 then 0 else 16 := by
  unfold numberR
  rw [right_kind hall j hj 2]
  by_cases hk : l[j].1 = 2 <;> simp [hk]

end Go.Proofs.Ytcdjddakdlflmab
