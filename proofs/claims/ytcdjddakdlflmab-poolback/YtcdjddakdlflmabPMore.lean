/-
  What more entries behind change of what an entry says: nothing. No conditions.
-/
import Derived.Test.YtcdjddakdlflmabPAll
namespace Go.Proofs.Ytcdjddakdlflmab

theorem enAt_more {l m : List En} {i : Int} {e : En} (h : enAt l i = some e) : enAt (l ++ m) i = some e := by
  obtain ⟨j, hj, rfl, rfl⟩ := enAt_some h
  rw [enAt_nat j (by simp; omega)]
  rw [List.getElem_append_left hj]

theorem hasE_more {l m : List En} {i k : Int} (h : hasE l i k = true) : hasE (l ++ m) i k = true := by
  obtain ⟨e, he, hk⟩ := hasE_kind h
  unfold hasE
  rw [enAt_more he]
  simp [hk]

theorem textAt_more {l m : List En} {i : Int} {s : List UInt8} (h : textAt l i = some s) : textAt (l ++ m) i = some s := by
  obtain ⟨e, he, hk, hs⟩ := textAt_some h
  unfold textAt
  rw [enAt_more he]
  simp [hk, hs]

theorem wText_more {l m : List En} {i : Int} {f : List UInt8 → Int} (h : wText l i f = 0) : wText (l ++ m) i f = 0 := by
  obtain ⟨s, hs, hf⟩ := wText_ok h
  unfold wText
  rw [textAt_more hs]
  exact hf

theorem wClass_more {l m : List En} {i : Int} (h : wClass l i = 0) : wClass (l ++ m) i = 0 := by
  unfold wClass
  rw [if_pos (hasE_more (wClass_ok h))]

theorem wrong_more {l m : List En} {e : En} (h : wrongE l e = 0) : wrongE (l ++ m) e = 0 := by
  obtain ⟨h1, h6, hu⟩ := wrong_used h
  rw [wrong_of h1 h6 hu] at h ⊢
  by_cases k1 : e.1 = 1
  · simpa [k1] using h
  by_cases k2 : e.1 = 2
  · simp [k2]
  by_cases k3 : e.1 = 3
  · simp [k3] at h ⊢
    exact wText_more h
  by_cases k4 : e.1 = 4
  · simp [k4] at h ⊢
    exact wText_more h
  by_cases k5 : e.1 = 5
  · simp [k5] at h ⊢
    obtain ⟨ha, hb, hc⟩ := or3_ok h
    simp [or3, wClass_more ha, wText_more hb, wText_more hc]
  · simp [k1, k2, k3, k4, k5] at h ⊢
    obtain ⟨ha, hb, hc⟩ := or3_ok h
    simp [or3, wClass_more ha, wText_more hb, wText_more hc]

theorem right_more {l m : List En} (hall : ∀ e ∈ l, wrongE l e = 0) (j : Nat) (hj : j < l.length) (kind : Int) : rightE (l ++ m) (j : Int) kind = rightE l (j : Int) kind := by
  have h0 := hall l[j] (List.getElem_mem hj)
  unfold rightE
  rw [enAt_more (enAt_nat j hj), enAt_nat j hj]
  simp only [h0, wrong_more h0]

theorem textOf_more {l m : List En} {i : Int} {s : List UInt8} (h : textAt l i = some s) : textOf (l ++ m) i = textOf l i := by
  rw [textAt_textOf h, textAt_textOf (textAt_more h)]

theorem text_more {l m : List En} (hall : ∀ e ∈ l, wrongE l e = 0) (j : Nat) (hj : j < l.length) : textR (l ++ m) (j : Int) = textR l (j : Int) := by
  unfold textR
  rw [right_more hall j hj 1]

theorem class_more {l m : List En} (hall : ∀ e ∈ l, wrongE l e = 0) (j : Nat) (hj : j < l.length) : classR (l ++ m) (j : Int) = classR l (j : Int) := by
  unfold classR
  rw [right_more hall j hj 3]
  by_cases h0 : (rightE l (j : Int) 3).2 = 0
  · obtain ⟨e, he, hk, hw, hR⟩ := right_ok h0
    obtain ⟨s, hs, _⟩ := wrong_class hw hk
    rw [hR]
    simp only [if_true, textOf_more hs]
  · simp only [h0, if_false]

theorem member_more {l m : List En} (hall : ∀ e ∈ l, wrongE l e = 0) (j : Nat) (hj : j < l.length) (kind : Int) (hkd : kind = 5 ∨ kind = 6) : memberR (l ++ m) (j : Int) kind = memberR l (j : Int) kind := by
  unfold memberR
  rw [right_more hall j hj kind]
  by_cases h0 : (rightE l (j : Int) kind).2 = 0
  · obtain ⟨e, he, hk, hw, hR⟩ := right_ok h0
    have hx : hasE l e.2.2.2.1 3 = true ∧ (∃ s, textAt l e.2.2.2.2.1 = some s) ∧ ∃ s, textAt l e.2.2.2.2.2 = some s := by
      rcases hkd with rfl | rfl
      · obtain ⟨h1, ⟨s, hs, _⟩, t, ht, _⟩ := wrong_field hw hk
        exact ⟨h1, ⟨s, hs⟩, t, ht⟩
      · obtain ⟨h1, ⟨s, hs, _⟩, t, ht, _⟩ := wrong_method hw hk
        exact ⟨h1, ⟨s, hs⟩, t, ht⟩
    obtain ⟨hc, ⟨sb, hb⟩, sc, hcc⟩ := hx
    obtain ⟨e', he', _⟩ := hasE_kind hc
    obtain ⟨j', hj', ha, _⟩ := enAt_some he'
    rw [hR]
    simp only [if_true, textOf_more hb, textOf_more hcc]
    rw [ha, class_more hall j' hj']
  · simp only [h0, if_false]

theorem field_more {l m : List En} (hall : ∀ e ∈ l, wrongE l e = 0) (j : Nat) (hj : j < l.length) : fieldR (l ++ m) (j : Int) = fieldR l (j : Int) := by
  unfold fieldR
  rw [member_more hall j hj 5 (.inl rfl)]

theorem method_more {l m : List En} (hall : ∀ e ∈ l, wrongE l e = 0) (j : Nat) (hj : j < l.length) : methodR (l ++ m) (j : Int) = methodR l (j : Int) := by
  unfold methodR
  rw [member_more hall j hj 6 (.inr rfl)]

theorem check_more {l m : List En} (hl : l.length ≤ 300) (hall : ∀ e ∈ l, wrongE l e = 0) : checkE (l ++ m) = (0, 0) ∨ (l.length : Int) ≤ (checkE (l ++ m)).1 := by
  unfold checkE
  split
  · right
    simp
    omega
  · have key : ∀ (r : List En) (i : Nat), firstWrong (l ++ m) r i = (0, 0) ∨ (i : Int) ≤ (firstWrong (l ++ m) r i).1 := by
      intro r
      induction r with
      | nil => intro i; exact .inl rfl
      | cons x r ih =>
        intro i
        unfold firstWrong
        split
        · rcases ih (i + 1) with h | h
          · exact .inl h
          · right
            omega
        · right
          simp
    have skip : ∀ (r : List En) (i : Nat), (∀ e ∈ r, wrongE (l ++ m) e = 0) → firstWrong (l ++ m) (r ++ m) i = firstWrong (l ++ m) m (i + r.length) := by
      intro r
      induction r with
      | nil => intro i _; rfl
      | cons x r ih =>
        intro i h
        rw [List.cons_append]
        conv => lhs; unfold firstWrong
        rw [if_pos (h x (by simp)), ih (i + 1) fun e he => h e (by simp [he])]
        congr 1
        simp
        omega
    rw [skip l 0 fun e he => wrong_more (hall e he)]
    have := key m (0 + l.length)
    simpa using this

end Go.Proofs.Ytcdjddakdlflmab
