/-
  What is known of an entry that is right. No conditions.
-/
import Derived.Test.YtemjhlhioeopnabDoorPPlain
namespace Go.Proofs.YtemjhlhioeopnabDoor

theorem right_ok {l : List En} {i kind : Int} (h : (rightE l i kind).2 = 0) : ∃ e, enAt l i = some e ∧ e.1 = kind ∧ wrongE l e = 0 ∧ rightE l i kind = (e, 0) := by
  unfold rightE at h ⊢
  cases he : enAt l i with
  | none =>
    rw [he] at h
    simp at h
  | some e =>
    rw [he] at h
    simp only at h ⊢
    by_cases hk : e.1 = kind
    · by_cases hw : wrongE l e = 0
      · exact ⟨e, rfl, hk, hw, by simp [hk, hw]⟩
      · simp [hk, hw] at h
    · simp [hk] at h

theorem textAt_textOf {l : List En} {i : Int} {s : List UInt8} (h : textAt l i = some s) : textOf l i = s := by
  unfold textAt at h
  unfold textOf
  split at h
  · split at h
    · simpa using h
    · cases h
  · cases h

theorem textAt_some {l : List En} {i : Int} {s : List UInt8} (h : textAt l i = some s) : ∃ e, enAt l i = some e ∧ e.1 = 1 ∧ e.2.1 = s := by
  unfold textAt at h
  split at h
  · rename_i e he
    split at h
    · rename_i h1
      exact ⟨e, he, h1, by simpa using h⟩
    · cases h
  · cases h

theorem wText_ok {l : List En} {i : Int} {f : List UInt8 → Int} (h : wText l i f = 0) : ∃ s, textAt l i = some s ∧ f s = 0 := by
  unfold wText at h
  split at h
  · rename_i s hs
    exact ⟨s, hs, h⟩
  · cases h

theorem or3_ok {x y z : Int} (h : or3 x y z = 0) : x = 0 ∧ y = 0 ∧ z = 0 := by
  unfold or3 at h
  split at h
  · split at h
    · exact ⟨by assumption, by assumption, h⟩
    · contradiction
  · contradiction

theorem fName_ok {s : List UInt8} (h : fName s = 0) : nameOK s = true := by
  unfold fName at h
  split at h
  · assumption
  · cases h

theorem fMethod_ok {s : List UInt8} (h : fMethod s = 0) : methodOK s = true := by
  unfold fMethod at h
  split at h
  · assumption
  · cases h

theorem wClass_ok {l : List En} {i : Int} (h : wClass l i = 0) : hasE l i 3 = true := by
  unfold wClass at h
  split at h
  · assumption
  · cases h

theorem wrong_used {l : List En} {e : En} (h : wrongE l e = 0) : 1 ≤ e.1 ∧ e.1 ≤ 6 ∧ e = usedE e := by
  unfold wrongE at h
  split at h
  · cases h
  · split at h
    · cases h
    · rename_i h1 h2
      refine ⟨by omega, by omega, ?_⟩
      by_cases hq : e = usedE e
      · exact hq
      · exact absurd hq h2

theorem wrong_of {l : List En} {e : En} (h1 : 1 ≤ e.1) (h6 : e.1 ≤ 6) (hu : e = usedE e) : wrongE l e =
    if e.1 = 1 then longE e.2.1 else if e.1 = 2 then 0 else
    if e.1 = 3 then wText l e.2.2.2.1 fName else
    if e.1 = 4 then wText l e.2.2.2.1 fType else
    if e.1 = 5 then or3 (wClass l e.2.2.2.1) (wText l e.2.2.2.2.1 fName) (wText l e.2.2.2.2.2 fType) else
    or3 (wClass l e.2.2.2.1) (wText l e.2.2.2.2.1 fMethod) (wText l e.2.2.2.2.2 fSig) := by
  unfold wrongE
  rw [if_neg (by omega), if_neg (fun h => h hu)]

theorem wrong_class {l : List En} {e : En} (h : wrongE l e = 0) (hk : e.1 = 3) : ∃ s, textAt l e.2.2.2.1 = some s ∧ nameOK s = true := by
  obtain ⟨h1, h6, hu⟩ := wrong_used h
  rw [wrong_of h1 h6 hu] at h
  simp [hk] at h
  obtain ⟨s, hs, hf⟩ := wText_ok h
  exact ⟨s, hs, fName_ok hf⟩

theorem wrong_type {l : List En} {e : En} (h : wrongE l e = 0) (hk : e.1 = 4) : ∃ s, textAt l e.2.2.2.1 = some s ∧ (typeR s).2 = 0 := by
  obtain ⟨h1, h6, hu⟩ := wrong_used h
  rw [wrong_of h1 h6 hu] at h
  simp [hk] at h
  exact wText_ok h

theorem wrong_field {l : List En} {e : En} (h : wrongE l e = 0) (hk : e.1 = 5) : hasE l e.2.2.2.1 3 = true ∧ (∃ s, textAt l e.2.2.2.2.1 = some s ∧ nameOK s = true) ∧ ∃ s, textAt l e.2.2.2.2.2 = some s ∧ (typeR s).2 = 0 := by
  obtain ⟨h1, h6, hu⟩ := wrong_used h
  rw [wrong_of h1 h6 hu] at h
  simp [hk] at h
  obtain ⟨ha, hb, hc⟩ := or3_ok h
  obtain ⟨s, hs, hf⟩ := wText_ok hb
  exact ⟨wClass_ok ha, ⟨s, hs, fName_ok hf⟩, wText_ok hc⟩

theorem wrong_method {l : List En} {e : En} (h : wrongE l e = 0) (hk : e.1 = 6) : hasE l e.2.2.2.1 3 = true ∧ (∃ s, textAt l e.2.2.2.2.1 = some s ∧ methodOK s = true) ∧ ∃ s, textAt l e.2.2.2.2.2 = some s ∧ (sigR s).2 = 0 := by
  obtain ⟨h1, h6, hu⟩ := wrong_used h
  rw [wrong_of h1 h6 hu] at h
  simp [hk] at h
  obtain ⟨ha, hb, hc⟩ := or3_ok h
  obtain ⟨s, hs, hf⟩ := wText_ok hb
  exact ⟨wClass_ok ha, ⟨s, hs, fMethod_ok hf⟩, wText_ok hc⟩

end Go.Proofs.YtemjhlhioeopnabDoor
