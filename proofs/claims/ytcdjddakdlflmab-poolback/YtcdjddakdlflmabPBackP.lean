/-
  What a builder that was begun empty has: a pool, each entry once; what a number says that it told. No conditions.
-/
import Derived.Test.YtcdjddakdlflmabPAgain
import Derived.Test.YtcdjddakdlflmabPMore
import Derived.Test.YtcdjddakdlflmabQPlain
namespace Go.Proofs.Ytcdjddakdlflmab

/-- A list that a builder may have: every entry is right, none is there twice, there is room. -/
structure Good (l : List En) : Prop where
  all : ∀ e ∈ l, wrongE l e = 0
  once : l.Nodup

theorem good_nil : Good [] := ⟨by simp, by simp⟩

/-- An entry is there, at that number, and at no other. -/
def IsAt (l : List En) (i : Int) (e : En) : Prop := enAt l i = some e

theorem IsAt.more {l m : List En} {i : Int} {e : En} (h : IsAt l i e) : IsAt (l ++ m) i e := enAt_more h

theorem firstAt_nodup {l : List En} (hl : l.Nodup) {i : Int} {e : En} (h : IsAt l i e) : ∃ k, firstAt l e = some k ∧ i = (k : Int) := by
  obtain ⟨j, hj, rfl, rfl⟩ := enAt_some h
  refine ⟨j, firstAt_at hj ?_ rfl, rfl⟩
  intro q hq e
  have := (List.getElem_inj hl).1 e
  omega

theorem firstAt_mem {l : List En} {e : En} (h : firstAt l e = none) : e ∉ l := by
  intro he
  obtain ⟨j, hj, rfl⟩ := List.getElem_of_mem he
  have key : ∀ (l : List En) (j : Nat) (hj : j < l.length), firstAt l l[j] ≠ none := by
    intro l
    induction l with
    | nil => intro j hj; simp at hj
    | cons x r ih =>
      intro j hj
      unfold firstAt
      split
      · simp
      · rename_i hx
        cases j with
        | zero => simp at hx
        | succ j =>
          have := ih j (by simpa using hj)
          simp only [List.getElem_cons_succ]
          intro h
          simp at h
          exact this h
  exact key l j hj h

/-- What is put in is there; what is right beside the others stays so. -/
theorem put_good {l : List En} (hl : Good l) {e : En} (hw : wrongE l e = 0) : Good (putE l e).1 ∧ IsAt (putE l e).1 (putE l e).2 e ∧ ∃ r, (putE l e).1 = l ++ r := by
  unfold putE
  cases h : firstAt l e with
  | some i =>
    obtain ⟨hi, he⟩ := firstAt_some h
    exact ⟨hl, by simp only [IsAt]; rw [enAt_nat i hi, he], [], by simp⟩
  | none =>
    refine ⟨⟨?_, ?_⟩, ?_, [e], rfl⟩
    · intro x hx
      rcases List.mem_append.1 hx with hx | hx
      · exact wrong_more (hl.all x hx)
      · simp at hx
        subst hx
        exact wrong_more hw
    · simp only [List.nodup_append, List.nodup_cons, List.not_mem_nil, not_false_eq_true, List.nodup_nil, and_self, true_and]
      refine ⟨hl.once, ?_⟩
      intro a ha b hb e1
      simp at hb
      subst e1 hb
      exact firstAt_mem h ha
    · simp only [IsAt]
      rw [enAt_nat l.length (by simp)]
      simp

/-- Put in again it is where it was, and nothing is new. -/
theorem put_again {l : List En} (hl : l.Nodup) {i : Int} {e : En} (h : IsAt l i e) : putE l e = (l, i) := by
  obtain ⟨k, hk, rfl⟩ := firstAt_nodup hl h
  unfold putE
  rw [hk]

theorem text_wrong {l : List En} {s : List UInt8} (h : longE s = 0) : wrongE l (txE s) = 0 := by
  simp [wrongE, usedE, txE, h]

theorem short_len {s : List UInt8} (h : longE s = 0) : s.length ≤ 255 := by
  unfold longE at h
  split at h
  · cases h
  · omega

theorem len_short {s : List UInt8} (h : s.length ≤ 255) : longE s = 0 := by
  unfold longE
  rw [if_neg (by omega)]

theorem textAt_is {l : List En} {i : Int} {s : List UInt8} (h : IsAt l i (txE s)) : textAt l i = some s := by
  unfold textAt
  rw [h]
  simp [txE]

theorem hasE_is {l : List En} {i : Int} {e : En} (h : IsAt l i e) : hasE l i e.1 = true := by
  unfold hasE
  rw [h]
  simp

theorem class_wrong {l : List En} {i : Int} {s : List UInt8} (h : IsAt l i (txE s)) (hn : nameOK s = true) : wrongE l (3, [], 0, i, 0, 0) = 0 := by
  simp [wrongE, usedE, wText, textAt_is h, fName, hn]

theorem name_short {s : List UInt8} (h : nameOK s = true) : longE s = 0 := len_short (by have := name_len h; omega)

theorem method_short {s : List UInt8} (h : methodOK s = true) : longE s = 0 := by
  unfold methodOK at h
  simp at h
  rcases h with rfl | h
  · decide
  · exact name_short h

/-- A class put in. -/
theorem pclass_good {l : List En} (hl : Good l) {s : List UInt8} (hn : nameOK s = true) : Good (pClass l s).1 ∧ (∃ i, IsAt (pClass l s).1 i (txE s) ∧ IsAt (pClass l s).1 (pClass l s).2 (3, [], 0, i, 0, 0)) ∧ ∃ r, (pClass l s).1 = l ++ r := by
  obtain ⟨g1, a1, r1, e1⟩ := put_good hl (text_wrong (l := l) (name_short hn))
  obtain ⟨g2, a2, r2, e2⟩ := put_good g1 (class_wrong a1 hn)
  refine ⟨g2, ⟨_, ?_, a2⟩, r1 ++ r2, ?_⟩
  · unfold pClass
    rw [e2]
    exact a1.more
  · unfold pClass
    rw [e2, e1]
    simp

theorem pclass_again {l : List En} (hl : l.Nodup) {s : List UInt8} {i j : Int} (h : IsAt l i (txE s)) (k : IsAt l j (3, [], 0, i, 0, 0)) : pClass l s = (l, j) := by
  unfold pClass
  rw [put_again hl h]
  exact put_again hl k

/-- A type put in. -/
theorem ptype_good {l : List En} (hl : Good l) {s : List UInt8} (hs : longE s = 0) (ht : (typeR s).2 = 0) : Good (pType l s).1 ∧ (∃ i, IsAt (pType l s).1 i (txE s) ∧ IsAt (pType l s).1 (pType l s).2 (4, [], 0, i, 0, 0)) ∧ ∃ r, (pType l s).1 = l ++ r := by
  obtain ⟨g1, a1, r1, e1⟩ := put_good hl (text_wrong (l := l) hs)
  have hw : wrongE (putE l (txE s)).1 (4, [], 0, (putE l (txE s)).2, 0, 0) = 0 := by
    simp [wrongE, usedE, wText, textAt_is a1, fType, ht]
  obtain ⟨g2, a2, r2, e2⟩ := put_good g1 hw
  refine ⟨g2, ⟨_, ?_, a2⟩, r1 ++ r2, ?_⟩
  · unfold pType
    rw [e2]
    exact a1.more
  · unfold pType
    rw [e2, e1]
    simp

theorem ptype_again {l : List En} (hl : l.Nodup) {s : List UInt8} {i j : Int} (h : IsAt l i (txE s)) (k : IsAt l j (4, [], 0, i, 0, 0)) : pType l s = (l, j) := by
  unfold pType
  rw [put_again hl h]
  exact put_again hl k

/-- What a member's entry uses. -/
structure MemIs (l : List En) (kind : Int) (c n t : List UInt8) (j : Int) : Prop where
  ex : ∃ i0 ic inn it, IsAt l i0 (txE c) ∧ IsAt l ic (3, [], 0, i0, 0, 0) ∧ IsAt l inn (txE n) ∧ IsAt l it (txE t) ∧ IsAt l j (kind, [], 0, ic, inn, it)

theorem MemIs.more {l m : List En} {kind : Int} {c n t : List UInt8} {j : Int} (h : MemIs l kind c n t j) : MemIs (l ++ m) kind c n t j := by
  obtain ⟨i0, ic, inn, it, h1, h2, h3, h4, h5⟩ := h.ex
  exact ⟨i0, ic, inn, it, h1.more, h2.more, h3.more, h4.more, h5.more⟩

theorem pmember_good {l : List En} (hl : Good l) {kind : Int} {c n t : List UInt8} (hc : nameOK c = true) (hn : longE n = 0) (ht : longE t = 0)
    (hk : (kind = 5 ∧ nameOK n = true ∧ (typeR t).2 = 0) ∨ (kind = 6 ∧ methodOK n = true ∧ (sigR t).2 = 0)) :
    Good (pMember l kind c n t).1 ∧ MemIs (pMember l kind c n t).1 kind c n t (pMember l kind c n t).2 ∧ ∃ r, (pMember l kind c n t).1 = l ++ r := by
  obtain ⟨g1, ⟨i0, a0, a1⟩, r1, e1⟩ := pclass_good hl hc
  obtain ⟨g2, a2, r2, e2⟩ := put_good g1 (text_wrong (l := (pClass l c).1) hn)
  replace g2 : Good (pMem3 l c n).1 := g2
  replace a2 : IsAt (pMem3 l c n).1 (pMem3 l c n).2 (txE n) := a2
  replace e2 : (pMem3 l c n).1 = (pClass l c).1 ++ r2 := e2
  obtain ⟨g3, a3, r3, e3⟩ := put_good g2 (text_wrong (l := (pMem3 l c n).1) ht)
  replace g3 : Good (pMem4 l c n t).1 := g3
  replace a3 : IsAt (pMem4 l c n t).1 (pMem4 l c n t).2 (txE t) := a3
  replace e3 : (pMem4 l c n t).1 = (pMem3 l c n).1 ++ r3 := e3
  have b0 : IsAt (pMem4 l c n t).1 i0 (txE c) := by
    rw [e3, e2]
    exact a0.more.more
  have b1 : IsAt (pMem4 l c n t).1 (pClass l c).2 (3, [], 0, i0, 0, 0) := by
    rw [e3, e2]
    exact a1.more.more
  have b2 : IsAt (pMem4 l c n t).1 (pMem3 l c n).2 (txE n) := by
    rw [e3]
    exact a2.more
  have hcl : wClass (pMem4 l c n t).1 (pClass l c).2 = 0 := by
    unfold wClass
    rw [if_pos (hasE_is b1)]
  have hw : wrongE (pMem4 l c n t).1 (kind, [], 0, (pClass l c).2, (pMem3 l c n).2, (pMem4 l c n t).2) = 0 := by
    rcases hk with ⟨rfl, h1, h2⟩ | ⟨rfl, h1, h2⟩
    · simp [wrongE, usedE, wText, textAt_is b2, textAt_is a3, hcl, fName, fType, h1, h2, or3]
    · simp [wrongE, usedE, wText, textAt_is b2, textAt_is a3, hcl, fMethod, fSig, h1, h2, or3]
  obtain ⟨g4, a4, r4, e4⟩ := put_good g3 hw
  replace e4 : (pMember l kind c n t).1 = (pMem4 l c n t).1 ++ r4 := e4
  refine ⟨g4, ⟨i0, _, _, _, ?_, ?_, ?_, ?_, a4⟩, pMember_pre l kind c n t⟩
  · rw [e4]
    exact b0.more
  · rw [e4]
    exact b1.more
  · rw [e4]
    exact b2.more
  · rw [e4]
    exact a3.more

theorem pmember_again {l : List En} (hl : l.Nodup) {kind : Int} {c n t : List UInt8} {j : Int} (h : MemIs l kind c n t j) : pMember l kind c n t = (l, j) := by
  obtain ⟨i0, ic, inn, it, h1, h2, h3, h4, h5⟩ := h.ex
  have e1 := pclass_again hl h1 h2
  have e2 : pMem3 l c n = (l, inn) := by
    unfold pMem3
    rw [e1]
    exact put_again hl h3
  have e3 : pMem4 l c n t = (l, it) := by
    unfold pMem4
    rw [e2]
    exact put_again hl h4
  unfold pMember
  rw [e3, e2, e1]
  exact put_again hl h5

end Go.Proofs.Ytcdjddakdlflmab
