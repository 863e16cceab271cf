/-
  What a number says that a builder told. No conditions.
-/
import Derived.Test.YtcdjddakdlflmabPBackP
namespace Go.Proofs.Ytcdjddakdlflmab

/-- A number says what a call handed in. -/
structure SaidIs (l : List En) (x : Cal) (n : Int) : Prop where
  ex : (x.k = 1 ∧ longE x.m = 0 ∧ IsAt l n (txE x.m)) ∨ (x.k = 2 ∧ IsAt l n (2, [], x.n, 0, 0, 0)) ∨
    (x.k = 3 ∧ nameOK x.c = true ∧ ∃ i, IsAt l i (txE x.c) ∧ IsAt l n (3, [], 0, i, 0, 0)) ∨
    (x.k = 4 ∧ tyCheck x.t = 0 ∧ ∃ i, IsAt l i (txE (ttR x.t)) ∧ IsAt l n (4, [], 0, i, 0, 0)) ∨
    (x.k = 5 ∧ nameOK x.c = true ∧ nameOK x.m = true ∧ tyCheck x.t = 0 ∧ MemIs l 5 x.c x.m (ttR x.t) n) ∨
    (x.k = 6 ∧ nameOK x.c = true ∧ methodOK x.m = true ∧ sigCheck x.ps x.v x.r = 0 ∧ longE (stR x.ps x.v x.r) = 0 ∧ MemIs l 6 x.c x.m (stR x.ps x.v x.r) n)

theorem SaidIs.more {l m : List En} {x : Cal} {n : Int} (h : SaidIs l x n) : SaidIs (l ++ m) x n := by
  refine ⟨?_⟩
  rcases h.ex with ⟨h1, h2, h3⟩ | ⟨h1, h2⟩ | ⟨h1, h2, i, h3, h4⟩ | ⟨h1, h2, i, h3, h4⟩ | ⟨h1, h2, h3, h4, h5⟩ | ⟨h1, h2, h3, h4, h5, h6⟩
  · exact .inl ⟨h1, h2, h3.more⟩
  · exact .inr (.inl ⟨h1, h2.more⟩)
  · exact .inr (.inr (.inl ⟨h1, h2, i, h3.more, h4.more⟩))
  · exact .inr (.inr (.inr (.inl ⟨h1, h2, i, h3.more, h4.more⟩)))
  · exact .inr (.inr (.inr (.inr (.inl ⟨h1, h2, h3, h4, h5.more⟩))))
  · exact .inr (.inr (.inr (.inr (.inr ⟨h1, h2, h3, h4, h5, h6.more⟩))))

theorem ttR_of {t : Ty} (h : tyCheck t = 0) : ttR t = tyText t := by simp [ttR, h]
theorem stR_of {l : List Ty} {v : Bool} {t : Ty} (h : sigCheck l v t = 0) : stR l v t = sigText l v t := by simp [stR, h]
theorem tt_short {t : Ty} (h : tyCheck t = 0) : longE (ttR t) = 0 := by
  rw [ttR_of h]
  exact len_short (by have := fit_len (check_fit h); omega)
theorem tt_read {t : Ty} (h : tyCheck t = 0) : typeR (ttR t) = (t, 0) := by
  rw [ttR_of h]
  exact type_text h
theorem st_read {l : List Ty} {v : Bool} {t : Ty} (h : sigCheck l v t = 0) : sigR (stR l v t) = ((l, v, t), 0) := by
  rw [stR_of h]
  exact sig_text h

theorem fit_ok {had : Nat} {x : List En × Int} (h : x.1.length ≤ 4096) : fitE had x = (x.1, x.2, 0) := by
  unfold fitE
  rw [if_neg (by omega)]

/-- What a call does to a builder's list that has room. -/
theorem again_good {l : List En} (hl : Good l) (hr : l.length + 5 ≤ 4096) (x : Cal) : Good (againB l x).1 ∧ (∃ r, (againB l x).1 = l ++ r) ∧ ((againB l x).2.2 = 0 → SaidIs (againB l x).1 x (againB l x).2.1) ∧ (againB l x).1.length ≤ l.length + 5 := by
  have hsame : Good l ∧ (∃ r, l = l ++ r) ∧ l.length ≤ l.length + 5 := ⟨hl, ⟨[], by simp⟩, by omega⟩
  by_cases h1 : x.k = 1
  · have e : againB l x = textB l x.m := by simp [againB, h1]
    rw [e]
    unfold textB
    by_cases hs : longE x.m = 0
    · rw [if_pos hs]
      have hlen := putE_len l (txE x.m)
      obtain ⟨g, a, r⟩ := put_good hl (text_wrong (l := l) hs)
      rw [fit_ok (by omega)]
      exact ⟨g, r, fun _ => ⟨.inl ⟨h1, hs, a⟩⟩, by simp only; omega⟩
    · rw [if_neg hs]
      exact ⟨hsame.1, hsame.2.1, fun h => absurd h hs, hsame.2.2⟩
  by_cases h2 : x.k = 2
  · have e : againB l x = numberB l x.n := by simp [againB, h2]
    rw [e]
    unfold numberB
    have hlen := putE_len l (2, [], x.n, 0, 0, 0)
    obtain ⟨g, a, r⟩ := put_good hl (e := (2, [], x.n, 0, 0, 0)) (by simp [wrongE, usedE])
    rw [fit_ok (by omega)]
    exact ⟨g, r, fun _ => ⟨.inr (.inl ⟨h2, a⟩)⟩, by simp only; omega⟩
  by_cases h3 : x.k = 3
  · have e : againB l x = classB l x.c := by simp [againB, h3]
    rw [e]
    unfold classB
    by_cases hn : nameOK x.c = true
    · rw [if_pos hn]
      have hlen := pClass_len l x.c
      obtain ⟨g, ⟨i, a1, a2⟩, r⟩ := pclass_good hl hn
      rw [fit_ok (by omega)]
      exact ⟨g, r, fun _ => ⟨.inr (.inr (.inl ⟨h3, hn, i, a1, a2⟩))⟩, by simp only; omega⟩
    · rw [if_neg hn]
      exact ⟨hsame.1, hsame.2.1, fun h => by simp at h, hsame.2.2⟩
  by_cases h4 : x.k = 4
  · have e : againB l x = typeB l x.t := by simp [againB, h4]
    rw [e]
    unfold typeB
    by_cases hn : tyCheck x.t = 0
    · rw [if_pos hn]
      obtain ⟨g, ⟨i, a1, a2⟩, r⟩ := ptype_good hl (tt_short hn) (by rw [tt_read hn])
      have l1 := putE_len l (txE (ttR x.t))
      have l2 := putE_len (putE l (txE (ttR x.t))).1 (4, [], 0, (putE l (txE (ttR x.t))).2, 0, 0)
      have hlen : (pType l (ttR x.t)).1.length ≤ l.length + 2 := by unfold pType; omega
      rw [fit_ok (by omega)]
      exact ⟨g, r, fun _ => ⟨.inr (.inr (.inr (.inl ⟨h4, hn, i, a1, a2⟩)))⟩, by simp only; omega⟩
    · rw [if_neg hn]
      exact ⟨hsame.1, hsame.2.1, fun h => absurd h hn, hsame.2.2⟩
  by_cases h5 : x.k = 5
  · have e : againB l x = fieldB l x.c x.m x.t := by simp [againB, h5]
    rw [e]
    unfold fieldB
    by_cases hn : nameOK x.c = true ∧ nameOK x.m = true
    · rw [if_pos hn]
      by_cases ht : tyCheck x.t = 0
      · rw [if_pos ht]
        have hlen := pMember_len l 5 x.c x.m (ttR x.t)
        obtain ⟨g, a, r⟩ := pmember_good hl (kind := 5) (t := ttR x.t) hn.1 (name_short hn.2) (tt_short ht) (.inl ⟨rfl, hn.2, by rw [tt_read ht]⟩)
        rw [fit_ok (by omega)]
        exact ⟨g, r, fun _ => ⟨.inr (.inr (.inr (.inr (.inl ⟨h5, hn.1, hn.2, ht, a⟩))))⟩, by simp only; omega⟩
      · rw [if_neg ht]
        exact ⟨hsame.1, hsame.2.1, fun h => absurd h ht, hsame.2.2⟩
    · rw [if_neg hn]
      exact ⟨hsame.1, hsame.2.1, fun h => by simp at h, hsame.2.2⟩
  by_cases h6 : x.k = 6
  · have e : againB l x = methodB l x.c x.m (x.ps, x.v, x.r) := by simp [againB, h6]
    rw [e]
    unfold methodB
    simp only
    by_cases hn : nameOK x.c = true ∧ methodOK x.m = true
    · rw [if_pos hn]
      by_cases ht : sigCheck x.ps x.v x.r = 0
      · rw [if_pos ht]
        by_cases hs : longE (stR x.ps x.v x.r) = 0
        · rw [if_pos hs]
          have hlen := pMember_len l 6 x.c x.m (stR x.ps x.v x.r)
          obtain ⟨g, a, r⟩ := pmember_good hl (kind := 6) (t := stR x.ps x.v x.r) hn.1 (method_short hn.2) hs (.inr ⟨rfl, hn.2, by rw [st_read ht]⟩)
          rw [fit_ok (by omega)]
          exact ⟨g, r, fun _ => ⟨.inr (.inr (.inr (.inr (.inr ⟨h6, hn.1, hn.2, ht, hs, a⟩))))⟩, by simp only; omega⟩
        · rw [if_neg hs]
          exact ⟨hsame.1, hsame.2.1, fun h => absurd h hs, hsame.2.2⟩
      · rw [if_neg ht]
        exact ⟨hsame.1, hsame.2.1, fun h => absurd h ht, hsame.2.2⟩
    · rw [if_neg hn]
      exact ⟨hsame.1, hsame.2.1, fun h => by simp at h, hsame.2.2⟩
  have e : againB l x = (l, 0, 3) := by simp [againB, h1, h2, h3, h4, h5, h6]
  rw [e]
  exact ⟨hsame.1, hsame.2.1, fun h => by simp at h, hsame.2.2⟩

/-- Asked again it tells the same, and nothing is new. -/
theorem again_again {l : List En} (hl : l.Nodup) (hr : l.length ≤ 4096) {x : Cal} {n : Int} (h : SaidIs l x n) : againB l x = (l, n, 0) := by
  rcases h.ex with ⟨h1, h2, h3⟩ | ⟨h1, h2⟩ | ⟨h1, h2, i, h3, h4⟩ | ⟨h1, h2, i, h3, h4⟩ | ⟨h1, h2, h3, h4, h5⟩ | ⟨h1, h2, h3, h4, h5, h6⟩
  · have e : againB l x = textB l x.m := by simp [againB, h1]
    rw [e]
    unfold textB
    rw [if_pos h2, put_again hl h3, fit_ok hr]
  · have e : againB l x = numberB l x.n := by simp [againB, h1]
    rw [e]
    unfold numberB
    rw [put_again hl h2, fit_ok hr]
  · have e : againB l x = classB l x.c := by simp [againB, h1]
    rw [e]
    unfold classB
    rw [if_pos h2, pclass_again hl h3 h4, fit_ok hr]
  · have e : againB l x = typeB l x.t := by simp [againB, h1]
    rw [e]
    unfold typeB
    rw [if_pos h2, ptype_again hl h3 h4, fit_ok hr]
  · have e : againB l x = fieldB l x.c x.m x.t := by simp [againB, h1]
    rw [e]
    unfold fieldB
    rw [if_pos ⟨h2, h3⟩, if_pos h4, pmember_again hl h5, fit_ok hr]
  · have e : againB l x = methodB l x.c x.m (x.ps, x.v, x.r) := by simp [againB, h1]
    rw [e]
    unfold methodB
    rw [if_pos ⟨h2, h3⟩, if_pos h4, if_pos h5, pmember_again hl h6, fit_ok hr]

theorem right_is {l : List En} (hl : Good l) {i : Int} {e : En} (h : IsAt l i e) : rightE l i e.1 = (e, 0) := by
  obtain ⟨j, hj, rfl, rfl⟩ := enAt_some h
  rw [right_kind hl.all j hj, if_pos rfl]

theorem textOf_is {l : List En} {i : Int} {s : List UInt8} (h : IsAt l i (txE s)) : textOf l i = s := textAt_textOf (textAt_is h)

theorem class_is {l : List En} (hl : Good l) {i j : Int} {s : List UInt8} (h : IsAt l i (txE s)) (k : IsAt l j (3, [], 0, i, 0, 0)) : classR l j = (s, 0) := by
  unfold classR
  have := right_is hl k
  simp only at this
  rw [this]
  simp [textOf_is h]

theorem member_is {l : List En} (hl : Good l) {kind : Int} {c n t : List UInt8} {j : Int} (h : MemIs l kind c n t j) : memberR l j kind = ((c, n, t), 0) := by
  obtain ⟨i0, ic, inn, it, h1, h2, h3, h4, h5⟩ := h.ex
  unfold memberR
  have := right_is hl h5
  simp only at this
  rw [this]
  simp only [if_true, class_is hl h1 h2, textOf_is h3, textOf_is h4]

/-- What the number says, call by call. -/
theorem said_vals {l : List En} (hl : Good l) {x : Cal} {n : Int} (h : SaidIs l x n) :
    (x.k = 1 ∧ textR l n = (x.m, 0)) ∨ (x.k = 2 ∧ numberR l n = (x.n, 0)) ∨ (x.k = 3 ∧ classR l n = (x.c, 0)) ∨ (x.k = 4 ∧ typeAtR l n = (x.t, 0)) ∨ (x.k = 5 ∧ fieldR l n = ((x.c, x.m, x.t), 0)) ∨ (x.k = 6 ∧ methodR l n = ((x.c, x.m, (x.ps, x.v, x.r)), 0)) := by
  rcases h.ex with ⟨h1, h2, h3⟩ | ⟨h1, h2⟩ | ⟨h1, h2, i, h3, h4⟩ | ⟨h1, h2, i, h3, h4⟩ | ⟨h1, h2, h3, h4, h5⟩ | ⟨h1, h2, h3, h4, h5, h6⟩
  · refine .inl ⟨h1, ?_⟩
    have := right_is hl h3
    simp only [txE] at this
    unfold textR
    rw [this]
  · refine .inr (.inl ⟨h1, ?_⟩)
    have := right_is hl h2
    simp only at this
    unfold numberR
    rw [this]
  · exact .inr (.inr (.inl ⟨h1, class_is hl h3 h4⟩))
  · refine .inr (.inr (.inr (.inl ⟨h1, ?_⟩)))
    have := right_is hl h4
    simp only at this
    unfold typeAtR
    rw [this]
    simp [textOf_is h3, tt_read h2]
  · refine .inr (.inr (.inr (.inr (.inl ⟨h1, ?_⟩))))
    unfold fieldR
    rw [member_is hl h5]
    simp [tt_read h4]
  · refine .inr (.inr (.inr (.inr (.inr ⟨h1, ?_⟩))))
    unfold methodR
    rw [member_is hl h6]
    simp [st_read h4]

end Go.Proofs.Ytcdjddakdlflmab
