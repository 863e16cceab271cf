/-
  Plain facts for ArenaFresh: objects whose slots are noughts from a place on. No conditions.
-/
import Derived.Test.YtkaklabcfhefaabAHelp
namespace Go.Proofs.Ytkaklabcfhefaab
open Go.RowKit

def lens (l : List Ob) : List Nat := l.map fun o => o.2.length

theorem ofs_lens : ∀ (l l' : List Ob), lens l = lens l' → ∀ j, ofs l j = ofs l' j
  | [], l', h, j => by
    have : l' = [] := by simpa [lens] using h.symm
    rw [this]
  | o :: l, [], h, j => by simp [lens] at h
  | o :: l, o' :: l', h, j => by
    simp only [lens, List.map_cons, List.cons.injEq] at h
    cases j with
    | zero => rw [ofs_zero, ofs_zero]
    | succ j => rw [ofs_cons, ofs_cons, h.1, ofs_lens l l' h.2 j]

theorem lens_length {l l' : List Ob} (h : lens l = lens l') : l.length = l'.length := by
  have := congrArg List.length h
  simpa [lens] using this

theorem lens_at {l l' : List Ob} (h : lens l = lens l') (j : Nat) (hj : j < l.length) (hj' : j < l'.length) : l[j].2.length = l'[j].2.length := by
  have h1 : (lens l)[j]? = some l[j].2.length := by simp [lens, hj]
  have h2 : (lens l')[j]? = some l'[j].2.length := by simp [lens, hj']
  rw [h, h2] at h1
  exact (Option.some.inj h1).symm

/-- The slots are noughts, from the k-th of the i-th object on; all sizes are as they were. -/
structure FrI (l0 l : List Ob) (i k : Nat) : Prop where
  len : lens l = lens l0
  zero : ∀ (j : Nat) (hj : j < l.length) (q : Nat) (hq : q < l[j].2.length), (i < j ∨ (i = j ∧ k ≤ q)) → l[j].2[q] = 0

def allZ (l : List Ob) : Prop := ∀ o ∈ l, ∀ v ∈ o.2, v = 0

theorem FrI.start {l : List Ob} (h : allZ l) : FrI l l 0 0 := ⟨rfl, fun _ hj _ hq _ => h _ (List.getElem_mem hj) _ (List.getElem_mem hq)⟩

theorem FrI.next {l0 l : List Ob} {i k : Nat} (h : FrI l0 l i k) : FrI l0 l (i + 1) 0 :=
  ⟨h.len, fun j hj q hq hc => h.zero j hj q hq (by
    rcases hc with c | ⟨c, _⟩
    · exact .inl (by omega)
    · exact .inl (by omega))⟩

theorem lens_set (l : List Ob) (i : Nat) (o : Ob) (hi : i < l.length) (ho : o.2.length = l[i].2.length) : lens (l.set i o) = lens l := by
  unfold lens
  rw [List.map_set]
  apply List.ext_getElem?
  intro j
  rw [List.getElem?_set]
  split
  · rename_i e
    subst e
    simp [hi, ho]
  · rfl

theorem FrI.put {l0 l : List Ob} {i k : Nat} (h : FrI l0 l i k) (hi : i < l.length) (v : Int) : FrI l0 (l.set i (l[i].1, l[i].2.set k v)) i (k + 1) := by
  refine ⟨(lens_set l i _ hi (by simp)).trans h.len, fun j hj q hq hc => ?_⟩
  have hj' : j < l.length := by simpa using hj
  by_cases e : i = j
  · subst e
    simp only [List.getElem_set_self] at hq ⊢
    have hq' : q < l[i].2.length := by simpa using hq
    have hkq : k ≠ q := by omega
    rw [List.getElem_set_ne hkq]
    exact h.zero i hi q hq' (.inr ⟨rfl, by omega⟩)
  · have e2 : (l.set i (l[i].1, l[i].2.set k v))[j] = l[j] := List.getElem_set_ne e _
    have hq' : q < l[j].2.length := by rw [← e2]; exact hq
    have := h.zero j hj' q hq' (.inl (by omega))
    simp only [e2]
    exact this

theorem FrI.get {l0 l : List Ob} {i k : Nat} (h : FrI l0 l i k) (hi : i < l.length) (hk : k < l[i].2.length) : getP l (8 * (ofs l0 i : Int) + 8) (k : Int) = (0, 0) := by
  rw [← ofs_lens l l0 h.len]
  unfold getP
  rw [findP_at hi]
  simp only [List.getElem?_eq_getElem hi]
  rw [if_pos (by omega)]
  have := h.zero i hi k hk (.inr ⟨rfl, Nat.le_refl _⟩)
  simp [hk, this]

theorem FrI.putS {s : St} {l0 : List Ob} {i k : Nat} (h : FrI l0 s.l i k) (hi : i < s.l.length) (hk : k < s.l[i].2.length) (v : Int) : putS s (8 * (ofs l0 i : Int) + 8) (k : Int) v = ({ s with l := s.l.set i (s.l[i].1, s.l[i].2.set k v) }, 0) := by
  rw [← ofs_lens s.l l0 h.len]
  unfold Go.Proofs.Ytkaklabcfhefaab.putS
  rw [findP_at hi]
  simp only [List.getElem?_eq_getElem hi]
  rw [if_pos (by omega)]
  simp

theorem FrI.slots {l0 l : List Ob} {i k : Nat} (h : FrI l0 l i k) (hi : i < l.length) : slotsP l (8 * (ofs l0 i : Int) + 8) = ((l[i].2.length : Int), 0) := by
  rw [← ofs_lens l l0 h.len]
  unfold slotsP
  rw [findP_at hi]
  simp only [List.getElem?_eq_getElem hi]

theorem allZ_make {s : St} (h : allZ s.l) (k n : Int) : allZ (makeS s k n).1.l := by
  unfold makeS
  split
  · split
    · intro o ho v hv
      rcases List.mem_append.1 ho with c | c
      · exact h o c v hv
      · simp at c
        subst c
        exact List.eq_of_mem_replicate hv
    · exact h
  · exact h

theorem allZ_made (m : Nat) (L : List Cl) (j : Nat) : allZ (madeTo m L j).l := by
  unfold madeTo
  generalize hs : (⟨m, [], [], none⟩ : St) = s
  have h : allZ s.l := by subst hs; intro o ho; cases ho
  clear hs
  induction (L.take j) generalizing s with
  | nil => exact h
  | cons c L ih => exact ih _ (allZ_make h _ _)

end Go.Proofs.Ytkaklabcfhefaab
