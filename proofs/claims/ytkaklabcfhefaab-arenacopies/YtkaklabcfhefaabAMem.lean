/-
  Slices that are read, elements of several cells. No conditions.
-/
import Derived.Test.YtkaklabcfhefaabIRow
namespace Go.Proofs.Ytkaklabcfhefaab
open Go.RowKit

/-- A slice that is read: n elements with these cells, in a block that obeys P. -/
structure Sl (w : World) (P : Nat → Prop) (ao : Option Addr) (n cap : Nat) (cs : List Value) (d : Nat) : Prop where
  rs : RS w ao cs d
  ok : cs ≠ [] → P d
  le : n ≤ cap
  max : cap ≤ 9223372036854775807
  no : ao = none → cap = 0

def SlV (w : World) (P : Nat → Prop) (v : Value) (n : Nat) (cs : List Value) : Prop := ∃ ao cap d, v = .slice ao n cap ∧ Sl w P ao n cap cs d

theorem Sl.only {w w' : World} {P : Nat → Prop} {ao : Option Addr} {n cap : Nat} {cs : List Value} {d : Nat} {S : List Nat} (h : Sl w P ao n cap cs d) (ho : Only S w w') (hS : ∀ d, P d → d ∉ S) : Sl w' P ao n cap cs d :=
  ⟨h.rs.only ho fun hn => hS d (h.ok hn), h.ok, h.le, h.max, h.no⟩

theorem Sl.mono {w : World} {P Q : Nat → Prop} {ao : Option Addr} {n cap : Nat} {cs : List Value} {d : Nat} (h : Sl w P ao n cap cs d) (hQ : ∀ d, P d → d < w.heap.size → Q d) : Sl w Q ao n cap cs d :=
  ⟨h.rs, fun hn => hQ d (h.ok hn) (h.rs.lt hn), h.le, h.max, h.no⟩

theorem SlV.only {w w' : World} {P : Nat → Prop} {v : Value} {n : Nat} {cs : List Value} {S : List Nat} (h : SlV w P v n cs) (ho : Only S w w') (hS : ∀ d, P d → d ∉ S) : SlV w' P v n cs := by
  obtain ⟨ao, cap, d, hv, h⟩ := h
  exact ⟨ao, cap, d, hv, h.only ho hS⟩

theorem SlV.mono {w : World} {P Q : Nat → Prop} {v : Value} {n : Nat} {cs : List Value} (h : SlV w P v n cs) (hQ : ∀ d, P d → d < w.heap.size → Q d) : SlV w Q v n cs := by
  obtain ⟨ao, cap, d, hv, h⟩ := h
  exact ⟨ao, cap, d, hv, h.mono hQ⟩

theorem SlV.nil (w : World) (P : Nat → Prop) : SlV w P (.slice none 0 0) 0 [] := ⟨none, 0, 0, rfl, RS.nil _ _ _, fun h => absurd rfl h, Nat.le_refl _, by decide, fun _ => rfl⟩

theorem SlV.one {w : World} {P : Nat → Prop} {v : Value} {n : Nat} {cs : List Value} (h : SlV w P v n cs) : v.oneCell' = true := by
  obtain ⟨ao, cap, d, rfl, _⟩ := h
  rfl

/-- Elements of k cells each, one behind the other. -/
structure Els {α : Type} (k : Nat) (A : List Value → α → Prop) (cs : List Value) (l : List α) : Prop where
  len : cs.length = l.length * k
  el : ∀ j (h : j < l.length), A ((cs.drop (j * k)).take k) l[j]

theorem Els.nil {α : Type} (k : Nat) (A : List Value → α → Prop) : Els k A [] ([] : List α) := ⟨by simp, fun j h => by simp at h⟩

theorem Els.snoc {α : Type} {k : Nat} {A : List Value → α → Prop} {cs c : List Value} {l : List α} {x : α} (h : Els k A cs l) (hc : c.length = k) (hx : A c x) : Els k A (cs ++ c) (l ++ [x]) := by
  refine ⟨by rw [List.length_append, List.length_append, List.length_singleton, h.len, hc, Nat.add_mul, Nat.one_mul], fun j hj => ?_⟩
  by_cases e : j < l.length
  · rw [List.getElem_append_left e]
    have := h.el j e
    have h1 : (j + 1) * k ≤ l.length * k := Nat.mul_le_mul_right k e
    rw [Nat.add_mul, Nat.one_mul] at h1
    have hl := h.len
    rw [List.drop_append_of_le_length (by omega), List.take_append_of_le_length (by rw [List.length_drop]; omega)]
    exact this
  · have : j = l.length := by simp at hj; omega
    subst this
    rw [List.getElem_append_right (Nat.le_refl _)]
    simp only [Nat.sub_self, List.getElem_cons_zero]
    rw [← h.len, List.drop_left, List.take_of_length_le (by omega)]
    exact hx

theorem Els.imp {α : Type} {k : Nat} {A B : List Value → α → Prop} {cs : List Value} {l : List α} (h : Els k A cs l) (hAB : ∀ c x, x ∈ l → A c x → B c x) : Els k B cs l :=
  ⟨h.len, fun j hj => hAB _ _ (List.getElem_mem hj) (h.el j hj)⟩

theorem Els.take {α : Type} {k : Nat} {A : List Value → α → Prop} {cs : List Value} {l : List α} (h : Els k A cs l) (n : Nat) (hn : n ≤ l.length) : Els k A (cs.take (n * k)) (l.take n) := by
  have h1 : n * k ≤ l.length * k := Nat.mul_le_mul_right k hn
  have hl := h.len
  refine ⟨by rw [List.length_take, List.length_take]; rw [Nat.min_eq_left hn]; omega, fun j hj => ?_⟩
  have hj' : j < n := by simp at hj; omega
  have h2 : (j + 1) * k ≤ n * k := Nat.mul_le_mul_right k hj'
  rw [Nat.add_mul, Nat.one_mul] at h2
  have := h.el j (by omega)
  rw [List.drop_take, List.take_take, Nat.min_eq_left (by omega), List.getElem_take]
  exact this

/-- A list of cells from those of its elements. -/
theorem els_flat {α : Type} {k : Nat} (f : α → List Value) (hf : ∀ x, (f x).length = k) : ∀ l : List α, Els k (fun c x => c = f x) (l.flatMap f) l := by
  intro l
  induction l with
  | nil => exact Els.nil _ _
  | cons x l ih =>
    refine ⟨by rw [List.flatMap_cons, List.length_append, hf, ih.len, List.length_cons, Nat.add_mul]; omega, fun j hj => ?_⟩
    cases j with
    | zero =>
      rw [List.flatMap_cons, Nat.zero_mul, List.drop_zero, ← hf x, List.take_left]
      rfl
    | succ j =>
      have := ih.el j (by simpa using hj)
      rw [List.getElem_cons_succ, ← this, List.flatMap_cons, Nat.add_mul, Nat.one_mul, Nat.add_comm, ← hf x, ← List.drop_drop, List.drop_left]

end Go.Proofs.Ytkaklabcfhefaab
