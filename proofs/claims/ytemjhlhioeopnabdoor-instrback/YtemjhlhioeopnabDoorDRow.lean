/-
  Rows of types that the call owns, or that came in. No conditions.
-/
import Derived.Test.YtemjhlhioeopnabDoorDType
import Derived.Laws.AppendOwnNone
import Derived.Laws.AppendOwn
namespace Go.Proofs.YtemjhlhioeopnabDoor
open Go.RowKit

/-- Types as cells. -/
def tcs : List Ty → List Value
  | [] => []
  | t :: l => .int .i64 t.1 :: .string (str t.2) :: tcs l

theorem tcs_length (l : List Ty) : (tcs l).length = l.length * 2 := by
  induction l with
  | nil => rfl
  | cons t l ih => simp [tcs, ih]; omega

theorem tcs_append (a b : List Ty) : tcs (a ++ b) = tcs a ++ tcs b := by
  induction a with
  | nil => rfl
  | cons t l ih => simp [tcs, ih]

theorem tcs_one (l : List Ty) : ∀ u ∈ tcs l, u.oneCell' = true := by
  induction l with
  | nil => simp [tcs]
  | cons t l ih =>
    intro u hu
    simp [tcs] at hu
    rcases hu with rfl | rfl | hu
    · rfl
    · rfl
    · exact ih u hu

theorem tcs_get (l : List Ty) (j : Nat) (h : j < l.length) : (tcs l)[j * 2]? = some (.int .i64 l[j].1) ∧ (tcs l)[j * 2 + 1]? = some (.string (str l[j].2)) := by
  induction l generalizing j with
  | nil => simp at h
  | cons t l ih =>
    cases j with
    | zero => exact ⟨rfl, rfl⟩
    | succ j =>
      have := ih j (by simpa using h)
      simp only [tcs, Nat.add_mul, Nat.one_mul, List.getElem_cons_succ]
      exact this

theorem infoT : (Tryd.prog.info? 62).map (fun i => (i.zero, i.size, i.bytes)) = some (some (.agg #[.int .i64 0, .string ⟨#[]⟩]), 2, 24) := by kernel_rfl

/-- Where the types of a slice lie that is read: nowhere, if there are none; else in block d, one behind the other. -/
def TS (w : World) (ao : Option Addr) (l : List Ty) (d : Nat) : Prop :=
  l = [] ∨ ∃ off, ao = some ⟨d, off, none⟩ ∧ ∀ j (h : j < l.length), w.cell? ⟨d, off + j * 2, none⟩ = some (.int .i64 l[j].1) ∧ w.cell? ⟨d, off + j * 2 + 1, none⟩ = some (.string (str l[j].2))

theorem TS.nil (w : World) (ao : Option Addr) (d : Nat) : TS w ao [] d := .inl rfl

theorem TS.lt {w : World} {ao : Option Addr} {l : List Ty} {d : Nat} (h : TS w ao l d) (hn : l ≠ []) : d < w.heap.size := by
  rcases h with h | ⟨off, _, hc⟩
  · exact absurd h hn
  · exact World.block_lt_of_cell? w _ (hc 0 (List.length_pos_iff.2 hn)).1

theorem TS.only {w w' : World} {S : List Nat} {ao : Option Addr} {l : List Ty} {d : Nat} (h : TS w ao l d) (ho : Only S w w') (hn : l ≠ [] → d ∉ S) : TS w' ao l d := by
  rcases h with h | ⟨off, ha, hc⟩
  · exact .inl h
  · by_cases hb : l = []
    · exact .inl hb
    have hd := hn hb
    exact .inr ⟨off, ha, fun j hj => ⟨by rw [ho.cell (World.block_lt_of_cell? w _ (hc j hj).1) hd]; exact (hc j hj).1, by rw [ho.cell (World.block_lt_of_cell? w _ (hc j hj).2) hd]; exact (hc j hj).2⟩⟩

theorem TS.none_nil {w : World} {l : List Ty} {d : Nat} (h : TS w none l d) : l = [] := by
  rcases h with h | ⟨off, ha, _⟩
  · exact h
  · cases ha

theorem TS.take {w : World} {ao : Option Addr} {l : List Ty} {d : Nat} (h : TS w ao l d) (n : Nat) : TS w ao (l.take n) d := by
  rcases h with h | ⟨off, ha, hc⟩
  · exact .inl (by simp [h])
  · exact .inr ⟨off, ha, fun j hj => by simp at hj; simpa using hc j (by omega)⟩

theorem TS.cells {w : World} {a : Addr} {l : List Ty} {d : Nat} (h : TS w (some a) l d) : ∀ j u, (tcs l)[j]? = some u → w.cell? (a.add j) = some u := by
  intro j u hu
  have hj : j < l.length * 2 := by
    have := (List.getElem?_eq_some_iff.1 hu).1
    rwa [tcs_length] at this
  rcases h with h | ⟨off, ha, hc⟩
  · rw [h] at hj; simp at hj
  · cases ha
    rw [Addr.add_lit]
    have hk : j / 2 < l.length := by omega
    obtain ⟨g0, g1⟩ := tcs_get l (j / 2) hk
    obtain ⟨h0, h1⟩ := hc (j / 2) hk
    rcases Nat.mod_two_eq_zero_or_one j with e | e
    · have ej : j / 2 * 2 = j := by omega
      rw [ej] at g0 h0
      rw [h0, ← hu, g0]
    · have ej : j / 2 * 2 + 1 = j := by omega
      rw [ej] at g1
      rw [show off + j / 2 * 2 + 1 = off + j by omega] at h1
      rw [h1, ← hu, g1]

/-- A row of types that the call owns. -/
abbrev Own (w : World) (B : Nat) (v : Value) (l : List Ty) : Prop := w.ownsRow B 62 2 v l.length (tcs l)

theorem own_slice {w : World} {B : Nat} {v : Value} {l : List Ty} (h : Own w B v l) : ∃ ao cap, v = .slice ao l.length cap := by
  rcases h.2 with ⟨rfl, h0⟩ | ⟨g, cap, _, rfl, _⟩
  · exact ⟨none, 0, by rw [h0]⟩
  · exact ⟨_, _, rfl⟩

theorem own_mono {w : World} {B C : Nat} {v : Value} {l : List Ty} (h : Own w B v l) (hC : C ≤ B) : Own w C v l := by
  refine ⟨h.1, ?_⟩
  rcases h.2 with q | ⟨g, cap, cur, q1, q2, q3⟩
  · exact .inl q
  · exact .inr ⟨g, cap, cur, q1, by omega, q3⟩

theorem own_only {w w' : World} {B : Nat} {S : List Nat} {v : Value} {l : List Ty} (h : Own w B v l) (ho : Only S w w') (hn : ∀ k, v.ownBlock = some k → k ∉ S) : Own w' B v l := by
  refine ⟨h.1, ?_⟩
  rcases h.2 with q | ⟨g, cap, cur, q1, q2, q3, q4⟩
  · exact .inl q
  · subst q1
    exact .inr ⟨g, cap, cur, rfl, q2, by rw [ho.block g (Array.getElem?_eq_some_iff.1 q3).1 (hn g rfl)]; exact q3, q4⟩

/-- What the call owns is a row that is read. -/
theorem TS.of_owns {w : World} {B : Nat} {ao : Option Addr} {cap : Nat} {l : List Ty} (h : Own w B (.slice ao l.length cap) l) :
    TS w ao l ((ao.map (·.block)).getD 0) ∧ l.length ≤ cap ∧ cap ≤ maxLen ∧ (ao = none → cap = 0) ∧ (∀ a, ao = some a → B ≤ a.block ∧ a.block < w.heap.size ∧ a = ⟨a.block, 0, none⟩) := by
  rcases h.2 with ⟨hv, h0⟩ | ⟨g, cap', cur, hv, hb, hg, hn, hm, hs, ht⟩
  · have : l = [] := List.eq_nil_of_length_eq_zero h0
    subst this
    simp at hv
    obtain ⟨rfl, rfl⟩ := hv
    exact ⟨TS.nil _ _ _, Nat.le_refl _, by decide, fun _ => rfl, fun a ha => by cases ha⟩
  · simp at hv
    obtain ⟨rfl, rfl⟩ := hv
    refine ⟨.inr ⟨0, rfl, fun j hj => ?_⟩, hn, hm, (fun e => by cases e), fun a ha => ?_⟩
    · obtain ⟨g0, g1⟩ := tcs_get l j hj
      have k0 := h.cells (g := g) rfl (j * 2) _ g0
      have k1 := h.cells (g := g) rfl (j * 2 + 1) _ g1
      rw [Addr.add_lit] at k0 k1
      exact ⟨k0, k1⟩
    · simp at ha
      subst ha
      exact ⟨hb, (Array.getElem?_eq_some_iff.1 hg).1, rfl⟩

end Go.Proofs.YtemjhlhioeopnabDoor
