/-
  Entries: as values, as cells, as rows that are read or owned. No conditions.
-/
import Derived.Test.YtemjhlhioeopnabDoorDRow
namespace Go.Proofs.YtemjhlhioeopnabDoor
open Go.RowKit

/-- An entry: its kind, its text, its number, its three entries. -/
abbrev En := Int × List UInt8 × Int × Int × Int × Int
def enV (e : En) : Value := .agg #[.int .i64 e.1, .string (str e.2.1), .int .i64 e.2.2.1, .int .i64 e.2.2.2.1, .int .i64 e.2.2.2.2.1, .int .i64 e.2.2.2.2.2]
def en0 : En := (0, [], 0, 0, 0, 0)

/-- Entries as cells. -/
def ecs : List En → List Value
  | [] => []
  | e :: l => .int .i64 e.1 :: .string (str e.2.1) :: .int .i64 e.2.2.1 :: .int .i64 e.2.2.2.1 :: .int .i64 e.2.2.2.2.1 :: .int .i64 e.2.2.2.2.2 :: ecs l

theorem ecs_length (l : List En) : (ecs l).length = l.length * 6 := by
  induction l with
  | nil => rfl
  | cons e l ih => simp [ecs, ih]; omega

theorem ecs_append (a b : List En) : ecs (a ++ b) = ecs a ++ ecs b := by
  induction a with
  | nil => rfl
  | cons e l ih => simp [ecs, ih]

theorem ecs_one (l : List En) : ∀ u ∈ ecs l, u.oneCell' = true := by
  induction l with
  | nil => simp [ecs]
  | cons t l ih =>
    intro u hu
    simp [ecs] at hu
    rcases hu with rfl | rfl | rfl | rfl | rfl | rfl | hu
    · rfl
    · rfl
    · rfl
    · rfl
    · rfl
    · rfl
    · exact ih u hu

theorem ecs_get (l : List En) (j : Nat) (h : j < l.length) : (ecs l)[j * 6]? = some (.int .i64 l[j].1) ∧ (ecs l)[j * 6 + 1]? = some (.string (str l[j].2.1)) ∧ (ecs l)[j * 6 + 2]? = some (.int .i64 l[j].2.2.1) ∧ (ecs l)[j * 6 + 3]? = some (.int .i64 l[j].2.2.2.1) ∧ (ecs l)[j * 6 + 4]? = some (.int .i64 l[j].2.2.2.2.1) ∧ (ecs l)[j * 6 + 5]? = some (.int .i64 l[j].2.2.2.2.2) := by
  induction l generalizing j with
  | nil => simp at h
  | cons t l ih =>
    cases j with
    | zero => exact ⟨rfl, rfl, rfl, rfl, rfl, rfl⟩
    | succ j =>
      have := ih j (by simpa using h)
      simp only [ecs, Nat.add_mul, Nat.one_mul, List.getElem_cons_succ]
      exact this

theorem ecs_take (l : List En) (n : Nat) : (ecs l).take (n * 6) = ecs (l.take n) := by
  induction l generalizing n with
  | nil => simp [ecs]
  | cons t l ih =>
    cases n with
    | zero => simp [ecs]
    | succ n =>
      rw [show (n + 1) * 6 = n * 6 + 6 by omega]
      simp [ecs, ih]

theorem infoE : (Tryd.prog.info? 67).map (fun i => (i.zero, i.size, i.bytes)) = some (some (.agg #[.int .i64 0, .string ⟨#[]⟩, .int .i64 0, .int .i64 0, .int .i64 0, .int .i64 0]), 6, 56) := by kernel_rfl

/-- An entry in memory. -/
structure EnAt (w : World) (b off : Nat) (e : En) : Prop where
  c0 : w.cell? ⟨b, off, none⟩ = some (.int .i64 e.1)
  c1 : w.cell? ⟨b, off + 1, none⟩ = some (.string (str e.2.1))
  c2 : w.cell? ⟨b, off + 2, none⟩ = some (.int .i64 e.2.2.1)
  c3 : w.cell? ⟨b, off + 3, none⟩ = some (.int .i64 e.2.2.2.1)
  c4 : w.cell? ⟨b, off + 4, none⟩ = some (.int .i64 e.2.2.2.2.1)
  c5 : w.cell? ⟨b, off + 5, none⟩ = some (.int .i64 e.2.2.2.2.2)

theorem EnAt.lt {w : World} {b off : Nat} {e : En} (h : EnAt w b off e) : b < w.heap.size := World.block_lt_of_cell? w _ h.c0

theorem EnAt.only {w w' : World} {S : List Nat} {b off : Nat} {e : En} (h : EnAt w b off e) (ho : Only S w w') (hb : b ∉ S) : EnAt w' b off e := by
  have hl := h.lt
  exact ⟨by rw [ho.cell hl hb]; exact h.c0, by rw [ho.cell hl hb]; exact h.c1, by rw [ho.cell hl hb]; exact h.c2, by rw [ho.cell hl hb]; exact h.c3, by rw [ho.cell hl hb]; exact h.c4, by rw [ho.cell hl hb]; exact h.c5⟩

theorem enAt_new (w : World) (e : En) (t : TypeId) : EnAt (w.alloc (.cells #[.int .i64 e.1, .string (str e.2.1), .int .i64 e.2.2.1, .int .i64 e.2.2.2.1, .int .i64 e.2.2.2.2.1, .int .i64 e.2.2.2.2.2] t)) w.heap.size 0 e :=
  ⟨by rw [cell_new]; rfl, by rw [cell_new]; rfl, by rw [cell_new]; rfl, by rw [cell_new]; rfl, by rw [cell_new]; rfl, by rw [cell_new]; rfl⟩

/-- Where the entries of a slice lie that is read: nowhere, if there are none; else in block d, one behind the other. -/
def ES (w : World) (ao : Option Addr) (l : List En) (d : Nat) : Prop :=
  l = [] ∨ ∃ off, ao = some ⟨d, off, none⟩ ∧ ∀ j (h : j < l.length), EnAt w d (off + j * 6) l[j]

theorem ES.nil (w : World) (ao : Option Addr) (d : Nat) : ES w ao [] d := .inl rfl

theorem ES.lt {w : World} {ao : Option Addr} {l : List En} {d : Nat} (h : ES w ao l d) (hn : l ≠ []) : d < w.heap.size := by
  rcases h with h | ⟨off, _, hc⟩
  · exact absurd h hn
  · exact (hc 0 (List.length_pos_iff.2 hn)).lt

theorem ES.only {w w' : World} {S : List Nat} {ao : Option Addr} {l : List En} {d : Nat} (h : ES w ao l d) (ho : Only S w w') (hn : l ≠ [] → d ∉ S) : ES w' ao l d := by
  rcases h with h | ⟨off, ha, hc⟩
  · exact .inl h
  · by_cases hb : l = []
    · exact .inl hb
    exact .inr ⟨off, ha, fun j hj => (hc j hj).only ho (hn hb)⟩

theorem ES.none_nil {w : World} {l : List En} {d : Nat} (h : ES w none l d) : l = [] := by
  rcases h with h | ⟨off, ha, _⟩
  · exact h
  · cases ha

theorem ES.take {w : World} {ao : Option Addr} {l : List En} {d : Nat} (h : ES w ao l d) (n : Nat) : ES w ao (l.take n) d := by
  rcases h with h | ⟨off, ha, hc⟩
  · exact .inl (by simp [h])
  · exact .inr ⟨off, ha, fun j hj => by simp at hj; simpa using hc j (by omega)⟩

theorem ES.cells {w : World} {a : Addr} {l : List En} {d : Nat} (h : ES w (some a) l d) : ∀ j u, (ecs l)[j]? = some u → w.cell? (a.add j) = some u := by
  intro j u hu
  have hj : j < l.length * 6 := by
    have := (List.getElem?_eq_some_iff.1 hu).1
    rwa [ecs_length] at this
  rcases h with h | ⟨off, ha, hc⟩
  · rw [h] at hj; simp at hj
  · cases ha
    rw [Addr.add_lit]
    have hk : j / 6 < l.length := by omega
    obtain ⟨g0, g1, g2, g3, g4, g5⟩ := ecs_get l (j / 6) hk
    obtain ⟨h0, h1, h2, h3, h4, h5⟩ := hc (j / 6) hk
    have hm : j % 6 < 6 := Nat.mod_lt _ (by decide)
    rcases (by omega : j % 6 = 0 ∨ j % 6 = 1 ∨ j % 6 = 2 ∨ j % 6 = 3 ∨ j % 6 = 4 ∨ j % 6 = 5) with e | e | e | e | e | e
    · have ej : j / 6 * 6 = j := by omega
      rw [ej] at g0 h0
      rw [h0, ← hu, g0]
    · have ej : j / 6 * 6 + 1 = j := by omega
      rw [ej] at g1
      rw [show off + j / 6 * 6 + 1 = off + j by omega] at h1
      rw [h1, ← hu, g1]
    · have ej : j / 6 * 6 + 2 = j := by omega
      rw [ej] at g2
      rw [show off + j / 6 * 6 + 2 = off + j by omega] at h2
      rw [h2, ← hu, g2]
    · have ej : j / 6 * 6 + 3 = j := by omega
      rw [ej] at g3
      rw [show off + j / 6 * 6 + 3 = off + j by omega] at h3
      rw [h3, ← hu, g3]
    · have ej : j / 6 * 6 + 4 = j := by omega
      rw [ej] at g4
      rw [show off + j / 6 * 6 + 4 = off + j by omega] at h4
      rw [h4, ← hu, g4]
    · have ej : j / 6 * 6 + 5 = j := by omega
      rw [ej] at g5
      rw [show off + j / 6 * 6 + 5 = off + j by omega] at h5
      rw [h5, ← hu, g5]

/-- A row of entries that the call owns. -/
abbrev OwE (w : World) (B : Nat) (v : Value) (l : List En) : Prop := w.ownsRow B 67 6 v l.length (ecs l)

theorem owe_nil (w : World) (B : Nat) : OwE w B (.slice none 0 0) [] := World.ownsRow_nil _ _ _ _

theorem owe_slice {w : World} {B : Nat} {v : Value} {l : List En} (h : OwE w B v l) : ∃ ao cap, v = .slice ao l.length cap := by
  rcases h.2 with ⟨rfl, h0⟩ | ⟨g, cap, _, rfl, _⟩
  · exact ⟨none, 0, by rw [h0]⟩
  · exact ⟨_, _, rfl⟩

theorem owe_mono {w : World} {B C : Nat} {v : Value} {l : List En} (h : OwE w B v l) (hC : C ≤ B) : OwE w C v l := by
  refine ⟨h.1, ?_⟩
  rcases h.2 with q | ⟨g, cap, cur, q1, q2, q3⟩
  · exact .inl q
  · exact .inr ⟨g, cap, cur, q1, by omega, q3⟩

theorem owe_only {w w' : World} {B : Nat} {S : List Nat} {v : Value} {l : List En} (h : OwE w B v l) (ho : Only S w w') (hn : ∀ k, v.ownBlock = some k → k ∉ S) : OwE w' B v l := by
  refine ⟨h.1, ?_⟩
  rcases h.2 with q | ⟨g, cap, cur, q1, q2, q3, q4⟩
  · exact .inl q
  · subst q1
    exact .inr ⟨g, cap, cur, rfl, q2, by rw [ho.block g (Array.getElem?_eq_some_iff.1 q3).1 (hn g rfl)]; exact q3, q4⟩

theorem owe_set {w : World} {B : Nat} {v : Value} {l : List En} (h : OwE w B v l) (p : Addr) (hp : p.block < B) (u : Value) : OwE (w.setCell p u) B v l := by
  refine owe_only (S := [p.block]) h ((Only.refl _ w).setCell (.inl (by simp)) u) ?_
  intro k hk
  rcases h.2 with ⟨rfl, _⟩ | ⟨g, cap, _, rfl, q2, _⟩
  · cases hk
  · simp [Value.ownBlock] at hk
    subst hk
    simp
    omega

/-- What the call owns is a row that is read. -/
theorem ES.of_owns {w : World} {B : Nat} {ao : Option Addr} {cap : Nat} {l : List En} (h : OwE w B (.slice ao l.length cap) l) :
    ES w ao l ((ao.map (·.block)).getD 0) ∧ l.length ≤ cap ∧ cap ≤ maxLen ∧ (ao = none → cap = 0) ∧ (∀ a, ao = some a → B ≤ a.block ∧ a.block < w.heap.size ∧ a = ⟨a.block, 0, none⟩) := by
  rcases h.2 with ⟨hv, h0⟩ | ⟨g, cap', cur, hv, hb, hg, hn, hm, hs, ht⟩
  · have : l = [] := List.eq_nil_of_length_eq_zero h0
    subst this
    simp at hv
    obtain ⟨rfl, rfl⟩ := hv
    exact ⟨ES.nil _ _ _, Nat.le_refl _, by decide, fun _ => rfl, fun a ha => by cases ha⟩
  · simp at hv
    obtain ⟨rfl, rfl⟩ := hv
    refine ⟨.inr ⟨0, rfl, fun j hj => ?_⟩, hn, hm, (fun e => by cases e), fun a ha => ?_⟩
    · obtain ⟨g0, g1, g2, g3, g4, g5⟩ := ecs_get l j hj
      have k0 := h.cells (g := g) rfl (j * 6) _ g0
      have k1 := h.cells (g := g) rfl (j * 6 + 1) _ g1
      have k2 := h.cells (g := g) rfl (j * 6 + 2) _ g2
      have k3 := h.cells (g := g) rfl (j * 6 + 3) _ g3
      have k4 := h.cells (g := g) rfl (j * 6 + 4) _ g4
      have k5 := h.cells (g := g) rfl (j * 6 + 5) _ g5
      rw [Addr.add_lit] at k0 k1 k2 k3 k4 k5
      rw [show 0 + (j * 6 + 1) = 0 + j * 6 + 1 by omega] at k1
      rw [show 0 + (j * 6 + 2) = 0 + j * 6 + 2 by omega] at k2
      rw [show 0 + (j * 6 + 3) = 0 + j * 6 + 3 by omega] at k3
      rw [show 0 + (j * 6 + 4) = 0 + j * 6 + 4 by omega] at k4
      rw [show 0 + (j * 6 + 5) = 0 + j * 6 + 5 by omega] at k5
      exact ⟨k0, k1, k2, k3, k4, k5⟩
    · simp at ha
      subst ha
      exact ⟨hb, (Array.getElem?_eq_some_iff.1 hg).1, rfl⟩

/-- A row cut off behind its first n. -/
theorem owe_take {w : World} {B : Nat} {ao : Option Addr} {cap : Nat} {l : List En} (h : OwE w B (.slice ao l.length cap) l) (n : Nat) (hn : n ≤ l.length) : OwE w B (.slice ao n cap) (l.take n) := by
  have hl : (l.take n).length = n := by simp; omega
  refine ⟨by rw [ecs_length], ?_⟩
  rcases h.2 with ⟨hv, h0⟩ | ⟨g, cap', cur, hv, hb, hg, hc, hm, hs, ht⟩
  · simp only [Value.slice.injEq] at hv
    obtain ⟨rfl, _, rfl⟩ := hv
    have : n = 0 := by omega
    subst this
    exact .inl ⟨rfl, by simp⟩
  · simp at hv
    obtain ⟨rfl, rfl⟩ := hv
    refine .inr ⟨g, cap, cur, by rw [hl], hb, hg, by omega, hm, hs, ?_⟩
    rw [hl, ← ecs_take, ← ht, List.take_take]
    congr 1
    omega

theorem eq_entry (a b : En) (w : World) : (binOp .eql 67 (enV a) (enV b)).run Tryd.prog w = .ok (.bool (decide (a = b))) w := by
  obtain ⟨k, t, n, x, y, z⟩ := a
  obtain ⟨k', t', n', x', y', z'⟩ := b
  have hS : Tryd.prog.underlying 67 = some (.struct (Tryd.prog.fieldsOf 67)) := by kernel_rfl
  have hp : Tryd.prog.stoodInHeld 67 = false := by kernel_rfl
  simp only [enV]
  rw [run_eql_struct, show (10000 : Nat) = 9999 + 1 from rfl, run_equalIn_agg w 9999 67 _ _ hS hp]
  simp only [Program.fieldsOf, Tryd.underlying67]
  go_simp
  simp only [str_toList]
  by_cases h1 : k = k' <;> by_cases h2 : t = t' <;> by_cases h3 : n = n' <;> by_cases h4 : x = x' <;> by_cases h5 : y = y' <;> by_cases h6 : z = z' <;> simp [h1, h2, h3, h4, h5, h6]

theorem neq_entry (a b : En) (w : World) : (binOp .neq 67 (enV a) (enV b)).run Tryd.prog w = .ok (.bool (!decide (a = b))) w := by
  obtain ⟨k, t, n, x, y, z⟩ := a
  obtain ⟨k', t', n', x', y', z'⟩ := b
  have hS : Tryd.prog.underlying 67 = some (.struct (Tryd.prog.fieldsOf 67)) := by kernel_rfl
  have hp : Tryd.prog.stoodInHeld 67 = false := by kernel_rfl
  simp only [enV]
  rw [run_neq_struct, show (10000 : Nat) = 9999 + 1 from rfl, run_equalIn_agg w 9999 67 _ _ hS hp]
  simp only [Program.fieldsOf, Tryd.underlying67]
  go_simp
  simp only [str_toList]
  by_cases h1 : k = k' <;> by_cases h2 : t = t' <;> by_cases h3 : n = n' <;> by_cases h4 : x = x' <;> by_cases h5 : y = y' <;> by_cases h6 : z = z' <;> simp [h1, h2, h3, h4, h5, h6]

end Go.Proofs.YtemjhlhioeopnabDoor
