/-
  How a type, types, a signature are read that came in. No conditions.
-/
import Derived.Test.YtfpdgfgbonbpjaaDArgs
import Derived.Test.YtfpdgfgbonbpjaaDRow
import Derived.ChangeSame
import Derived.Deep.Strs
namespace Go.Proofs.Ytfpdgfgbonbpjaa
open Go.ChangeShapes Go.WideShapes Go.ChangeAt Go.RowKit

theorem list_of_each {α : Type} {P : Nat → α → Prop} (n : Nat) (h : ∀ j, j < n → ∃ y, P j y) : ∃ l : List α, l.length = n ∧ ∀ j (hj : j < l.length), P j l[j] := by
  induction n with
  | zero => exact ⟨[], rfl, fun j hj => by simp at hj⟩
  | succ n ih =>
    obtain ⟨l, hl, hp⟩ := ih (fun j hj => h j (by omega))
    obtain ⟨y, hy⟩ := h n (by omega)
    refine ⟨l ++ [y], by simp [hl], fun j hj => ?_⟩
    by_cases e : j < l.length
    · rw [List.getElem_append_left e]
      exact hp j e
    · have : j = l.length := by simp at hj; omega
      subst this
      rw [List.getElem_append_right (Nat.le_refl _)]
      simp
      rw [hl]
      exact hy

/-- A type that came in: its name is a text, its dimensions a number. -/
def Came (t : Ty) : Prop := t.2.length ≤ 9223372036854775807 ∧ (Lit.int .i64 t.1).wf = true

section
variable {H : Type} {enc : TypeId × Value → H} {W : World} {base : Nat} {d : DataW H} {p : List MemPlace}

theorem cells_type {fuel : Nat} {c0 c1 : Value} {x : DataW H × List MemPlace} (hf : DataW.trod enc Try.prog W 0 (fun _ => true) true fuel 23 [c0, c1] = some x) :
    ∃ t : Ty, c0 = .int .i64 t.1 ∧ c1 = .string (str t.2) ∧ Came t := by
  obtain ⟨y0, y1, n, _, _, h0, h1⟩ := trod_struct2 Try.underlying23 hf
  have k0 : Try.prog.cellsOf 3 = 1 := by kernel_rfl
  have k1 : Try.prog.cellsOf 9 = 1 := by kernel_rfl
  simp only [k0, k1] at h0 h1
  obtain ⟨i, e0, _, wi⟩ := DataW.trod_int Try.underlying3 h0
  obtain ⟨s, e1, _, hs⟩ := DataW.trod_string Try.underlying9 h1
  simp at e0 e1
  subst e0 e1
  refine ⟨(i, s.data.toList), rfl, by rw [← str_of], ?_, wi⟩
  have : s.data.toList.length = s.size := by cases s; rfl
  rw [this]
  simpa [maxLen] using hs

/-- A type that came in. -/
theorem arg_type {v : Value} (hval : Value.okWide Try.prog W .any base 23 v) (h : DataW.Trod enc Try.prog W 0 (fun _ => true) true 23 v d p) : ∃ t : Ty, v = tyV t ∧ Came t := by
  obtain ⟨cs, rfl, hsz⟩ := okWide_struct Try.underlying23 hval
  have hC : Try.prog.cellsOf 23 = 2 := by kernel_rfl
  rw [hC] at hsz
  obtain ⟨fuel, hf⟩ := h
  obtain ⟨l⟩ := cs
  match l, hsz with
  | [c0, c1], _ =>
    obtain ⟨t, rfl, rfl, hc⟩ := cells_type (by simpa [Value.cells] using hf)
    exact ⟨t, rfl, hc⟩

theorem cell_types {fuel : Nat} {ao : Option Addr} {len cap : Nat} {x : DataW H × List MemPlace} (hf : DataW.trod enc Try.prog W 0 (fun _ => true) true fuel 41 [.slice ao len cap] = some x) :
    ∃ l k, len = l.length ∧ TS W ao l k ∧ l.length ≤ 9223372036854775807 ∧ l.length ≤ cap ∧ (ao = none → cap = 0) ∧ (∀ t ∈ l, Came t) := by
  rcases DataW.trod_slice Try.underlying41 hf with ⟨hcs, hx⟩ | ⟨a, len', cap', elems, rest, n, _, hcs, hx, _, hl, hm, hlen, hel, _, _⟩
  · simp at hcs
    obtain ⟨rfl, rfl, rfl⟩ := hcs
    exact ⟨[], 0, rfl, .inl rfl, by simp, by simp, fun _ => rfl, by simp⟩
  · simp at hcs
    obtain ⟨rfl, rfl, rfl⟩ := hcs
    have hC : Try.prog.cellsOf 23 = 2 := by kernel_rfl
    have each : ∀ j, j < len → ∃ t : Ty, W.cell? ((a.add (j * 2)).add 0) = some (.int .i64 t.1) ∧ W.cell? ((a.add (j * 2)).add 1) = some (.string (str t.2)) ∧ Came t := by
      intro j hj
      have hj' := hel j hj
      rw [hC] at hj'
      have hjl : j < elems.length := by omega
      rw [List.getElem?_eq_getElem hjl] at hj'
      obtain ⟨cs, hcs, htr⟩ := Option.bind_eq_some_iff.1 hj'
      have hcells := World.cells?_some hcs
      have hcl : cs.length = 2 := hcells.2.1
      match cs, hcl with
      | [c0, c1], _ =>
        obtain ⟨t, rfl, rfl, hc⟩ := cells_type htr
        exact ⟨t, hcells.2.2 0 (by omega), hcells.2.2 1 (by omega), hc⟩
    obtain ⟨l, hll, hp⟩ := list_of_each len each
    refine ⟨l, a.block, hll.symm, ?_, by simp only [maxLen] at hm; omega, by omega, (fun e => by cases e), fun t ht => ?_⟩
    · by_cases h0 : len = 0
      · left
        exact List.eq_nil_of_length_eq_zero (by omega)
      · right
        have hc0 := (hp 0 (by omega)).1
        obtain ⟨b, off, spot⟩ := a
        have hspot : spot = none := by simpa [Addr.add] using World.cell?_spot hc0
        subst hspot
        refine ⟨off, rfl, fun j hj => ?_⟩
        obtain ⟨g0, g1, _⟩ := hp j hj
        rw [Addr.add_lit, Addr.add_lit] at g0 g1
        exact ⟨g0, g1⟩
    · obtain ⟨j, hj, rfl⟩ := List.getElem_of_mem ht
      exact (hp j hj).2.2

/-- Types that came in. -/
theorem arg_types {v : Value} (hval : Value.okWide Try.prog W .any base 41 v) (h : DataW.Trod enc Try.prog W 0 (fun _ => true) true 41 v d p) :
    ∃ ao cap l k, v = .slice ao l.length cap ∧ TS W ao l k ∧ l.length ≤ 9223372036854775807 ∧ l.length ≤ cap ∧ (ao = none → cap = 0) ∧ (∀ t ∈ l, Came t) := by
  obtain ⟨a0, len, cap, rfl⟩ := okWide_slice Try.underlying41 hval
  obtain ⟨fuel, hf⟩ := h
  obtain ⟨l, k, rfl, h1, h2, h3, h4, h5⟩ := cell_types (by simpa [Value.cells] using hf)
  exact ⟨a0, cap, l, k, rfl, h1, h2, h3, h4, h5⟩
/-- A signature that came in. -/
theorem arg_sig {v : Value} (hval : Value.okWide Try.prog W .any base 43 v) (h : DataW.Trod enc Try.prog W 0 (fun _ => true) true 43 v d p) :
    ∃ ao cap l k void t, v = sigV (.slice ao l.length cap) void t ∧ TS W ao l k ∧ l.length ≤ 9223372036854775807 ∧ l.length ≤ cap ∧ (ao = none → cap = 0) ∧ (∀ t ∈ l, Came t) ∧ Came t := by
  obtain ⟨cs, rfl, hsz⟩ := okWide_struct Try.underlying43 hval
  have hC : Try.prog.cellsOf 43 = 4 := by kernel_rfl
  rw [hC] at hsz
  obtain ⟨fuel, hf⟩ := h
  obtain ⟨y0, y1, y2, n, _, _, h0, h1, h2⟩ := Go.Deep.trod_struct3 Try.underlying43 hf
  have k0 : Try.prog.cellsOf 41 = 1 := by kernel_rfl
  have k1 : Try.prog.cellsOf 4 = 1 := by kernel_rfl
  have k2 : Try.prog.cellsOf 23 = 2 := by kernel_rfl
  simp only [k0, k1, k2] at h0 h1 h2
  obtain ⟨l⟩ := cs
  match l, hsz with
  | [c0, c1, c2, c3], _ =>
    simp [Value.cells] at h0 h1 h2
    obtain ⟨b, e1, _⟩ := DataW.trod_bool Try.underlying4 h1
    simp at e1
    subst e1
    obtain ⟨t, rfl, rfl, hc⟩ := cells_type h2
    rcases DataW.trod_slice Try.underlying41 h0 with ⟨hcs, _⟩ | ⟨a, len', cap', elems, rest, n, _, hcs, _⟩
    · simp at hcs
      subst hcs
      obtain ⟨l, k, e, g1, g2, g3, g4, g5⟩ := cell_types h0
      exact ⟨none, 0, l, k, b, t, by rw [← e]; rfl, g1, g2, g3, g4, g5, hc⟩
    · simp at hcs
      subst hcs
      obtain ⟨l, k, e, g1, g2, g3, g4, g5⟩ := cell_types h0
      exact ⟨some a, cap', l, k, b, t, by rw [← e]; rfl, g1, g2, g3, g4, g5, hc⟩
end

end Go.Proofs.Ytfpdgfgbonbpjaa
