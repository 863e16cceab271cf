/-
  A row of numbers that came in. No conditions.
-/
import Derived.Test.YtkaklabcfhefaaaAArgs
namespace Go.Proofs.Ytkaklabcfhefaaa
open Go.ChangeShapes Go.WideShapes Go.ChangeAt Go.RowKit

section
variable {H : Type} {enc : TypeId × Value → H} {W : World}

/-- Numbers that came in. -/
theorem arg_ints {base : Nat} {d : DataW H} {p : List MemPlace} {v : Value} (hval : Value.okWide Try.prog W .any base 47 v) (h : DataW.Trod enc Try.prog W 0 (fun _ => true) true 47 v d p) : ∃ ao cap l k, v = .slice ao l.length cap ∧ RS W ao (ics l) k ∧ (∀ x ∈ l, i64 x) ∧ l.length ≤ 9223372036854775807 := by
  obtain ⟨a0, len, cap, rfl⟩ := okWide_slice Try.underlying47 hval
  obtain ⟨fuel, hf⟩ := h
  obtain ⟨l, cs, h1, h2, _⟩ := cell_row (A := fun c (y : Int) _ => c = [.int .i64 y] ∧ i64 y) Try.underlying47 c_int (by decide) (fun fuel cs x h => by
    obtain ⟨n, e1, _, hw⟩ := DataW.trod_int Try.underlying3 h
    exact ⟨n, e1, i64_lit hw⟩) (x := (d, p)) (fuel := fuel) (by simpa [Value.cells] using hf)
  obtain ⟨h3, h4⟩ := els_all h2
  have h5 := els_flat_eq h3 (by decide) (fun _ => rfl)
  obtain ⟨ao, cp, dd, hv, hS⟩ := h1
  refine ⟨ao, cp, l, dd, hv, ?_, h4, Nat.le_trans hS.le hS.max⟩
  have := hS.rs
  rw [h5] at this
  have e : ∀ l : List Int, (l.flatMap fun x => [Value.int .i64 x]) = ics l := by
    intro l
    induction l with
    | nil => rfl
    | cons t l ih => rw [List.flatMap_cons, ih]; rfl
  rw [e] at this
  exact this
end

end Go.Proofs.Ytkaklabcfhefaaa
