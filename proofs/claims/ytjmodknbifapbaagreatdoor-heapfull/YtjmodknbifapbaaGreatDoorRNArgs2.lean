/-
  Rows of numbers that came in, as the runner asks of them. No conditions.
-/
import Derived.Test.YtjmodknbifapbaaGreatDoorRNArgs
import Derived.Test.YtjmodknbifapbaaGreatDoorRN30
import Derived.ChangeSlices
namespace Go.Proofs.YtjmodknbifapbaaGreatDoor
open Go.ChangeShapes Go.WideShapes Go.ChangeAt Go.RowKit

theorem cells_int : Tryz.prog.cellsOf 3 = 1 := by kernel_rfl

section
variable {H : Type} {enc : TypeId × Value → H} {W : World} {base : Nat} {d : DataW H} {p : List MemPlace}

set_option maxRecDepth 100000 in
/-- A slice of numbers that came in. -/
theorem arg_list {v : Value} (hval : Value.okWide Tryz.prog W .any base 22 v) (h : DataW.Trod enc Tryz.prog W 0 (fun _ => true) true 22 v d p) :
    v = .slice none 0 0 ∨ (∃ a c, v = .slice (some a) 0 c) ∨ ∃ A, Rn.LiAt W A ∧ v = .slice (some ⟨A.b, A.off, none⟩) A.zs.length A.cap := by
  obtain ⟨a0, len, cap, rfl⟩ := okWide_slice Tryz.underlying22 hval
  obtain ⟨fuel, hf⟩ := h
  rcases open_ints Tryz.underlying22 Tryz.underlying3 cells_int hf with ⟨hcs, hx⟩ | ⟨a, len', cap', zs, hcs, _, hl, hm, hz, hx, hcell, hwz⟩
  · simp [Value.cells] at hcs
    obtain ⟨rfl, rfl, rfl⟩ := hcs
    exact .inl rfl
  · simp [Value.cells] at hcs
    obtain ⟨rfl, rfl, rfl⟩ := hcs
    simp only [if_true] at hz
    right
    by_cases h0 : len = 0
    · left
      subst h0
      exact ⟨a, cap, rfl⟩
    · right
      have hc0 := hcell 0 (by omega)
      obtain ⟨b, off, spot⟩ := a
      have hspot : spot = none := by simpa [Addr.add] using World.cell?_spot hc0
      subst hspot
      have hlen : (zs.take len).length = len := by simp; omega
      have hat : ∀ j, j < zs.length → W.cell? ⟨b, off + j, none⟩ = some (.int .i64 (zs.getD j 0)) := fun j hj => by
        have := hcell j hj
        rw [Addr.add_lit] at this
        exact this
      refine ⟨⟨b, off, cap, zs.take len⟩, ⟨fun j hj => ?_, fun j z hj => ?_, fun z hz' => ?_, ?_, ?_, ?_⟩, ?_⟩
      · have hj' : j < cap := hj
        show (W.cell? ⟨b, off + j, none⟩).isSome = true
        rw [hat j (by omega)]
        rfl
      · have hj' : (zs.take len)[j]? = some z := hj
        rw [List.getElem?_take] at hj'
        split at hj'
        · rename_i hlt
          show W.cell? ⟨b, off + j, none⟩ = some (.int .i64 z)
          rw [hat j (by omega), List.getD, hj']
          rfl
        · cases hj'
      · exact wf_i64 (hwz z (List.mem_of_mem_take hz'))
      · show (zs.take len).length ≤ cap
        omega
      · show cap ≤ 9223372036854775807
        simp only [maxLen] at hm
        omega
      · show 1 ≤ (zs.take len).length
        omega
      · show Value.slice _ len cap = .slice _ (zs.take len).length cap
        rw [hlen]
end

end Go.Proofs.YtjmodknbifapbaaGreatDoor
