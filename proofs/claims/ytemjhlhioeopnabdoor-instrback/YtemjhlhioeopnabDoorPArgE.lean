/-
  How entries are read that came in. No conditions.
-/
import Derived.Test.YtemjhlhioeopnabDoorPEnt
import Derived.ProofKit
import Derived.OpenShut
import Derived.ShutString
import Derived.ChangeOld
import Derived.ChangeMaps5
import Derived.SizedLaws
import Derived.SliceStrings
import Derived.ChangeSame
import Derived.Deep.Strs
namespace Go.Proofs.YtemjhlhioeopnabDoor
open Go.ChangeShapes Go.WideShapes Go.ChangeAt Go.RowKit

theorem own : ownKnob Tryd.prog.godebug = none := by kernel_rfl
theorem laidOut : laidOutB Tryd.prog = true := by kernel_rfl

theorem list_of_each {α : Type} {P : Nat → α → Prop} (n : Nat) (h : ∀ j, j < n → ∃ y, P j y) : ∃ l : List α, l.length = n ∧ ∀ j (hj : j < l.length), P j l[j] := by
  induction n with
  | zero => exact ⟨[], rfl, fun j hj => by simp at hj⟩
  | succ n ih =>
    obtain ⟨l, hl, hp⟩ := ih (fun j hj => h j (by omega))
    obtain ⟨y, hy⟩ := h n (by omega)
    refine ⟨l ++ [y], by simp [hl], fun j hj => ?_⟩
    by_cases e : j < l.length
    · rw [List.getElem_append_left e]
      exact hp j e
    · have : j = l.length := by simp at hj; omega
      subst this
      rw [List.getElem_append_right (Nat.le_refl _)]
      simp
      rw [hl]
      exact hy

theorem list6 {α : Type} {l : List α} (h : l.length = 6) : ∃ a b c d e f, l = [a, b, c, d, e, f] := by
  match l, h with
  | [a, b, c, d, e, f], _ => exact ⟨a, b, c, d, e, f, rfl⟩

/-- An entry that came in: its text is a text, its numbers are numbers. -/
structure EnCame (e : En) : Prop where
  text : e.2.1.length ≤ 9223372036854775807
  kind : (Lit.int .i64 e.1).wf = true
  num : (Lit.int .i64 e.2.2.1).wf = true
  a : (Lit.int .i64 e.2.2.2.1).wf = true
  b : (Lit.int .i64 e.2.2.2.2.1).wf = true
  c : (Lit.int .i64 e.2.2.2.2.2).wf = true

theorem bulk_mem {H : Type} (l : List (DataW H)) (d : DataW H) (h : d ∈ l) : Rows.uptoBulk d ≤ Rows.uptoBulkAll l := by
  induction l with
  | nil => cases h
  | cons x l ih =>
    simp only [Rows.uptoBulkAll]
    rcases List.mem_cons.1 h with rfl | h
    · omega
    · have := ih h
      omega

section
variable {H : Type} {enc : TypeId × Value → H} {W : World} {base : Nat} {d : DataW H} {p : List MemPlace}

theorem trod_struct6 {t : TypeId} {f0 f1 f2 f3 f4 f5 : Field} {fuel : Nat} {cs : List Value} {x : DataW H × List MemPlace} (ht : Tryd.prog.underlying t = some (.struct #[f0, f1, f2, f3, f4, f5])) (h : DataW.trod enc Tryd.prog W 0 (fun _ => true) true fuel t cs = some x) :
    ∃ y0 y1 y2 y3 y4 y5 n, x.1 = .agg [y0.1, y1.1, y2.1, y3.1, y4.1, y5.1] ∧ cs.length = Tryd.prog.cellsOf t ∧ DataW.trod enc Tryd.prog W 0 (fun _ => true) true n f0.type ((cs.drop f0.offset).take (Tryd.prog.cellsOf f0.type)) = some y0 ∧
      DataW.trod enc Tryd.prog W 0 (fun _ => true) true n f1.type ((cs.drop f1.offset).take (Tryd.prog.cellsOf f1.type)) = some y1 ∧ DataW.trod enc Tryd.prog W 0 (fun _ => true) true n f2.type ((cs.drop f2.offset).take (Tryd.prog.cellsOf f2.type)) = some y2 ∧
      DataW.trod enc Tryd.prog W 0 (fun _ => true) true n f3.type ((cs.drop f3.offset).take (Tryd.prog.cellsOf f3.type)) = some y3 ∧ DataW.trod enc Tryd.prog W 0 (fun _ => true) true n f4.type ((cs.drop f4.offset).take (Tryd.prog.cellsOf f4.type)) = some y4 ∧
      DataW.trod enc Tryd.prog W 0 (fun _ => true) true n f5.type ((cs.drop f5.offset).take (Tryd.prog.cellsOf f5.type)) = some y5 := by
  obtain ⟨xs, n, _, rfl, hl, hlen, hf⟩ := DataW.trod_struct ht h
  obtain ⟨y0, y1, y2, y3, y4, y5, rfl⟩ := list6 hlen
  exact ⟨y0, y1, y2, y3, y4, y5, n, by simp, hl, by simpa using hf 0 f0 rfl, by simpa using hf 1 f1 rfl, by simpa using hf 2 f2 rfl, by simpa using hf 3 f3 rfl, by simpa using hf 4 f4 rfl, by simpa using hf 5 f5 rfl⟩

theorem cells_entry {fuel : Nat} {cs : List Value} {x : DataW H × List MemPlace} (hf : DataW.trod enc Tryd.prog W 0 (fun _ => true) true fuel 67 cs = some x) :
    ∃ e : En, cs = [.int .i64 e.1, .string (str e.2.1), .int .i64 e.2.2.1, .int .i64 e.2.2.2.1, .int .i64 e.2.2.2.2.1, .int .i64 e.2.2.2.2.2] ∧ EnCame e ∧ e.2.1.length ≤ Rows.uptoBulk x.1 := by
  obtain ⟨y0, y1, y2, y3, y4, y5, n, hx, hl, h0, h1, h2, h3, h4, h5⟩ := trod_struct6 Tryd.underlying67 hf
  have hC : Tryd.prog.cellsOf 67 = 6 := by kernel_rfl
  have k0 : Tryd.prog.cellsOf 3 = 1 := by kernel_rfl
  have k1 : Tryd.prog.cellsOf 9 = 1 := by kernel_rfl
  have k2 : Tryd.prog.cellsOf 2 = 1 := by kernel_rfl
  rw [hC] at hl
  obtain ⟨c0, c1, c2, c3, c4, c5, rfl⟩ := list6 hl
  simp only [k0, k1, k2] at h0 h1 h2 h3 h4 h5
  obtain ⟨i0, e0, _, w0⟩ := DataW.trod_int Tryd.underlying3 h0
  obtain ⟨s, e1, q1, hs⟩ := DataW.trod_string Tryd.underlying9 h1
  obtain ⟨i2, e2, _, w2⟩ := DataW.trod_int Tryd.underlying2 h2
  obtain ⟨i3, e3, _, w3⟩ := DataW.trod_int Tryd.underlying3 h3
  obtain ⟨i4, e4, _, w4⟩ := DataW.trod_int Tryd.underlying3 h4
  obtain ⟨i5, e5, _, w5⟩ := DataW.trod_int Tryd.underlying3 h5
  simp at e0 e1 e2 e3 e4 e5
  subst e0 e1 e2 e3 e4 e5
  have hsz : s.data.toList.length = s.size := by cases s; rfl
  refine ⟨(i0, s.data.toList, i2, i3, i4, i5), by rw [← str_of], ⟨by rw [hsz]; simpa [maxLen] using hs, w0, w2, w3, w4, w5⟩, ?_⟩
  rw [hx]
  simp only [Rows.uptoBulk, Rows.uptoBulkAll, q1]
  omega

theorem cell_entries {fuel : Nat} {ao : Option Addr} {len cap : Nat} {x : DataW H × List MemPlace} (hf : DataW.trod enc Tryd.prog W 0 (fun _ => true) true fuel 40 [.slice ao len cap] = some x) :
    ∃ l k, len = l.length ∧ ES W ao l k ∧ l.length ≤ 9223372036854775807 ∧ l.length ≤ cap ∧ (ao = none → cap = 0) ∧ (∀ e ∈ l, EnCame e ∧ e.2.1.length ≤ Rows.uptoBulk x.1) := by
  rcases DataW.trod_slice Tryd.underlying40 hf with ⟨hcs, hx⟩ | ⟨a, len', cap', elems, rest, n, _, hcs, hx, _, hl, hm, hlen, hel, _, _⟩
  · simp at hcs
    obtain ⟨rfl, rfl, rfl⟩ := hcs
    exact ⟨[], 0, rfl, .inl rfl, by simp, by simp, fun _ => rfl, by simp⟩
  · simp at hcs
    obtain ⟨rfl, rfl, rfl⟩ := hcs
    have hC : Tryd.prog.cellsOf 67 = 6 := by kernel_rfl
    have each : ∀ j, j < len → ∃ e : En, W.cell? ((a.add (j * 6)).add 0) = some (.int .i64 e.1) ∧ W.cell? ((a.add (j * 6)).add 1) = some (.string (str e.2.1)) ∧ W.cell? ((a.add (j * 6)).add 2) = some (.int .i64 e.2.2.1) ∧ W.cell? ((a.add (j * 6)).add 3) = some (.int .i64 e.2.2.2.1) ∧ W.cell? ((a.add (j * 6)).add 4) = some (.int .i64 e.2.2.2.2.1) ∧ W.cell? ((a.add (j * 6)).add 5) = some (.int .i64 e.2.2.2.2.2) ∧ EnCame e ∧ e.2.1.length ≤ Rows.uptoBulk x.1 := by
      intro j hj
      have hj' := hel j hj
      rw [hC] at hj'
      have hjl : j < elems.length := by omega
      rw [List.getElem?_eq_getElem hjl] at hj'
      obtain ⟨cs, hcs, htr⟩ := Option.bind_eq_some_iff.1 hj'
      have hcells := World.cells?_some hcs
      obtain ⟨e, rfl, hc, hb⟩ := cells_entry htr
      refine ⟨e, hcells.2.2 0 (by omega), hcells.2.2 1 (by omega), hcells.2.2 2 (by omega), hcells.2.2 3 (by omega), hcells.2.2 4 (by omega), hcells.2.2 5 (by omega), hc, ?_⟩
      rw [hx]
      simp only [Rows.uptoBulk]
      have := bulk_mem (elems.map (·.1)) elems[j].1 (List.mem_map.2 ⟨elems[j], List.getElem_mem hjl, rfl⟩)
      omega
    obtain ⟨l, hll, hp⟩ := list_of_each len each
    refine ⟨l, a.block, hll.symm, ?_, by simp only [maxLen] at hm; omega, by omega, (fun e => by cases e), fun t ht => ?_⟩
    · by_cases h0 : len = 0
      · left
        exact List.eq_nil_of_length_eq_zero (by omega)
      · right
        have hc0 := (hp 0 (by omega)).1
        obtain ⟨b, off, spot⟩ := a
        have hspot : spot = none := by simpa [Addr.add] using World.cell?_spot hc0
        subst hspot
        refine ⟨off, rfl, fun j hj => ?_⟩
        obtain ⟨g0, g1, g2, g3, g4, g5, _⟩ := hp j hj
        rw [Addr.add_lit, Addr.add_lit] at g0 g1 g2 g3 g4 g5
        exact ⟨g0, g1, g2, g3, g4, g5⟩
    · obtain ⟨j, hj, rfl⟩ := List.getElem_of_mem ht
      exact (hp j hj).2.2.2.2.2.2

set_option maxRecDepth 100000 in
/-- Entries that came in. -/
theorem arg_entries {v : Value} (hval : Value.okWide Tryd.prog W .any base 40 v) (h : DataW.Trod enc Tryd.prog W 0 (fun _ => true) true 40 v d p) :
    ∃ ao cap l k, v = .slice ao l.length cap ∧ ES W ao l k ∧ l.length ≤ 9223372036854775807 ∧ l.length ≤ cap ∧ (ao = none → cap = 0) ∧ (∀ e ∈ l, EnCame e ∧ e.2.1.length ≤ Rows.uptoBulk d) := by
  obtain ⟨a0, len, cap, rfl⟩ := okWide_slice Tryd.underlying40 hval
  obtain ⟨fuel, hf⟩ := h
  obtain ⟨l, k, rfl, h1, h2, h3, h4, h5⟩ := cell_entries (x := (d, p)) (ao := a0) (len := len) (cap := cap) (fuel := fuel) (by simpa [Value.cells] using hf)
  exact ⟨a0, cap, l, k, rfl, h1, h2, h3, h4, h5⟩
end

end Go.Proofs.YtemjhlhioeopnabDoor
