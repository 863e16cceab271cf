/-
  How a builder's calls are read that came in. No conditions.
-/
import Derived.Test.YtcdjddakdlflmabPArgE
import Derived.Test.YtcdjddakdlflmabPCall
namespace Go.Proofs.Ytcdjddakdlflmab
open Go.ChangeShapes Go.WideShapes Go.ChangeAt Go.RowKit

theorem list10 {α : Type} {l : List α} (h : l.length = 10) : ∃ a b c d e f g i j k, l = [a, b, c, d, e, f, g, i, j, k] := by
  match l, h with
  | [a, b, c, d, e, f, g, i, j, k], _ => exact ⟨a, b, c, d, e, f, g, i, j, k, rfl⟩

section
variable {H : Type} {enc : TypeId × Value → H} {W : World} {base : Nat} {d : DataW H} {p : List MemPlace}

theorem cells_type {fuel : Nat} {c0 c1 : Value} {x : DataW H × List MemPlace} (hf : DataW.trod enc Try.prog W 0 (fun _ => true) true fuel 31 [c0, c1] = some x) :
    ∃ t : Ty, c0 = .int .i64 t.1 ∧ c1 = .string (str t.2) ∧ t.2.length ≤ 9223372036854775807 := by
  obtain ⟨y0, y1, n, _, _, h0, h1⟩ := trod_struct2 Try.underlying31 hf
  have k0 : Try.prog.cellsOf 3 = 1 := by kernel_rfl
  have k1 : Try.prog.cellsOf 9 = 1 := by kernel_rfl
  simp only [k0, k1] at h0 h1
  obtain ⟨i, e0, _, wi⟩ := DataW.trod_int Try.underlying3 h0
  obtain ⟨s, e1, _, hs⟩ := DataW.trod_string Try.underlying9 h1
  simp at e0 e1
  subst e0 e1
  refine ⟨(i, s.data.toList), rfl, by rw [← str_of], ?_⟩
  have : s.data.toList.length = s.size := by cases s; rfl
  rw [this]
  simpa [maxLen] using hs

theorem cell_types {fuel : Nat} {v : Value} {x : DataW H × List MemPlace} (hf : DataW.trod enc Try.prog W 0 (fun _ => true) true fuel 32 [v] = some x) :
    ∃ ao cap l k, v = .slice ao l.length cap ∧ TS W ao l k ∧ l.length ≤ 9223372036854775807 ∧ (ao = none → cap = 0) ∧ (∀ t ∈ l, t.2.length ≤ 9223372036854775807) := by
  rcases DataW.trod_slice Try.underlying32 hf with ⟨hcs, hx⟩ | ⟨a, len, cap, elems, rest, n, _, hcs, hx, _, hl, hm, hlen, hel, _, _⟩
  · simp at hcs
    subst hcs
    exact ⟨none, 0, [], 0, rfl, .inl rfl, by simp, fun _ => rfl, by simp⟩
  · simp at hcs
    subst hcs
    have hC : Try.prog.cellsOf 31 = 2 := by kernel_rfl
    have each : ∀ j, j < len → ∃ t : Ty, W.cell? ((a.add (j * 2)).add 0) = some (.int .i64 t.1) ∧ W.cell? ((a.add (j * 2)).add 1) = some (.string (str t.2)) ∧ t.2.length ≤ 9223372036854775807 := by
      intro j hj
      have hj' := hel j hj
      rw [hC] at hj'
      have hjl : j < elems.length := by omega
      rw [List.getElem?_eq_getElem hjl] at hj'
      obtain ⟨cs, hcs, htr⟩ := Option.bind_eq_some_iff.1 hj'
      have hcells := World.cells?_some hcs
      have hcl : cs.length = 2 := hcells.2.1
      match cs, hcl with
      | [c0, c1], _ =>
        obtain ⟨t, rfl, rfl, hc⟩ := cells_type htr
        exact ⟨t, hcells.2.2 0 (by omega), hcells.2.2 1 (by omega), hc⟩
    obtain ⟨l, hll, hp⟩ := list_of_each len each
    refine ⟨some a, cap, l, a.block, by rw [hll], ?_, by simp only [maxLen] at hm; omega, (fun e => by cases e), fun t ht => ?_⟩
    · by_cases h0 : len = 0
      · left
        exact List.eq_nil_of_length_eq_zero (by omega)
      · right
        have hc0 := (hp 0 (by omega)).1
        obtain ⟨b, off, spot⟩ := a
        have hspot : spot = none := by simpa [Addr.add] using World.cell?_spot hc0
        subst hspot
        refine ⟨off, rfl, fun j hj => ?_⟩
        obtain ⟨g0, g1, _⟩ := hp j hj
        rw [Addr.add_lit, Addr.add_lit] at g0 g1
        exact ⟨g0, g1⟩
    · obtain ⟨j, hj, rfl⟩ := List.getElem_of_mem ht
      exact (hp j hj).2.2

theorem cells_sig {fuel : Nat} {c0 c1 c2 c3 : Value} {x : DataW H × List MemPlace} (hf : DataW.trod enc Try.prog W 0 (fun _ => true) true fuel 34 [c0, c1, c2, c3] = some x) :
    ∃ ao cap l k void, ∃ t : Ty, c0 = .slice ao l.length cap ∧ c1 = .bool void ∧ c2 = .int .i64 t.1 ∧ c3 = .string (str t.2) ∧ TS W ao l k ∧ l.length ≤ 9223372036854775807 ∧ (ao = none → cap = 0) ∧ (∀ t ∈ l, t.2.length ≤ 9223372036854775807) ∧ t.2.length ≤ 9223372036854775807 := by
  obtain ⟨y0, y1, y2, n, _, _, h0, h1, h2⟩ := Go.Deep.trod_struct3 Try.underlying34 hf
  have k0 : Try.prog.cellsOf 32 = 1 := by kernel_rfl
  have k1 : Try.prog.cellsOf 4 = 1 := by kernel_rfl
  have k2 : Try.prog.cellsOf 31 = 2 := by kernel_rfl
  simp only [k0, k1, k2] at h0 h1 h2
  obtain ⟨b, e1, _⟩ := DataW.trod_bool Try.underlying4 h1
  simp at e1
  subst e1
  obtain ⟨t, rfl, rfl, hc⟩ := cells_type h2
  obtain ⟨ao, cap, l, k, e, g1, g2, g3, g4⟩ := cell_types h0
  exact ⟨ao, cap, l, k, b, t, e, rfl, rfl, rfl, g1, g2, g3, g4, hc⟩

theorem cells_call {fuel : Nat} {cs : List Value} {x : DataW H × List MemPlace} (hf : DataW.trod enc Try.prog W 0 (fun _ => true) true fuel 36 cs = some x) :
    ∃ c : Cal, cs = [.int .i64 c.k, .int .i64 c.n, .string (str c.c), .string (str c.m), .int .i64 c.t.1, .string (str c.t.2), .slice c.ao c.ps.length c.cap, .bool c.v, .int .i64 c.r.1, .string (str c.r.2)] ∧ CalOK W c := by
  obtain ⟨y0, y1, y2, y3, y4, y5, n, hx, hl, h0, h1, h2, h3, h4, h5⟩ := trod_struct6 Try.underlying36 hf
  have hC : Try.prog.cellsOf 36 = 10 := by kernel_rfl
  have k0 : Try.prog.cellsOf 3 = 1 := by kernel_rfl
  have k1 : Try.prog.cellsOf 9 = 1 := by kernel_rfl
  have k2 : Try.prog.cellsOf 2 = 1 := by kernel_rfl
  have k3 : Try.prog.cellsOf 31 = 2 := by kernel_rfl
  have k4 : Try.prog.cellsOf 34 = 4 := by kernel_rfl
  rw [hC] at hl
  obtain ⟨c0, c1, c2, c3, c4, c5, c6, c7, c8, c9, rfl⟩ := list10 hl
  simp only [k0, k1, k2, k3, k4] at h0 h1 h2 h3 h4 h5
  obtain ⟨i0, e0, _, w0⟩ := DataW.trod_int Try.underlying3 h0
  obtain ⟨i1, e1, _, w1⟩ := DataW.trod_int Try.underlying2 h1
  obtain ⟨s2, e2, _, hs2⟩ := DataW.trod_string Try.underlying9 h2
  obtain ⟨s3, e3, _, hs3⟩ := DataW.trod_string Try.underlying9 h3
  obtain ⟨t, rfl, rfl, ht⟩ := cells_type h4
  obtain ⟨ao, cap, l, k, void, r, rfl, rfl, rfl, rfl, g1, g2, g3, g4, g5⟩ := cells_sig h5
  simp at e0 e1 e2 e3
  subst e0 e1 e2 e3
  have z2 : s2.data.toList.length = s2.size := by cases s2; rfl
  have z3 : s3.data.toList.length = s3.size := by cases s3; rfl
  refine ⟨⟨i0, i1, s2.data.toList, s3.data.toList, t, ao, cap, k, l, void, r⟩, by simp only [← str_of], ⟨g1, g3, by rw [z2]; simpa [maxLen] using hs2, by rw [z3]; simpa [maxLen] using hs3, ht, g2, g4, g5⟩⟩

set_option maxRecDepth 100000 in
/-- A call that came in. -/
theorem arg_call {v : Value} (hval : Value.okWide Try.prog W .any base 36 v) (h : DataW.Trod enc Try.prog W 0 (fun _ => true) true 36 v d p) : ∃ c : Cal, v = clV c ∧ CalOK W c := by
  obtain ⟨cs, rfl, hsz⟩ := okWide_struct Try.underlying36 hval
  obtain ⟨fuel, hf⟩ := h
  obtain ⟨l⟩ := cs
  obtain ⟨c, hc, hok⟩ := cells_call (cs := l) (x := (d, p)) (fuel := fuel) (by simpa [Value.cells] using hf)
  subst hc
  exact ⟨c, rfl, hok⟩

set_option maxRecDepth 100000 in
/-- Calls that came in. -/
theorem arg_calls {v : Value} (hval : Value.okWide Try.prog W .any base 22 v) (h : DataW.Trod enc Try.prog W 0 (fun _ => true) true 22 v d p) :
    ∃ ao cap l k, v = .slice ao l.length cap ∧ CS W ao l k ∧ l.length ≤ 9223372036854775807 ∧ l.length ≤ cap ∧ (ao = none → cap = 0) ∧ (∀ c ∈ l, CalOK W c) := by
  obtain ⟨a0, len0, cap0, rfl⟩ := okWide_slice Try.underlying22 hval
  obtain ⟨fuel, hf0⟩ := h
  have hf : DataW.trod enc Try.prog W 0 (fun _ => true) true fuel 22 [.slice a0 len0 cap0] = some (d, p) := by simpa [Value.cells] using hf0
  rcases DataW.trod_slice Try.underlying22 hf with ⟨hcs, hx⟩ | ⟨a, len, cap, elems, rest, n, _, hcs, hx, _, hl, hm, hlen, hel, _, _⟩
  · simp at hcs
    obtain ⟨rfl, rfl, rfl⟩ := hcs
    exact ⟨none, 0, [], 0, rfl, .inl rfl, by simp, by simp, fun _ => rfl, by simp⟩
  · simp at hcs
    obtain ⟨rfl, rfl, rfl⟩ := hcs
    have hC : Try.prog.cellsOf 36 = 10 := by kernel_rfl
    have each : ∀ j, j < len0 → ∃ c : Cal, (∀ i u, [Value.int .i64 c.k, .int .i64 c.n, .string (str c.c), .string (str c.m), .int .i64 c.t.1, .string (str c.t.2), .slice c.ao c.ps.length c.cap, .bool c.v, .int .i64 c.r.1, .string (str c.r.2)][i]? = some u → W.cell? ((a.add (j * 10)).add i) = some u) ∧ CalOK W c := by
      intro j hj
      have hj' := hel j hj
      rw [hC] at hj'
      have hjl : j < elems.length := by omega
      rw [List.getElem?_eq_getElem hjl] at hj'
      obtain ⟨cs, hcs, htr⟩ := Option.bind_eq_some_iff.1 hj'
      have hcells := World.cells?_some hcs
      obtain ⟨c, rfl, hok⟩ := cells_call htr
      refine ⟨c, fun i u hu => ?_, hok⟩
      have hi := (List.getElem?_eq_some_iff.1 hu).1
      rw [hcells.2.2 i (by simpa using hi), ← hu]
    obtain ⟨l, hll, hp⟩ := list_of_each len0 each
    refine ⟨some a, cap0, l, a.block, by rw [hll], ?_, by simp only [maxLen] at hm; omega, by omega, (fun e => by cases e), fun t ht => ?_⟩
    · by_cases h0 : len0 = 0
      · left
        exact List.eq_nil_of_length_eq_zero (by omega)
      · right
        have hc0 := (hp 0 (by omega)).1 0 _ rfl
        obtain ⟨b, off, spot⟩ := a
        have hspot : spot = none := by simpa [Addr.add] using World.cell?_spot hc0
        subst hspot
        refine ⟨off, rfl, fun j hj => ?_⟩
        have g := (hp j hj).1
        have g0 := g 0 _ rfl
        have g1 := g 1 _ rfl
        have g2 := g 2 _ rfl
        have g3 := g 3 _ rfl
        have g4 := g 4 _ rfl
        have g5 := g 5 _ rfl
        have g6 := g 6 _ rfl
        have g7 := g 7 _ rfl
        have g8 := g 8 _ rfl
        have g9 := g 9 _ rfl
        rw [Addr.add_lit, Addr.add_lit] at g0 g1 g2 g3 g4 g5 g6 g7 g8 g9
        exact ⟨g0, g1, g2, g3, g4, g5, g6, g7, g8, g9⟩
    · obtain ⟨j, hj, rfl⟩ := List.getElem_of_mem ht
      exact (hp j hj).2
end

end Go.Proofs.Ytcdjddakdlflmab
