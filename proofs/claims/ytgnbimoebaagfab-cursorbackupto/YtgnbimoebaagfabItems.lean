/-
  How a slice of items is read that came in. No conditions.
-/
import Derived.Test.YtgnbimoebaagfabArgs
import Derived.Deep.Strs
namespace Go.Proofs.Ytgnbimoebaagfab
open Go.ChangeShapes Go.WideShapes Go.ChangeAt Go.RowKit

/-- An item that came in. -/
structure Itm where
  kind : Int
  n : Int
  bo : Option Addr
  bs : List UInt8
  bcap : Nat
  bd : Nat

/-- Where the items of a slice lie that is read. -/
def IS (w : World) (ao : Option Addr) (l : List Itm) (d : Nat) : Prop :=
  l = [] ∨ ∃ off, ao = some ⟨d, off, none⟩ ∧ ∀ j (h : j < l.length), w.cell? ⟨d, off + j * 3, none⟩ = some (.int .i64 l[j].kind) ∧ w.cell? ⟨d, off + j * 3 + 1, none⟩ = some (.int .i64 l[j].n) ∧
    w.cell? ⟨d, off + j * 3 + 2, none⟩ = some (.slice l[j].bo l[j].bs.length l[j].bcap)

theorem IS.below {w w' : World} {ao : Option Addr} {l : List Itm} {d : Nat} (h : IS w ao l d) (ho : Only [] w w') : IS w' ao l d := by
  rcases h with h | ⟨off, ha, hc⟩
  · exact .inl h
  · refine .inr ⟨off, ha, fun j hj => ?_⟩
    obtain ⟨h1, h2, h3⟩ := hc j hj
    exact ⟨by rw [ho.cell (World.block_lt_of_cell? w _ h1) (by simp)]; exact h1, by rw [ho.cell (World.block_lt_of_cell? w _ h2) (by simp)]; exact h2, by rw [ho.cell (World.block_lt_of_cell? w _ h3) (by simp)]; exact h3⟩

theorem list_of_each {α : Type} {P : Nat → α → Prop} (n : Nat) (h : ∀ j, j < n → ∃ y, P j y) : ∃ l : List α, l.length = n ∧ ∀ j (hj : j < l.length), P j l[j] := by
  induction n with
  | zero => exact ⟨[], rfl, fun j hj => by simp at hj⟩
  | succ n ih =>
    obtain ⟨l, hl, hp⟩ := ih (fun j hj => h j (by omega))
    obtain ⟨y, hy⟩ := h n (by omega)
    refine ⟨l ++ [y], by simp [hl], fun j hj => ?_⟩
    by_cases e : j < l.length
    · rw [List.getElem_append_left e]
      exact hp j e
    · have : j = l.length := by simp at hj; omega
      subst this
      rw [List.getElem_append_right (Nat.le_refl _)]
      simp
      rw [hl]
      exact hy

/-- What the reading tells of the bytes of an item. -/
def Told {H : Type} (db : DataW H) (bs : List UInt8) (cap : Nat) : Prop := db = .nil ∧ bs = [] ∨ ∃ zs : List Int, zs.length = cap ∧ bs = toBytes (zs.take bs.length) ∧ db = .slice (lits .u8 (zs.take bs.length)) (lits .u8 (zs.drop bs.length))

section
variable {H : Type} {enc : TypeId × Value → H} {W : World} {base : Nat} {d : DataW H} {p : List MemPlace}

/-- Bytes in a cell. -/
theorem cell_bytes {fuel : Nat} {cs : List Value} {x : DataW H × List MemPlace} (hf : DataW.trod enc Try.prog W 0 (fun _ => true) true fuel 27 cs = some x) :
    ∃ ao cap bs k, cs = [.slice ao bs.length cap] ∧ BS W ao bs k ∧ (ao = none → cap = 0) ∧ bs.length ≤ cap ∧ Told x.1 bs cap := by
  rcases open_ints Try.underlying27 Try.underlying5 cells5 hf with ⟨hcs, hx⟩ | ⟨a, len, cap, zs, hcs, _, hl, hm, hz, hx, hcell, hwz⟩
  · subst hcs hx
    exact ⟨none, 0, [], 0, rfl, BS.nil _ _ _, fun _ => rfl, Nat.le_refl _, .inl ⟨rfl, rfl⟩⟩
  · subst hcs hx
    simp only [if_true] at hz
    have hlen : (toBytes (zs.take len)).length = len := by rw [toBytes_length]; simp; omega
    refine ⟨some a, cap, toBytes (zs.take len), a.block, by rw [hlen], ?_, (fun e => by cases e), by rw [hlen]; exact hl, .inr ⟨zs, hz, by rw [hlen], by rw [hlen]⟩⟩
    by_cases h0 : len = 0
    · left
      rw [h0]
      rfl
    · right
      have hc0 := hcell 0 (by omega)
      obtain ⟨b, off, spot⟩ := a
      have hspot : spot = none := by simpa [Addr.add] using World.cell?_spot hc0
      subst hspot
      refine ⟨off, rfl, fun j hj => ?_⟩
      rw [hlen] at hj
      have := hcell j (by omega)
      rw [Addr.add_lit] at this
      rw [this]
      have hj2 : j < zs.length := by omega
      have e : (toBytes (zs.take len))[j]'(by rw [hlen]; exact hj) = UInt8.ofNat (zs[j]).toNat := by simp [toBytes]
      rw [e, wf_byte _ (hwz _ (List.getElem_mem hj2))]
      rw [List.getD, List.getElem?_eq_getElem hj2]
      rfl

/-- A slice of items that came in. -/
theorem arg_items {v : Value} (hval : Value.okWide Try.prog W .any base 22 v) (h : DataW.Trod enc Try.prog W 0 (fun _ => true) true 22 v d p) :
    ∃ ao cap l k, v = .slice ao l.length cap ∧ IS W ao l k ∧ l.length ≤ 9223372036854775807 ∧
      (∀ it ∈ l, BS W it.bo it.bs it.bd ∧ (it.bo = none → it.bcap = 0) ∧ it.bs.length ≤ it.bcap ∧ (Lit.int .i64 it.n).wf = true) ∧
      (d = .nil ∧ l = [] ∨ ∃ ds sp, d = .slice ds sp ∧ ds.length = l.length ∧ ∀ j (hj : j < l.length), ∃ db, ds[j]? = some (.agg [.lit (.int .i64 l[j].kind), .lit (.int .i64 l[j].n), db]) ∧ Told db l[j].bs l[j].bcap) := by
  obtain ⟨a0, len, cap, rfl⟩ := okWide_slice Try.underlying22 hval
  obtain ⟨fuel, hf⟩ := h
  rcases DataW.trod_slice Try.underlying22 hf with ⟨hcs, hx⟩ | ⟨a, len', cap', elems, rest, n, _, hcs, hx, _, hl, hm, hlen, hel, _, _⟩
  · simp [Value.cells] at hcs
    obtain ⟨rfl, rfl, rfl⟩ := hcs
    simp only [Prod.mk.injEq] at hx
    obtain ⟨rfl, rfl⟩ := hx
    exact ⟨none, 0, [], 0, rfl, .inl rfl, by simp, by simp, .inl ⟨rfl, rfl⟩⟩
  · simp [Value.cells] at hcs
    obtain ⟨rfl, rfl, rfl⟩ := hcs
    simp only [Prod.mk.injEq] at hx
    obtain ⟨rfl, _⟩ := hx
    have hC : Try.prog.cellsOf 29 = 3 := by kernel_rfl
    have each : ∀ j, j < len → ∃ it : Itm, W.cell? ((a.add (j * 3)).add 0) = some (.int .i64 it.kind) ∧ W.cell? ((a.add (j * 3)).add 1) = some (.int .i64 it.n) ∧ W.cell? ((a.add (j * 3)).add 2) = some (.slice it.bo it.bs.length it.bcap) ∧
        (BS W it.bo it.bs it.bd ∧ (it.bo = none → it.bcap = 0) ∧ it.bs.length ≤ it.bcap ∧ (Lit.int .i64 it.n).wf = true) ∧ ∃ db, (elems.map (·.1))[j]? = some (.agg [.lit (.int .i64 it.kind), .lit (.int .i64 it.n), db]) ∧ Told db it.bs it.bcap := by
      intro j hj
      have hj' := hel j hj
      rw [hC] at hj'
      have hjl : j < elems.length := by omega
      rw [List.getElem?_eq_getElem hjl] at hj'
      obtain ⟨cs, hcs, htr⟩ := Option.bind_eq_some_iff.1 hj'
      obtain ⟨y0, y1, y2, m, hy, hcl, t0, t1, t2⟩ := Go.Deep.trod_struct3 Try.underlying29 htr
      have hcells := World.cells?_some hcs
      rw [hC] at hcl
      have k3 : Try.prog.cellsOf 3 = 1 := by kernel_rfl
      have k2 : Try.prog.cellsOf 2 = 1 := by kernel_rfl
      have k22 : Try.prog.cellsOf 27 = 1 := by kernel_rfl
      simp only [k3, k2, k22] at t0 t1 t2
      match cs, hcl with
      | [c0, c1, c2], _ =>
        obtain ⟨kind, e0, f0, _⟩ := DataW.trod_int Try.underlying3 t0
        obtain ⟨nn, e1, f1, wn⟩ := DataW.trod_int Try.underlying2 t1
        obtain ⟨ao, bcap, bs, bd, e2, hbs, hbn, hbl, htold⟩ := cell_bytes t2
        simp at e0 e1 e2
        subst e0 e1 e2
        refine ⟨⟨kind, nn, ao, bs, bcap, bd⟩, ?_, ?_, ?_, ⟨hbs, hbn, hbl, wn⟩, y2.1, ?_, htold⟩
        · exact hcells.2.2 0 (by omega)
        · exact hcells.2.2 1 (by omega)
        · exact hcells.2.2 2 (by omega)
        · rw [List.getElem?_map, List.getElem?_eq_getElem hjl, hy, f0, f1]
          rfl
    obtain ⟨l, hll, hp⟩ := list_of_each len each
    refine ⟨some a, cap, l, a.block, by rw [hll], ?_, by simp only [maxLen] at hm; omega, fun it hit => ?_, .inr ⟨_, _, rfl, by simp; omega, fun j hj => (hp j hj).2.2.2.2⟩⟩
    · by_cases h0 : len = 0
      · left
        exact List.eq_nil_of_length_eq_zero (by omega)
      · right
        have hc0 := (hp 0 (by omega)).1
        obtain ⟨b, off, spot⟩ := a
        have hspot : spot = none := by simpa [Addr.add] using World.cell?_spot hc0
        subst hspot
        refine ⟨off, rfl, fun j hj => ?_⟩
        obtain ⟨g0, g1, g2, _⟩ := hp j hj
        rw [Addr.add_lit, Addr.add_lit] at g0 g1 g2
        exact ⟨g0, g1, g2⟩
    · obtain ⟨j, hj, rfl⟩ := List.getElem_of_mem hit
      exact (hp j hj).2.2.2.1
end

end Go.Proofs.Ytgnbimoebaagfab
