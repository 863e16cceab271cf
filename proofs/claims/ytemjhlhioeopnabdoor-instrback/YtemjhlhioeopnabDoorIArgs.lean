/-
  How bytes, instructions and the table of words are read that came in. No conditions.
-/
import Derived.Test.YtemjhlhioeopnabDoorIIn
import Derived.Test.YtemjhlhioeopnabDoorIName
import Derived.Test.YtemjhlhioeopnabDoorPArgE
import Derived.Lib.LaidTab
import Derived.Deep.DeepHandedRow
namespace Go.Proofs.YtemjhlhioeopnabDoor
open Go.ChangeShapes Go.WideShapes Go.ChangeAt Go.RowKit

theorem cells5 : Tryd.prog.cellsOf 5 = 1 := by kernel_rfl

/-- Numbers of a row as bytes. -/
def toBytes (zs : List Int) : List UInt8 := zs.map fun n => UInt8.ofNat n.toNat

theorem toBytes_length (zs : List Int) : (toBytes zs).length = zs.length := by simp [toBytes]

theorem wf_byte (n : Int) (h : (Lit.int .u8 n).wf = true) : ((UInt8.ofNat n.toNat).toNat : Int) = n := by
  have := bounds_u8 h
  rw [UInt8.toNat_ofNat']
  omega

section
variable {H : Type} {enc : TypeId × Value → H} {W : World} {base : Nat} {d : DataW H} {p : List MemPlace}

set_option maxRecDepth 100000 in
/-- A slice of bytes that came in. -/
theorem arg_bytes {v : Value} (hval : Value.okWide Tryd.prog W .any base 23 v) (h : DataW.Trod enc Tryd.prog W 0 (fun _ => true) true 23 v d p) :
    ∃ ao cap bs k, v = .slice ao bs.length cap ∧ RS W ao (bcs bs) k ∧ bs.length ≤ cap ∧ cap ≤ 9223372036854775807 ∧ (ao = none → cap = 0) := by
  obtain ⟨a0, len, cap, rfl⟩ := okWide_slice Tryd.underlying23 hval
  obtain ⟨fuel, hf⟩ := h
  rcases open_ints Tryd.underlying23 Tryd.underlying5 cells5 hf with ⟨hcs, hx⟩ | ⟨a, len', cap', zs, hcs, _, hl, hm, hz, hx, hcell, hwz⟩
  · simp [Value.cells] at hcs
    obtain ⟨rfl, rfl, rfl⟩ := hcs
    exact ⟨none, 0, [], 0, rfl, RS.nil _ _ _, Nat.le_refl _, by decide, fun _ => rfl⟩
  · simp [Value.cells] at hcs
    obtain ⟨rfl, rfl, rfl⟩ := hcs
    simp only [if_true] at hz
    have hlen : (toBytes (zs.take len)).length = len := by rw [toBytes_length]; simp; omega
    refine ⟨some a, cap, toBytes (zs.take len), a.block, by rw [hlen], ?_, by rw [hlen]; exact hl, by simp only [maxLen] at hm; omega, (fun e => by cases e)⟩
    by_cases h0 : len = 0
    · left
      rw [h0]
      rfl
    · right
      have hc0 := hcell 0 (by omega)
      obtain ⟨b, off, spot⟩ := a
      have hspot : spot = none := by simpa [Addr.add] using World.cell?_spot hc0
      subst hspot
      refine ⟨off, rfl, fun j u hj => ?_⟩
      have hjl : j < len := by
        have := (List.getElem?_eq_some_iff.1 hj).1
        rw [bcs_length, hlen] at this
        omega
      have := hcell j (by omega)
      rw [Addr.add_lit] at this
      rw [this, ← hj, bcs_get _ j (by rw [hlen]; exact hjl)]
      have hj2 : j < zs.length := by omega
      have e : (toBytes (zs.take len))[j]'(by rw [hlen]; exact hjl) = UInt8.ofNat (zs[j]).toNat := by simp [toBytes]
      rw [e, wf_byte _ (hwz _ (List.getElem_mem hj2))]
      rw [List.getD, List.getElem?_eq_getElem hj2]
      rfl

theorem list4 {α : Type} {l : List α} (h : l.length = 4) : ∃ a b c d, l = [a, b, c, d] := by
  match l, h with
  | [a, b, c, d], _ => exact ⟨a, b, c, d, rfl⟩

theorem trod_struct4 {t : TypeId} {f0 f1 f2 f3 : Field} {fuel : Nat} {cs : List Value} {x : DataW H × List MemPlace} (ht : Tryd.prog.underlying t = some (.struct #[f0, f1, f2, f3])) (h : DataW.trod enc Tryd.prog W 0 (fun _ => true) true fuel t cs = some x) :
    ∃ y0 y1 y2 y3 n, x.1 = .agg [y0.1, y1.1, y2.1, y3.1] ∧ cs.length = Tryd.prog.cellsOf t ∧ DataW.trod enc Tryd.prog W 0 (fun _ => true) true n f0.type ((cs.drop f0.offset).take (Tryd.prog.cellsOf f0.type)) = some y0 ∧
      DataW.trod enc Tryd.prog W 0 (fun _ => true) true n f1.type ((cs.drop f1.offset).take (Tryd.prog.cellsOf f1.type)) = some y1 ∧ DataW.trod enc Tryd.prog W 0 (fun _ => true) true n f2.type ((cs.drop f2.offset).take (Tryd.prog.cellsOf f2.type)) = some y2 ∧
      DataW.trod enc Tryd.prog W 0 (fun _ => true) true n f3.type ((cs.drop f3.offset).take (Tryd.prog.cellsOf f3.type)) = some y3 := by
  obtain ⟨xs, n, _, rfl, hl, hlen, hf⟩ := DataW.trod_struct ht h
  obtain ⟨y0, y1, y2, y3, rfl⟩ := list4 hlen
  exact ⟨y0, y1, y2, y3, n, by simp, hl, by simpa using hf 0 f0 rfl, by simpa using hf 1 f1 rfl, by simpa using hf 2 f2 rfl, by simpa using hf 3 f3 rfl⟩

set_option maxRecDepth 100000 in
theorem cells_instr {fuel : Nat} {cs : List Value} {x : DataW H × List MemPlace} (hf : DataW.trod enc Tryd.prog W 0 (fun _ => true) true fuel 31 cs = some x) :
    ∃ i : In, cs = [.int .i64 i.1, .int .i64 i.2.1, .int .i64 i.2.2.1, .int .i64 i.2.2.2] := by
  obtain ⟨y0, y1, y2, y3, n, hx, hl, h0, h1, h2, h3⟩ := trod_struct4 Tryd.underlying31 hf
  have hC : Tryd.prog.cellsOf 31 = 4 := by kernel_rfl
  have k0 : Tryd.prog.cellsOf 3 = 1 := by kernel_rfl
  rw [hC] at hl
  obtain ⟨c0, c1, c2, c3, rfl⟩ := list4 hl
  simp only [k0] at h0 h1 h2 h3
  obtain ⟨i0, e0, _, w0⟩ := DataW.trod_int Tryd.underlying3 h0
  obtain ⟨i1, e1, _, w1⟩ := DataW.trod_int Tryd.underlying3 h1
  obtain ⟨i2, e2, _, w2⟩ := DataW.trod_int Tryd.underlying3 h2
  obtain ⟨i3, e3, _, w3⟩ := DataW.trod_int Tryd.underlying3 h3
  simp at e0 e1 e2 e3
  subst e0 e1 e2 e3
  exact ⟨(i0, i1, i2, i3), rfl⟩

set_option maxRecDepth 100000 in
/-- An instruction that came in. -/
theorem arg_instr {v : Value} (hval : Value.okWide Tryd.prog W .any base 31 v) (h : DataW.Trod enc Tryd.prog W 0 (fun _ => true) true 31 v d p) : ∃ i : In, v = inV i := by
  obtain ⟨cs, rfl, hsz⟩ := okWide_struct Tryd.underlying31 hval
  obtain ⟨fuel, hf⟩ := h
  obtain ⟨l⟩ := cs
  obtain ⟨i, hi⟩ := cells_instr (cs := l) (by simpa [Value.cells] using hf)
  subst hi
  exact ⟨i, rfl⟩

set_option maxRecDepth 100000 in
/-- Instructions that came in. -/
theorem arg_instrs {v : Value} (hval : Value.okWide Tryd.prog W .any base 22 v) (h : DataW.Trod enc Tryd.prog W 0 (fun _ => true) true 22 v d p) :
    ∃ ao cap l k, v = .slice ao l.length cap ∧ RS W ao (qcs l) k ∧ l.length ≤ cap ∧ cap ≤ 9223372036854775807 ∧ (ao = none → cap = 0) := by
  obtain ⟨a0, len, cap, rfl⟩ := okWide_slice Tryd.underlying22 hval
  obtain ⟨fuel, hf⟩ := h
  rcases DataW.trod_slice Tryd.underlying22 hf with ⟨hcs, hx⟩ | ⟨a, len', cap', elems, rest, n, _, hcs, hx, _, hl, hm, hlen, hel, _, _⟩
  · simp [Value.cells] at hcs
    obtain ⟨rfl, rfl, rfl⟩ := hcs
    exact ⟨none, 0, [], 0, rfl, .inl rfl, by simp, by decide, fun _ => rfl⟩
  · simp [Value.cells] at hcs
    obtain ⟨rfl, rfl, rfl⟩ := hcs
    have hC : Tryd.prog.cellsOf 31 = 4 := by kernel_rfl
    have each : ∀ j, j < len → ∃ i : In, W.cell? ((a.add (j * 4)).add 0) = some (.int .i64 i.1) ∧ W.cell? ((a.add (j * 4)).add 1) = some (.int .i64 i.2.1) ∧ W.cell? ((a.add (j * 4)).add 2) = some (.int .i64 i.2.2.1) ∧ W.cell? ((a.add (j * 4)).add 3) = some (.int .i64 i.2.2.2) := by
      intro j hj
      have hj' := hel j hj
      rw [hC] at hj'
      have hjl : j < elems.length := by omega
      rw [List.getElem?_eq_getElem hjl] at hj'
      obtain ⟨cs, hcs, htr⟩ := Option.bind_eq_some_iff.1 hj'
      have hcells := World.cells?_some hcs
      obtain ⟨e, rfl⟩ := cells_instr htr
      exact ⟨e, hcells.2.2 0 (by omega), hcells.2.2 1 (by omega), hcells.2.2 2 (by omega), hcells.2.2 3 (by omega)⟩
    obtain ⟨l, hll, hp⟩ := list_of_each len each
    refine ⟨some a, cap, l, a.block, by rw [hll], ?_, by omega, by simp only [maxLen] at hm; omega, (fun e => by cases e)⟩
    by_cases h0 : len = 0
    · left
      have : l = [] := List.eq_nil_of_length_eq_zero (by omega)
      subst this
      rfl
    · right
      have hc0 := (hp 0 (by omega)).1
      obtain ⟨b, off, spot⟩ := a
      have hspot : spot = none := by simpa [Addr.add] using World.cell?_spot hc0
      subst hspot
      refine ⟨off, rfl, fun j u hj => ?_⟩
      have hjl : j < l.length * 4 := by
        have := (List.getElem?_eq_some_iff.1 hj).1
        rwa [qcs_length] at this
      have hk : j / 4 < l.length := by omega
      obtain ⟨g0, g1, g2, g3⟩ := hp (j / 4) hk
      obtain ⟨q0, q1, q2, q3⟩ := qcs_get l (j / 4) hk
      rw [Addr.add_lit, Addr.add_lit] at g0 g1 g2 g3
      rcases (by omega : j % 4 = 0 ∨ j % 4 = 1 ∨ j % 4 = 2 ∨ j % 4 = 3) with e | e | e | e
      · rw [show j / 4 * 4 = j by omega] at q0
        rw [show off + j / 4 * 4 + 0 = off + j by omega] at g0
        rw [g0, ← hj, q0]
      · rw [show j / 4 * 4 + 1 = j by omega] at q1
        rw [show off + j / 4 * 4 + 1 = off + j by omega] at g1
        rw [g1, ← hj, q1]
      · rw [show j / 4 * 4 + 2 = j by omega] at q2
        rw [show off + j / 4 * 4 + 2 = off + j by omega] at g2
        rw [g2, ← hj, q2]
      · rw [show j / 4 * 4 + 3 = j by omega] at q3
        rw [show off + j / 4 * 4 + 3 = off + j by omega] at g3
        rw [g3, ← hj, q3]
end

theorem gWords : Tryd.prog.globalNamed "keystone/instr.words" = some 0 := by kernel_rfl
theorem gWordsType : (Tryd.prog.globals[0]?).map (·.type) = some 52 := by kernel_rfl
theorem cellsW : Tryd.prog.cellsOf 52 = 46 := by kernel_rfl
theorem cellsS : Tryd.prog.cellsOf 9 = 1 := by kernel_rfl

/-- The table as a row lists it. -/
def wordData {H : Type} : DataW H := .agg (wordsI.map fun s => .lit (.string s))

/-- An array of texts that reads as the table holds its texts, cell for cell. -/
theorem cells_of_words {H : Type} {enc : TypeId × Value → H} {w : World} {base : Nat} {sp : Nat → Bool} {held : Bool} {fuel : Nat} {cs : List Value} {p : List MemPlace}
    (h : DataW.trod enc Tryd.prog w base sp held fuel 52 cs = some (wordData, p)) : ∀ i (hi : i < wordsI.length), cs[i]? = some (.string (str wordsI[i])) := by
  cases fuel with
  | zero => simp [DataW.trod] at h
  | succ fuel =>
    simp only [DataW.trod, Tryd.underlying52, cellsS, cellsW, Nat.mul_one] at h
    split at h
    · rename_i hl
      obtain ⟨xs, hm, hx⟩ := Option.map_eq_some_iff.1 h
      have hxs : xs.map (·.1) = wordsI.map fun s => (DataW.lit (.string s) : DataW H) := by
        have := congrArg Prod.fst hx
        simpa [wordData] using this
      intro i hi
      have hi46 : i < 46 := hi
      obtain ⟨b, hb, hf⟩ := Lib.mapM_at hm i i (by simp [hi46])
      obtain ⟨s, hc, hq, _⟩ := DataW.trod_string Tryd.underlying9 hf
      have h1 : cs[i]? = some (.string s) := by
        have := congrArg (·[0]?) hc
        simpa [List.getElem?_take, List.getElem?_drop] using this
      have h2 : (xs.map (·.1))[i]? = some b.1 := by simp [hb]
      rw [hxs, hq] at h2
      simp only [List.getElem?_map, Option.map_eq_some_iff, DataW.lit.injEq, Lit.string.injEq] at h2
      obtain ⟨s', hs', he⟩ := h2
      rw [List.getElem?_eq_getElem hi] at hs'
      cases hs'
      rw [h1, he, ← str_of]
    · cases h

theorem laid_of {W : World} (h : laidMet Tryd.prog [("keystone/instr.words", wordData)] W) : Laid W := by
  obtain ⟨ps, ⟨g', t', cs, fuel, p, q, hg', ht', hvar, hd, _, _⟩, _⟩ := h
  obtain rfl := Option.some.inj (gWords.symm.trans hg')
  obtain rfl := Option.some.inj (gWordsType.symm.trans ht')
  have hcs := cells_of_words hd
  refine ⟨fun j hj => ?_⟩
  have := World.var?_cell gWords hvar j
  rw [this]
  simpa using hcs j hj

end Go.Proofs.YtemjhlhioeopnabDoor
