/-
  How the arguments of these statements are read: slices of bytes and of numbers as they come in, with the form's own bound on their size.
-/
import Derived.Test.YtgnbimoebaagfabKnown
import Derived.ProofKit
import Derived.OpenShut
import Derived.ShutString
import Derived.ChangeOld
import Derived.SizedLaws
import Derived.SliceStrings
namespace Go.Proofs.Ytgnbimoebaagfab
open Go.ChangeShapes Go.WideShapes Go.ChangeAt Go.RowKit

theorem own : ownKnob Try.prog.godebug = none := by kernel_rfl
theorem laidOut : laidOutB Try.prog = true := by kernel_rfl
theorem bytes5 : Try.prog.bytesOf 5 = 1 := by kernel_rfl
theorem cells5 : Try.prog.cellsOf 5 = 1 := by kernel_rfl
theorem bytes3 : Try.prog.bytesOf 3 = 8 := by kernel_rfl
theorem cells3 : Try.prog.cellsOf 3 = 1 := by kernel_rfl

/-- Numbers of a row as bytes. -/
def toBytes (zs : List Int) : List UInt8 := zs.map fun n => UInt8.ofNat n.toNat

theorem toBytes_length (zs : List Int) : (toBytes zs).length = zs.length := by simp [toBytes]

theorem wf_byte (n : Int) (h : (Lit.int .u8 n).wf = true) : ((UInt8.ofNat n.toNat).toNat : Int) = n := by
  have := bounds_u8 h
  rw [UInt8.toNat_ofNat']
  omega

section
variable {H : Type} {enc : TypeId × Value → H} {W : World} {base : Nat} {d : DataW H} {p : List MemPlace}

/-- A slice of bytes that came in. -/
theorem arg_bytes {v : Value} (hval : Value.okWide Try.prog W .any base 27 v) (h : DataW.Trod enc Try.prog W 0 (fun _ => true) true 27 v d p) :
    ∃ ao cap bs k, v = .slice ao bs.length cap ∧ BS W ao bs k ∧ (ao = none → cap = 0) ∧ bs.length ≤ cap ∧ (d = .nil ∧ bs = [] ∨ ∃ zs : List Int, zs.length = cap ∧ bs = toBytes (zs.take bs.length) ∧ d = .slice (lits .u8 (zs.take bs.length)) (lits .u8 (zs.drop bs.length))) := by
  obtain ⟨a0, len, cap, rfl⟩ := okWide_slice Try.underlying27 hval
  obtain ⟨fuel, hf⟩ := h
  rcases open_ints Try.underlying27 Try.underlying5 cells5 hf with ⟨hcs, hx⟩ | ⟨a, len', cap', zs, hcs, _, hl, hm, hz, hx, hcell, hwz⟩
  · simp [Value.cells] at hcs
    obtain ⟨rfl, rfl, rfl⟩ := hcs
    simp only [Prod.mk.injEq] at hx
    obtain ⟨rfl, rfl⟩ := hx
    exact ⟨none, 0, [], 0, rfl, BS.nil _ _ _, fun _ => rfl, Nat.le_refl _, .inl ⟨rfl, rfl⟩⟩
  · simp [Value.cells] at hcs
    obtain ⟨rfl, rfl, rfl⟩ := hcs
    simp only [Prod.mk.injEq] at hx
    obtain ⟨rfl, rfl⟩ := hx
    simp only [if_true] at hz
    have hlen : (toBytes (zs.take len)).length = len := by rw [toBytes_length]; simp; omega
    refine ⟨some a, cap, toBytes (zs.take len), a.block, by rw [hlen], ?_, (fun e => by cases e), by rw [hlen]; exact hl, .inr ⟨zs, hz, by rw [hlen], by rw [hlen]⟩⟩
    by_cases h0 : len = 0
    · left
      rw [h0]
      rfl
    · right
      have hc0 := hcell 0 (by omega)
      obtain ⟨b, off, spot⟩ := a
      have hspot : spot = none := by simpa [Addr.add] using World.cell?_spot hc0
      subst hspot
      refine ⟨off, rfl, fun j hj => ?_⟩
      rw [hlen] at hj
      have := hcell j (by omega)
      rw [Addr.add_lit] at this
      rw [this]
      have hj2 : j < zs.length := by omega
      have e : (toBytes (zs.take len))[j]'(by rw [hlen]; exact hj) = UInt8.ofNat (zs[j]).toNat := by simp [toBytes]
      rw [e, wf_byte _ (hwz _ (List.getElem_mem hj2))]
      rw [List.getD, List.getElem?_eq_getElem hj2]
      rfl

/-- The form's own bound. -/
theorem sized_bytes {ts : List TypeId} {ds : List (DataW H)} (hsz : (DataW.weightsEach Try.prog ts ds).all (· ≤ reachBytes) = true) {j : Nat} (ht : ts[j]? = some 27) (hd : ds[j]? = some d) {bs : List UInt8} {cap : Nat} (hl : bs.length ≤ cap)
    (h : d = .nil ∧ bs = [] ∨ ∃ zs : List Int, zs.length = cap ∧ bs = toBytes (zs.take bs.length) ∧ d = .slice (lits .u8 (zs.take bs.length)) (lits .u8 (zs.drop bs.length))) : bs.length ≤ 140737488351232 := by
  rcases h with ⟨_, rfl⟩ | ⟨zs, hz, _, rfl⟩
  · simp
  · have := sized_slice hsz ht hd Try.underlying27
    rw [bytes5] at this
    simp only [lits, List.length_map, List.length_take, List.length_drop, reachBytes] at this
    omega

/-- The capacity of whatever slice came in. -/
theorem slice_cap {t e : TypeId} {a : Option Addr} {len cap : Nat} (h : DataW.Trod enc Try.prog W 0 (fun _ => true) true t (.slice a len cap) d p) (ht : Try.prog.underlying t = some (.slice e)) : cap ≤ 9223372036854775807 := by
  obtain ⟨fuel, hf⟩ := h
  rcases DataW.trod_slice ht hf with ⟨hcs, _⟩ | ⟨a', len', cap', elems, rest, n, _, hcs, _, _, hl, hm, _⟩
  · simp [Value.cells] at hcs
    omega
  · simp [Value.cells] at hcs
    simp only [maxLen] at hm
    omega

/-- The length of whatever slice came in. -/
theorem slice_len {t e : TypeId} {a : Option Addr} {len cap : Nat} (h : DataW.Trod enc Try.prog W 0 (fun _ => true) true t (.slice a len cap) d p) (ht : Try.prog.underlying t = some (.slice e)) : len ≤ 9223372036854775807 := by
  obtain ⟨fuel, hf⟩ := h
  rcases DataW.trod_slice ht hf with ⟨hcs, _⟩ | ⟨a', len', cap', elems, rest, n, _, hcs, _, _, hl, hm, _⟩
  · simp [Value.cells] at hcs
    omega
  · simp [Value.cells] at hcs
    simp only [maxLen] at hm
    omega

/-- A slice of numbers that came in. -/
theorem arg_nums {t e : TypeId} (ht : Try.prog.underlying t = some (.slice e)) (he : Try.prog.underlying e = some (.int .i64)) (hc : Try.prog.cellsOf e = 1) {v : Value} (hval : Value.okWide Try.prog W .any base t v) (h : DataW.Trod enc Try.prog W 0 (fun _ => true) true t v d p) :
    ∃ ao cap ns k, v = .slice ao ns.length cap ∧ NS .i64 W ao ns k ∧ ns.length ≤ cap ∧ (d = .nil ∧ ns = [] ∨ ∃ zs : List Int, zs.length = cap ∧ ns = zs.take ns.length ∧ d = .slice (lits .i64 (zs.take ns.length)) (lits .i64 (zs.drop ns.length))) := by
  obtain ⟨a0, len, cap, rfl⟩ := okWide_slice ht hval
  obtain ⟨fuel, hf⟩ := h
  rcases open_ints ht he hc hf with ⟨hcs, hx⟩ | ⟨a, len', cap', zs, hcs, _, hl, hm, hz, hx, hcell, hwz⟩
  · simp [Value.cells] at hcs
    obtain ⟨rfl, rfl, rfl⟩ := hcs
    simp only [Prod.mk.injEq] at hx
    obtain ⟨rfl, rfl⟩ := hx
    exact ⟨none, 0, [], 0, rfl, .inl rfl, Nat.le_refl _, .inl ⟨rfl, rfl⟩⟩
  · simp [Value.cells] at hcs
    obtain ⟨rfl, rfl, rfl⟩ := hcs
    simp only [Prod.mk.injEq] at hx
    obtain ⟨rfl, rfl⟩ := hx
    simp only [if_true] at hz
    have hlen : (zs.take len).length = len := by simp; omega
    refine ⟨some a, cap, zs.take len, a.block, by rw [hlen], ?_, by rw [hlen]; exact hl, .inr ⟨zs, hz, by rw [hlen], by rw [hlen]⟩⟩
    by_cases h0 : len = 0
    · left
      rw [h0]
      rfl
    · right
      have hc0 := hcell 0 (by omega)
      obtain ⟨b, off, spot⟩ := a
      have hspot : spot = none := by simpa [Addr.add] using World.cell?_spot hc0
      subst hspot
      refine ⟨off, rfl, fun j hj => ?_⟩
      rw [hlen] at hj
      have := hcell j (by omega)
      rw [Addr.add_lit] at this
      rw [this]
      have hj2 : j < zs.length := by omega
      rw [List.getD, List.getElem?_eq_getElem hj2]
      simp

/-- The form's own bound. -/
theorem sized_nums {ts : List TypeId} {ds : List (DataW H)} (hsz : (DataW.weightsEach Try.prog ts ds).all (· ≤ reachBytes) = true) {t e : TypeId} {j : Nat} (ht : ts[j]? = some t) (hd : ds[j]? = some d) (hu : Try.prog.underlying t = some (.slice e)) (h8 : Try.prog.bytesOf e = 8) {ns : List Int} {cap : Nat} (hl : ns.length ≤ cap)
    (h : d = .nil ∧ ns = [] ∨ ∃ zs : List Int, zs.length = cap ∧ ns = zs.take ns.length ∧ d = .slice (lits .i64 (zs.take ns.length)) (lits .i64 (zs.drop ns.length))) : 8 * ns.length ≤ 140737488351232 := by
  rcases h with ⟨_, rfl⟩ | ⟨zs, hz, _, rfl⟩
  · simp
  · have := sized_slice hsz ht hd hu
    rw [h8] at this
    simp only [lits, List.length_map, List.length_take, List.length_drop, reachBytes] at this
    omega

/-- A slice of texts that came in. -/
theorem arg_strings {v : Value} (hval : Value.okWide Try.prog W .any base 56 v) (h : DataW.Trod enc Try.prog W 0 (fun _ => true) true 56 v d p) :
    ∃ ao cap ss k, v = .slice ao ss.length cap ∧ SS W ao ss k ∧ ss.length ≤ 9223372036854775807 ∧ ∀ b ∈ ss, b.size ≤ 9223372036854775807 := by
  obtain ⟨a0, len, cap, rfl⟩ := okWide_slice Try.underlying56 hval
  obtain ⟨fuel, hf⟩ := h
  rcases open_strings Try.underlying56 Try.underlying9 (by kernel_rfl) hf with ⟨hcs, hx⟩ | ⟨a, len', cap', zs, hcs, _, hl, hm, hz, hx, hcell, hwz⟩
  · simp [Value.cells] at hcs
    obtain ⟨rfl, rfl, rfl⟩ := hcs
    exact ⟨none, 0, [], 0, rfl, .inl rfl, by simp, by simp⟩
  · simp [Value.cells] at hcs
    obtain ⟨rfl, rfl, rfl⟩ := hcs
    simp only [if_true] at hz
    have hlen : (zs.take len).length = len := by simp; omega
    refine ⟨some a, cap, zs.take len, a.block, by rw [hlen], ?_, by rw [hlen]; simp only [maxLen] at hm; omega, fun b hb => ?_⟩
    · by_cases h0 : len = 0
      · left
        rw [h0]
        rfl
      · right
        have hc0 := hcell 0 (by omega)
        obtain ⟨b, off, spot⟩ := a
        have hspot : spot = none := by simpa [Addr.add] using World.cell?_spot hc0
        subst hspot
        refine ⟨off, rfl, fun j hj => ?_⟩
        rw [hlen] at hj
        have := hcell j (by omega)
        rw [Addr.add_lit] at this
        rw [this]
        have hj2 : j < zs.length := by omega
        rw [List.getD, List.getElem?_eq_getElem hj2]
        simp
    · have := hwz b (List.mem_of_mem_take hb)
      simp only [maxLen] at this
      omega
end

end Go.Proofs.Ytgnbimoebaagfab
