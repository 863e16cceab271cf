/-
  Instructions in memory: one in a block; a row of them; how two are compared. No conditions.
-/
import Derived.Test.YtemjhlhioeopnabDoorISize
namespace Go.Proofs.YtemjhlhioeopnabDoor
open Go.RowKit

theorem elInt : ElT 3 (.int .i64 0) 1 8 := ⟨by kernel_rfl, rfl, by decide, by decide⟩
theorem elByte : ElT 5 (.int .u8 0) 1 1 := ⟨by kernel_rfl, rfl, by decide, by decide⟩
theorem elIn : ElT 31 (.agg #[.int .i64 0, .int .i64 0, .int .i64 0, .int .i64 0]) 4 32 := ⟨by kernel_rfl, rfl, by decide, by decide⟩

/-- Behind an append to a row of the call's own nothing elder has turned. -/
theorem Appd.next {w0 w w' : World} {e : TypeId} {k : Nat} {ao ao' : Option Addr} {m n' cap cap' : Nat} {xs ys : List Value} (h : Appd w w' w0.heap.size e k ao ao' m n' cap' ys) (hown : w.ownsRow w0.heap.size e k (.slice ao m cap) m xs) (ho : Only [] w0 w) : Only [] w0 w' := by
  refine ho.next h.only fun x hx => ?_
  cases ao with
  | none => simp [Value.ownBlock] at hx
  | some q =>
    simp [Value.ownBlock] at hx
    subst hx
    exact ((RS.of_owns hown).2.2.2.2 q rfl).1

/-- A block that is not a row's. -/
theorem block_not {ao : Option Addr} {m : Nat} {b : Nat} (hb : ∀ a, ao = some a → b ≠ a.block) : b ∉ (Value.ownBlock (.slice ao m 0)).toList := by
  cases ao with
  | none => simp [Value.ownBlock]
  | some q => simpa [Value.ownBlock] using hb q rfl

/-- An instruction in memory. -/
structure InAt (w : World) (b off : Nat) (i : In) : Prop where
  c0 : w.cell? ⟨b, off, none⟩ = some (.int .i64 i.1)
  c1 : w.cell? ⟨b, off + 1, none⟩ = some (.int .i64 i.2.1)
  c2 : w.cell? ⟨b, off + 2, none⟩ = some (.int .i64 i.2.2.1)
  c3 : w.cell? ⟨b, off + 3, none⟩ = some (.int .i64 i.2.2.2)

theorem InAt.lt {w : World} {b off : Nat} {i : In} (h : InAt w b off i) : b < w.heap.size := World.block_lt_of_cell? w _ h.c0

theorem InAt.only {w w' : World} {S : List Nat} {b off : Nat} {i : In} (h : InAt w b off i) (ho : Only S w w') (hb : b ∉ S) : InAt w' b off i := by
  have hl := h.lt
  exact ⟨by rw [ho.cell hl hb]; exact h.c0, by rw [ho.cell hl hb]; exact h.c1, by rw [ho.cell hl hb]; exact h.c2, by rw [ho.cell hl hb]; exact h.c3⟩

theorem InAt.alloc {w : World} {b off : Nat} {i : In} (h : InAt w b off i) (o : Obj) : InAt (w.alloc o) b off i := h.only ((Only.refl [] w).alloc o) (by simp)

theorem inAt_new (w : World) (a op n s : Int) (t : TypeId) : InAt (w.alloc (.cells #[.int .i64 a, .int .i64 op, .int .i64 n, .int .i64 s] t)) w.heap.size 0 (a, op, n, s) :=
  ⟨by rw [cell_new]; rfl, by rw [cell_new]; rfl, by rw [cell_new]; rfl, by rw [cell_new]; rfl⟩

/-- One of a row. -/
theorem RS.inAt {w : World} {ao : Option Addr} {l : List In} {d : Nat} (h : RS w ao (qcs l) d) {j : Nat} (hj : j < l.length) : ∃ off, ao = some ⟨d, off, none⟩ ∧ InAt w d (off + j * 4) l[j] := by
  obtain ⟨off, ha, hc⟩ := h.at (j := j * 4) (by rw [qcs_length]; omega)
  obtain ⟨g0, g1, g2, g3⟩ := qcs_get l j hj
  exact ⟨off, ha, by simpa [Nat.add_assoc] using hc _ _ g0, by simpa [Nat.add_assoc] using hc _ _ g1, by simpa [Nat.add_assoc] using hc _ _ g2, by simpa [Nat.add_assoc] using hc _ _ g3⟩

/-- One byte of a row. -/
theorem RS.byteAt {w : World} {ao : Option Addr} {l : List UInt8} {d : Nat} (h : RS w ao (bcs l) d) {j : Nat} (hj : j < l.length) : ∃ off, ao = some ⟨d, off, none⟩ ∧ w.cell? ⟨d, off + j, none⟩ = some (.int .u8 (l[j].toNat : Int)) := by
  obtain ⟨off, ha, hc⟩ := h.at (j := j) (by rw [bcs_length]; omega)
  exact ⟨off, ha, hc j _ (bcs_get l j hj)⟩

/-- One number of a row. -/
theorem RS.intAt {w : World} {ao : Option Addr} {l : List Int} {d : Nat} (h : RS w ao (ics l) d) {j : Nat} (hj : j < l.length) : ∃ off, ao = some ⟨d, off, none⟩ ∧ w.cell? ⟨d, off + j, none⟩ = some (.int .i64 l[j]) := by
  obtain ⟨off, ha, hc⟩ := h.at (j := j) (by rw [ics_length]; omega)
  exact ⟨off, ha, hc j _ (ics_get l j hj)⟩

theorem rows_int (w : World) (x : Int) {b : Nat} (hb : b = w.heap.size) : RS (w.alloc (.cells #[.int .i64 x] 3)) (some ⟨b, 0, none⟩) (ics [x]) b := by subst hb; exact RS.fresh w _ _
theorem rows_byte (w : World) (x : Int) (c : UInt8) (hc : x = (c.toNat : Int)) {b : Nat} (hb : b = w.heap.size) : RS (w.alloc (.cells #[.int .u8 x] 5)) (some ⟨b, 0, none⟩) (bcs [c]) b := by subst hb; subst hc; exact RS.fresh w _ _
theorem rows_in (w : World) (a op n s : Int) {b : Nat} (hb : b = w.heap.size) : RS (w.alloc (.cells #[.int .i64 a, .int .i64 op, .int .i64 n, .int .i64 s] 31)) (some ⟨b, 0, none⟩) (qcs [(a, op, n, s)]) b := by subst hb; exact RS.fresh w _ _

theorem eq_instr (a b : In) (w : World) : (binOp .eql 31 (inV a) (inV b)).run Tryd.prog w = .ok (.bool (decide (a = b))) w := by
  obtain ⟨x, y, z, t⟩ := a
  obtain ⟨x', y', z', t'⟩ := b
  have hS : Tryd.prog.underlying 31 = some (.struct (Tryd.prog.fieldsOf 31)) := by kernel_rfl
  have hp : Tryd.prog.stoodInHeld 31 = false := by kernel_rfl
  simp only [inV]
  rw [run_eql_struct, show (10000 : Nat) = 9999 + 1 from rfl, run_equalIn_agg w 9999 31 _ _ hS hp]
  simp only [Program.fieldsOf, Tryd.underlying31]
  go_simp
  by_cases h1 : x = x' <;> by_cases h2 : y = y' <;> by_cases h3 : z = z' <;> by_cases h4 : t = t' <;> simp [h1, h2, h3, h4]

theorem neq_instr (a b : In) (w : World) : (binOp .neq 31 (inV a) (inV b)).run Tryd.prog w = .ok (.bool (!decide (a = b))) w := by
  obtain ⟨x, y, z, t⟩ := a
  obtain ⟨x', y', z', t'⟩ := b
  have hS : Tryd.prog.underlying 31 = some (.struct (Tryd.prog.fieldsOf 31)) := by kernel_rfl
  have hp : Tryd.prog.stoodInHeld 31 = false := by kernel_rfl
  simp only [inV]
  rw [run_neq_struct, show (10000 : Nat) = 9999 + 1 from rfl, run_equalIn_agg w 9999 31 _ _ hS hp]
  simp only [Program.fieldsOf, Tryd.underlying31]
  go_simp
  by_cases h1 : x = x' <;> by_cases h2 : y = y' <;> by_cases h3 : z = z' <;> by_cases h4 : t = t' <;> simp [h1, h2, h3, h4]

end Go.Proofs.YtemjhlhioeopnabDoor
