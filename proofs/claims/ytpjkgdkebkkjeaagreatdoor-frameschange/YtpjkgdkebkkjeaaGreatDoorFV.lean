/-
  What is known of values: as values, as cells, as rows that are read or owned; how two are compared. No conditions.
-/
import Derived.Test.YtpjkgdkebkkjeaaGreatDoorIRow
namespace Go.Proofs.YtpjkgdkebkkjeaaGreatDoor
open Go.RowKit

/-- What is known of a value: its kind, its type's dimensions and name, its place. -/
abbrev Vt := Int × Int × List UInt8 × Int
def vtV (v : Vt) : Value := .agg #[.int .i64 v.1, .int .i64 v.2.1, .string (str v.2.2.1), .int .i64 v.2.2.2]

/-- Such rows as cells. -/
def vcs : List Vt → List Value
  | [] => []
  | v :: l => .int .i64 v.1 :: .int .i64 v.2.1 :: .string (str v.2.2.1) :: .int .i64 v.2.2.2 :: vcs l

theorem vcs_length (l : List Vt) : (vcs l).length = l.length * 4 := by
  induction l with
  | nil => rfl
  | cons e l ih => simp [vcs, ih]; omega

theorem vcs_append (a b : List Vt) : vcs (a ++ b) = vcs a ++ vcs b := by
  induction a with
  | nil => rfl
  | cons e l ih => simp [vcs, ih]

theorem vcs_one (l : List Vt) : ∀ u ∈ vcs l, u.oneCell' = true := by
  induction l with
  | nil => simp [vcs]
  | cons t l ih =>
    intro u hu
    simp [vcs] at hu
    rcases hu with rfl | rfl | rfl | rfl | hu
    · rfl
    · rfl
    · rfl
    · rfl
    · exact ih u hu

theorem vcs_get (l : List Vt) (j : Nat) (h : j < l.length) : (vcs l)[j * 4]? = some (.int .i64 l[j].1) ∧ (vcs l)[j * 4 + 1]? = some (.int .i64 l[j].2.1) ∧ (vcs l)[j * 4 + 2]? = some (.string (str l[j].2.2.1)) ∧ (vcs l)[j * 4 + 3]? = some (.int .i64 l[j].2.2.2) := by
  induction l generalizing j with
  | nil => simp at h
  | cons t l ih =>
    cases j with
    | zero => exact ⟨rfl, rfl, rfl, rfl⟩
    | succ j =>
      have := ih j (by simpa using h)
      simp only [vcs, Nat.add_mul, Nat.one_mul, List.getElem_cons_succ]
      exact this

theorem vcs_take (l : List Vt) (n : Nat) : (vcs l).take (n * 4) = vcs (l.take n) := by
  induction l generalizing n with
  | nil => simp [vcs]
  | cons t l ih =>
    cases n with
    | zero => simp [vcs]
    | succ n =>
      rw [show (n + 1) * 4 = n * 4 + 4 by omega]
      simp [vcs, ih]

theorem elVt : ElT 25 (.agg #[.int .i64 0, .int .i64 0, .string ⟨#[]⟩, .int .i64 0]) 4 40 := ⟨by kernel_rfl, rfl, by decide, by decide⟩

/-- One in memory. -/
structure VtAt (w : World) (b off : Nat) (v : Vt) : Prop where
  c0 : w.cell? ⟨b, off, none⟩ = some (.int .i64 v.1)
  c1 : w.cell? ⟨b, off + 1, none⟩ = some (.int .i64 v.2.1)
  c2 : w.cell? ⟨b, off + 2, none⟩ = some (.string (str v.2.2.1))
  c3 : w.cell? ⟨b, off + 3, none⟩ = some (.int .i64 v.2.2.2)

theorem VtAt.lt {w : World} {b off : Nat} {v : Vt} (h : VtAt w b off v) : b < w.heap.size := World.block_lt_of_cell? w _ h.c0

theorem VtAt.only {w w' : World} {S : List Nat} {b off : Nat} {v : Vt} (h : VtAt w b off v) (ho : Only S w w') (hb : b ∉ S) : VtAt w' b off v := by
  have hl := h.lt
  exact ⟨by rw [ho.cell hl hb]; exact h.c0, by rw [ho.cell hl hb]; exact h.c1, by rw [ho.cell hl hb]; exact h.c2, by rw [ho.cell hl hb]; exact h.c3⟩

theorem VtAt.alloc {w : World} {b off : Nat} {v : Vt} (h : VtAt w b off v) (o : Obj) : VtAt (w.alloc o) b off v := h.only ((Only.refl [] w).alloc o) (by simp)

theorem RS.vtAt {w : World} {ao : Option Addr} {l : List Vt} {d : Nat} (h : RS w ao (vcs l) d) {j : Nat} (hj : j < l.length) : ∃ off, ao = some ⟨d, off, none⟩ ∧ VtAt w d (off + j * 4) l[j] := by
  obtain ⟨off, ha, hc⟩ := h.at (j := j * 4) (by rw [vcs_length]; omega)
  obtain ⟨g0, g1, g2, g3⟩ := vcs_get l j hj
  exact ⟨off, ha, by simpa [Nat.add_assoc] using hc _ _ g0, by simpa [Nat.add_assoc] using hc _ _ g1, by simpa [Nat.add_assoc] using hc _ _ g2, by simpa [Nat.add_assoc] using hc _ _ g3⟩

theorem rows_vt (w : World) (k d at_ : Int) (n : List UInt8) {b : Nat} (hb : b = w.heap.size) : RS (w.alloc (.cells #[.int .i64 k, .int .i64 d, .string (str n), .int .i64 at_] 25)) (some ⟨b, 0, none⟩) (vcs [(k, d, n, at_)]) b := by subst hb; exact RS.fresh w _ _

theorem equalIn_ty (m : Nat) (d d' : Int) (n n' : List UInt8) (w : World) : (Op.equalIn (m + 2) 23 (.agg #[.int .i64 d, .string (str n)]) (.agg #[.int .i64 d', .string (str n')])).run Tryz.prog w = .ok (decide (((d, n) : Int × List UInt8) = (d', n'))) w := by
  have hS : Tryz.prog.underlying 23 = some (.struct (Tryz.prog.fieldsOf 23)) := by kernel_rfl
  have hp : Tryz.prog.stoodInHeld 23 = false := by kernel_rfl
  rw [run_equalIn_agg w (m + 1) 23 _ _ hS hp]
  simp only [Program.fieldsOf, Tryz.underlying23]
  go_simp
  simp only [str_toList]
  by_cases h1 : d = d' <;> by_cases h2 : n = n' <;> simp [h1, h2]

theorem equalIn_vt (m : Nat) (a b : Vt) (w : World) : (Op.equalIn (m + 3) 25 (vtV a) (vtV b)).run Tryz.prog w = .ok (decide (a = b)) w := by
  obtain ⟨k, d, n, x⟩ := a
  obtain ⟨k', d', n', x'⟩ := b
  have hS : Tryz.prog.underlying 25 = some (.struct (Tryz.prog.fieldsOf 25)) := by kernel_rfl
  have hp : Tryz.prog.stoodInHeld 25 = false := by kernel_rfl
  have hT := equalIn_ty m d d' n n'
  simp only [vtV]
  rw [run_equalIn_agg w (m + 2) 25 _ _ hS hp]
  simp only [Program.fieldsOf, Tryz.underlying25]
  go_simp
  by_cases h1 : k = k' <;> by_cases h2 : d = d' <;> by_cases h3 : n = n' <;> by_cases h4 : x = x' <;> simp [h1, h2, h3, h4]

theorem eq_vt (a b : Vt) (w : World) : (binOp .eql 25 (vtV a) (vtV b)).run Tryz.prog w = .ok (.bool (decide (a = b))) w := by
  have h := equalIn_vt 9997 a b w
  unfold vtV at h ⊢
  rw [run_eql_struct, h]
  rfl
theorem neq_vt (a b : Vt) (w : World) : (binOp .neq 25 (vtV a) (vtV b)).run Tryz.prog w = .ok (.bool (!decide (a = b))) w := by
  have h := equalIn_vt 9997 a b w
  unfold vtV at h ⊢
  rw [run_neq_struct, h]
  rfl

end Go.Proofs.YtpjkgdkebkkjeaaGreatDoor
