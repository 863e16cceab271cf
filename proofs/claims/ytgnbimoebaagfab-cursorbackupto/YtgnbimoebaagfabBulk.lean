/-
  What the bound on all that came in gives for each argument: its length. No conditions.
-/
import Derived.Test.YtgnbimoebaagfabArgs
namespace Go.Proofs.Ytgnbimoebaagfab
open Go.ChangeShapes Go.WideShapes Go.ChangeAt Go.RowKit

section
variable {H : Type}

theorem bulk_pos (d : DataW H) : 1 ≤ Rows.uptoBulk d := by
  cases d with
  | lit l => cases l <;> simp [Rows.uptoBulk]
  | nil => simp [Rows.uptoBulk]
  | ptr d => simp [Rows.uptoBulk]
  | slice a b => simp [Rows.uptoBulk]
  | agg l => simp [Rows.uptoBulk]
  | iface t d => simp [Rows.uptoBulk]
  | map l => simp [Rows.uptoBulk]
  | held h => simp [Rows.uptoBulk]

theorem bulk_len (l : List (DataW H)) : l.length ≤ Rows.uptoBulkAll l := by
  induction l with
  | nil => simp [Rows.uptoBulkAll]
  | cons x r ih =>
    have := bulk_pos x
    simp only [Rows.uptoBulkAll, List.length_cons]
    omega

theorem bulk_bytes {d : DataW H} {bs : List UInt8} {cap : Nat} (hl : bs.length ≤ cap) (h : d = .nil ∧ bs = [] ∨ ∃ zs : List Int, zs.length = cap ∧ bs = toBytes (zs.take bs.length) ∧ d = .slice (lits .u8 (zs.take bs.length)) (lits .u8 (zs.drop bs.length))) : bs.length + 1 ≤ Rows.uptoBulk d := by
  rcases h with ⟨rfl, rfl⟩ | ⟨zs, hz, _, rfl⟩
  · simp [Rows.uptoBulk]
  · have h1 := bulk_len (lits (H := H) .u8 (zs.take bs.length))
    simp only [lits, List.length_map, List.length_take] at h1
    simp only [Rows.uptoBulk, lits]
    omega

theorem bulk_nums {d : DataW H} {ns : List Int} {cap : Nat} (hl : ns.length ≤ cap) (h : d = .nil ∧ ns = [] ∨ ∃ zs : List Int, zs.length = cap ∧ ns = zs.take ns.length ∧ d = .slice (lits .i64 (zs.take ns.length)) (lits .i64 (zs.drop ns.length))) : ns.length + 1 ≤ Rows.uptoBulk d := by
  rcases h with ⟨rfl, rfl⟩ | ⟨zs, hz, _, rfl⟩
  · simp [Rows.uptoBulk]
  · have h1 := bulk_len (lits (H := H) .i64 (zs.take ns.length))
    simp only [lits, List.length_map, List.length_take] at h1
    simp only [Rows.uptoBulk, lits]
    omega
end

end Go.Proofs.Ytgnbimoebaagfab
