/-
  What the bound on all that came in gives for items: the lengths of their bytes. No conditions.
-/
import Derived.Test.YtgnbimoebaagfabBulk
import Derived.Test.YtgnbimoebaagfabItems
namespace Go.Proofs.Ytgnbimoebaagfab
open Go.ChangeShapes Go.WideShapes Go.ChangeAt Go.RowKit

section
variable {H : Type}

theorem bulk_told {db : DataW H} {bs : List UInt8} {cap : Nat} (hl : bs.length ≤ cap) (h : Told db bs cap) : bs.length + 1 ≤ Rows.uptoBulk db := bulk_bytes hl h

theorem bulk_part {d : DataW H} {l : List (DataW H)} (h : d ∈ l) : Rows.uptoBulk d ≤ Rows.uptoBulkAll l := by
  induction l with
  | nil => cases h
  | cons x r ih =>
    simp only [Rows.uptoBulkAll]
    rcases List.mem_cons.1 h with e | e
    · subst e
      omega
    · have := ih e
      omega

theorem bulk_item {n1 n2 : Int} {db : DataW H} {bs : List UInt8} {cap : Nat} (hl : bs.length ≤ cap) (h : Told db bs cap) : bs.length + 4 ≤ Rows.uptoBulk (DataW.agg [.lit (.int .i64 n1), .lit (.int .i64 n2), db]) := by
  have := bulk_told hl h
  simp only [Rows.uptoBulk, Rows.uptoBulkAll]
  omega

/-- The bytes of all items together. -/
def bytesSum (l : List Itm) : Nat := (l.map fun it => it.bs.length + 4).sum

theorem bytesSum_take (l : List Itm) (j : Nat) : bytesSum (l.take j) ≤ bytesSum l := by
  induction l generalizing j with
  | nil => simp [bytesSum]
  | cons it l ih =>
    cases j with
    | zero => simp [bytesSum]
    | succ j =>
      have := ih j
      simp only [List.take_succ_cons, bytesSum, List.map_cons, List.sum_cons] at this ⊢
      omega

theorem mem_bytesSum {l : List Itm} {it : Itm} (h : it ∈ l) : it.bs.length ≤ bytesSum l := by
  induction l with
  | nil => cases h
  | cons x l ih =>
    simp only [bytesSum, List.map_cons, List.sum_cons]
    rcases List.mem_cons.1 h with e | e
    · subst e
      omega
    · have := ih e
      simp only [bytesSum] at this
      omega

theorem bulk_items {l : List Itm} : ∀ {ds : List (DataW H)}, ds.length = l.length → (∀ it ∈ l, it.bs.length ≤ it.bcap) → (∀ j (hj : j < l.length), ∃ db, ds[j]? = some (.agg [.lit (.int .i64 l[j].kind), .lit (.int .i64 l[j].n), db]) ∧ Told db l[j].bs l[j].bcap) → bytesSum l ≤ Rows.uptoBulkAll ds := by
  induction l with
  | nil => intro ds _ _ _; simp [bytesSum]
  | cons it l ih =>
    intro ds hlen hcap h
    cases ds with
    | nil => simp at hlen
    | cons d ds =>
      obtain ⟨db, e, ht⟩ := h 0 (by simp)
      simp at e ht
      subst e
      have h1 := bulk_item (n1 := it.kind) (n2 := it.n) (hcap it (by simp)) ht
      have h2 := ih (ds := ds) (by simpa using hlen) (fun x hx => hcap x (by simp [hx])) (fun j hj => by
        have q := h (j + 1) (by simpa using hj)
        simpa using q)
      simp only [bytesSum, List.map_cons, List.sum_cons, Rows.uptoBulkAll] at h2 ⊢
      omega

theorem bulk_all {d : DataW H} {l : List Itm} (hcap : ∀ it ∈ l, it.bs.length ≤ it.bcap)
    (h : d = .nil ∧ l = [] ∨ ∃ ds sp, d = .slice ds sp ∧ ds.length = l.length ∧ ∀ j (hj : j < l.length), ∃ db, ds[j]? = some (.agg [.lit (.int .i64 l[j].kind), .lit (.int .i64 l[j].n), db]) ∧ Told db l[j].bs l[j].bcap) : bytesSum l ≤ Rows.uptoBulk d := by
  rcases h with ⟨rfl, rfl⟩ | ⟨ds, sp, rfl, hlen, h⟩
  · simp [bytesSum]
  · have := bulk_items hlen hcap h
    simp only [Rows.uptoBulk]
    omega
end

end Go.Proofs.Ytgnbimoebaagfab
