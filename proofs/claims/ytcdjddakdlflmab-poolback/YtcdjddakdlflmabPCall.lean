/-
  A builder's call as data. No conditions.
-/
import Derived.Test.YtcdjddakdlflmabDSig
namespace Go.Proofs.Ytcdjddakdlflmab
open Go.RowKit

/-- A call: its kind, its words; where its signature's parameters lie. -/
structure Cal where
  k : Int
  n : Int
  c : List UInt8
  m : List UInt8
  t : Ty
  ao : Option Addr
  cap : Nat
  d : Nat
  ps : List Ty
  v : Bool
  r : Ty

def clV (x : Cal) : Value := .agg #[.int .i64 x.k, .int .i64 x.n, .string (str x.c), .string (str x.m), .int .i64 x.t.1, .string (str x.t.2), .slice x.ao x.ps.length x.cap, .bool x.v, .int .i64 x.r.1, .string (str x.r.2)]

/-- A call that came in. -/
structure CalOK (w : World) (x : Cal) : Prop where
  ts : TS w x.ao x.ps x.d
  nn : x.ao = none → x.cap = 0
  lc : x.c.length ≤ 9223372036854775807
  lm : x.m.length ≤ 9223372036854775807
  lt : x.t.2.length ≤ 9223372036854775807
  lp : x.ps.length ≤ 9223372036854775807
  la : ∀ t ∈ x.ps, t.2.length ≤ 9223372036854775807
  lr : x.r.2.length ≤ 9223372036854775807

theorem CalOK.only {w w' : World} {S : List Nat} {x : Cal} (h : CalOK w x) (ho : Only S w w') (hn : x.ps ≠ [] → x.d ∉ S) : CalOK w' x := ⟨h.ts.only ho hn, h.nn, h.lc, h.lm, h.lt, h.lp, h.la, h.lr⟩

/-- A call in memory. -/
structure CalAt (w : World) (b off : Nat) (x : Cal) : Prop where
  c0 : w.cell? ⟨b, off, none⟩ = some (.int .i64 x.k)
  c1 : w.cell? ⟨b, off + 1, none⟩ = some (.int .i64 x.n)
  c2 : w.cell? ⟨b, off + 2, none⟩ = some (.string (str x.c))
  c3 : w.cell? ⟨b, off + 3, none⟩ = some (.string (str x.m))
  c4 : w.cell? ⟨b, off + 4, none⟩ = some (.int .i64 x.t.1)
  c5 : w.cell? ⟨b, off + 5, none⟩ = some (.string (str x.t.2))
  c6 : w.cell? ⟨b, off + 6, none⟩ = some (.slice x.ao x.ps.length x.cap)
  c7 : w.cell? ⟨b, off + 7, none⟩ = some (.bool x.v)
  c8 : w.cell? ⟨b, off + 8, none⟩ = some (.int .i64 x.r.1)
  c9 : w.cell? ⟨b, off + 9, none⟩ = some (.string (str x.r.2))

theorem CalAt.lt {w : World} {b off : Nat} {x : Cal} (h : CalAt w b off x) : b < w.heap.size := World.block_lt_of_cell? w _ h.c0

theorem CalAt.only {w w' : World} {S : List Nat} {b off : Nat} {x : Cal} (h : CalAt w b off x) (ho : Only S w w') (hb : b ∉ S) : CalAt w' b off x := by
  have hl := h.lt
  exact ⟨by rw [ho.cell hl hb]; exact h.c0, by rw [ho.cell hl hb]; exact h.c1, by rw [ho.cell hl hb]; exact h.c2, by rw [ho.cell hl hb]; exact h.c3, by rw [ho.cell hl hb]; exact h.c4, by rw [ho.cell hl hb]; exact h.c5, by rw [ho.cell hl hb]; exact h.c6, by rw [ho.cell hl hb]; exact h.c7, by rw [ho.cell hl hb]; exact h.c8, by rw [ho.cell hl hb]; exact h.c9⟩

theorem calAt_new (w : World) (x : Cal) (t : TypeId) : CalAt (w.alloc (.cells #[.int .i64 x.k, .int .i64 x.n, .string (str x.c), .string (str x.m), .int .i64 x.t.1, .string (str x.t.2), .slice x.ao x.ps.length x.cap, .bool x.v, .int .i64 x.r.1, .string (str x.r.2)] t)) w.heap.size 0 x :=
  ⟨by rw [cell_new]; rfl, by rw [cell_new]; rfl, by rw [cell_new]; rfl, by rw [cell_new]; rfl, by rw [cell_new]; rfl, by rw [cell_new]; rfl, by rw [cell_new]; rfl, by rw [cell_new]; rfl, by rw [cell_new]; rfl, by rw [cell_new]; rfl⟩

/-- Calls in a row that is read. -/
def CS (w : World) (ao : Option Addr) (l : List Cal) (d : Nat) : Prop :=
  l = [] ∨ ∃ off, ao = some ⟨d, off, none⟩ ∧ ∀ j (h : j < l.length), CalAt w d (off + j * 10) l[j]

theorem CS.only {w w' : World} {S : List Nat} {ao : Option Addr} {l : List Cal} {d : Nat} (h : CS w ao l d) (ho : Only S w w') (hn : l ≠ [] → d ∉ S) : CS w' ao l d := by
  rcases h with h | ⟨off, ha, hc⟩
  · exact .inl h
  · by_cases hb : l = []
    · exact .inl hb
    exact .inr ⟨off, ha, fun j hj => (hc j hj).only ho (hn hb)⟩

theorem CS.at {w : World} {ao : Option Addr} {l : List Cal} {d : Nat} (h : CS w ao l d) {j : Nat} (hj : j < l.length) : ∃ off, ao = some ⟨d, off, none⟩ ∧ CalAt w d (off + j * 10) l[j] := by
  rcases h with h | ⟨off, rfl, hc⟩
  · rw [h] at hj
    simp at hj
  · exact ⟨off, rfl, hc j hj⟩

theorem CS.lt {w : World} {ao : Option Addr} {l : List Cal} {d : Nat} (h : CS w ao l d) (hn : l ≠ []) : d < w.heap.size := by
  rcases h with h | ⟨off, _, hc⟩
  · exact absurd h hn
  · exact (hc 0 (List.length_pos_iff.2 hn)).lt

end Go.Proofs.Ytcdjddakdlflmab
