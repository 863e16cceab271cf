/-
  Frames: rows of what is known that are read, owned; the contracts of frames.apart, twin, Twin, reached, Reached. A row has at most eight million places.
-/
import Derived.Test.YtpjkgdkebkkjeaaGreatDoorFV
import Derived.Deep.DeepCutAuto
namespace Go.Proofs.YtpjkgdkebkkjeaaGreatDoor
open Go.RowKit

/-- A row that is read. -/
def Rd (w : World) (v : Value) (l : List Vt) : Prop := ∃ ao cap d, v = .slice ao l.length cap ∧ RS w ao (vcs l) d ∧ (ao = none → cap = 0)
theorem Rd.only0 {w w' : World} {v : Value} {l : List Vt} (h : Rd w v l) (ho : Only [] w w') : Rd w' v l := by
  obtain ⟨ao, cap, d, h1, h2, h3⟩ := h
  exact ⟨ao, cap, d, h1, h2.only0 ho, h3⟩
theorem Rd.shape {w : World} {v : Value} {l : List Vt} (h : Rd w v l) : ∃ ao cap, v = .slice ao l.length cap := by
  obtain ⟨ao, cap, d, h1, _⟩ := h
  exact ⟨ao, cap, h1⟩
/-- A row that the call owns. -/
abbrev OwV (w : World) (B : Nat) (v : Value) (l : List Vt) : Prop := w.ownsRow B 25 4 v l.length (vcs l)
theorem OwV.rd {w : World} {B : Nat} {v : Value} {l : List Vt} (h : OwV w B v l) : Rd w v l := by
  obtain ⟨ao, cap, rfl⟩ := rows_slice h
  obtain ⟨h1, _, _, h2, _⟩ := RS.of_owns h
  exact ⟨ao, cap, _, rfl, h1, h2⟩

/-- A copy in a block of its own; no elder block has turned. -/
def ApV (w : World) (l : List Vt) (r : Ending) (w' : World) : Prop := ∃ ao cap, r = .returned (.slice ao l.length cap) ∧ OwV w' w.heap.size (.slice ao l.length cap) l ∧ Only [] w w'

set_option maxHeartbeats 1000000 in
theorem fapart_any {w : World} {v : Value} {l : List Vt} (h : Rd w v l) (hn : l.length ≤ 8000000) :
    Calls Tryz.prog 36 #[v] w (ApV w l) := by
  obtain ⟨ao, cap, d, rfl, hS, hz⟩ := h
  go_enter Tryz.func36, Tryz.ntmps36
  go_wp2_with (refine wpList_append_any rfl (.const (.slice none 0 0)) (.tmp 3) elVt Tryz.underlying26 rfl (B := w.heap.size) (ys := vcs l) (d := d) rfl rfl (World.ownsRow_nil _ _ _ _) hS (vcs_length l) (vcs_one l) hz (by omega) (Nat.le_refl _) ?_; intro ao' cap' w' hA)
  go_ret
  have h1 := hA.own
  have h2 := hA.only
  rw [List.nil_append, Nat.zero_add] at h1
  exact ⟨ao', cap', by simp, by simpa using h1, by simpa [Value.ownBlock] using h2⟩

/-- A frame: its object, its locals, its stack. -/
abbrev Fr := Vt × List Vt × List Vt
def frV (s : Vt) (vl vs : Value) : Value := .agg #[.int .i64 s.1, .int .i64 s.2.1, .string (str s.2.2.1), .int .i64 s.2.2.2, vl, vs]

/-- A frame's cells in a block. -/
structure FrB (w : World) (b : Nat) (s : Vt) (vl vs : Value) : Prop where
  c0 : w.cell? ⟨b, 0, none⟩ = some (.int .i64 s.1)
  c1 : w.cell? ⟨b, 1, none⟩ = some (.int .i64 s.2.1)
  c2 : w.cell? ⟨b, 2, none⟩ = some (.string (str s.2.2.1))
  c3 : w.cell? ⟨b, 3, none⟩ = some (.int .i64 s.2.2.2)
  c4 : w.cell? ⟨b, 4, none⟩ = some vl
  c5 : w.cell? ⟨b, 5, none⟩ = some vs
  f0 : ∀ j, w.frozen? ⟨b, j, none⟩ = false
theorem FrB.lt {w : World} {b : Nat} {s : Vt} {vl vs : Value} (h : FrB w b s vl vs) : b < w.heap.size := World.block_lt_of_cell? w _ h.c0
theorem FrB.only {w w' : World} {S : List Nat} {b : Nat} {s : Vt} {vl vs : Value} (h : FrB w b s vl vs) (ho : Only S w w') (hb : b ∉ S) : FrB w' b s vl vs := by
  have hl := h.lt
  exact ⟨by rw [ho.cell hl hb]; exact h.c0, by rw [ho.cell hl hb]; exact h.c1, by rw [ho.cell hl hb]; exact h.c2, by rw [ho.cell hl hb]; exact h.c3, by rw [ho.cell hl hb]; exact h.c4, by rw [ho.cell hl hb]; exact h.c5, fun j => by rw [ho.frozen hl hb]; exact h.f0 j⟩
theorem frB_new (w : World) (s : Vt) (vl vs : Value) (t : TypeId) : FrB (w.alloc (.cells #[.int .i64 s.1, .int .i64 s.2.1, .string (str s.2.2.1), .int .i64 s.2.2.2, vl, vs] t)) w.heap.size s vl vs :=
  ⟨by rw [cell_new]; rfl, by rw [cell_new]; rfl, by rw [cell_new]; rfl, by rw [cell_new]; rfl, by rw [cell_new]; rfl, by rw [cell_new]; rfl, fun j => frozen_new _ _ _ _⟩

/-- A frame apart: rows of its own. -/
def TwV (w : World) (s : Vt) (ll ls : List Vt) (r : Ending) (w' : World) : Prop :=
  ∃ vl vs, r = .returned (frV s vl vs) ∧ OwV w' w.heap.size vl ll ∧ OwV w' w.heap.size vs ls ∧ (∀ k, vl.ownBlock = some k → vs.ownBlock ≠ some k) ∧ Only [] w w'

end Go.Proofs.YtpjkgdkebkkjeaaGreatDoor
