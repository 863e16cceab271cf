/-
  What the proofs of this seat share: which blocks may have turned ('Only'), a slice of bytes that is read ('BS'), a reader's and a writer's memory ('Rd', 'Wr'). No conditions.
-/
import Derived.Test.YtmghmmkjcgopaaaIRow
import Derived.Test.YtmghmmkjcgopaaaGPlain
import Derived.Test.YtmghmmkjcgopaaaCPlain
import Derived.WalkKit
import Derived.Below
import Derived.Outline
namespace Go.Proofs.Ytmghmmkjcgopaaa
open Go.RowKit

theorem bcs_len (l : List UInt8) : (bcs l).length = l.length := by simp [bcs]

/-- Where the bytes of a slice lie that is read: nowhere, if there are none; else in block d, one behind the other. -/
def BS (w : World) (ao : Option Addr) (bs : List UInt8) (d : Nat) : Prop :=
  bs = [] ∨ ∃ off, ao = some ⟨d, off, none⟩ ∧ ∀ j (h : j < bs.length), w.cell? ⟨d, off + j, none⟩ = some (.int .u8 (bs[j].toNat : Int))

theorem BS.nil (w : World) (ao : Option Addr) (d : Nat) : BS w ao [] d := .inl rfl

theorem BS.lt {w : World} {ao : Option Addr} {bs : List UInt8} {d : Nat} (h : BS w ao bs d) (hn : bs ≠ []) : d < w.heap.size := by
  rcases h with h | ⟨off, _, hc⟩
  · exact absurd h hn
  · have h0 : 0 < bs.length := List.length_pos_iff.2 hn
    exact World.block_lt_of_cell? w _ (hc 0 h0)

theorem BS.only {w w' : World} {S : List Nat} {ao : Option Addr} {bs : List UInt8} {d : Nat} (h : BS w ao bs d) (ho : Only S w w') (hn : bs ≠ [] → d ∉ S) : BS w' ao bs d := by
  rcases h with h | ⟨off, ha, hc⟩
  · exact .inl h
  · by_cases hb : bs = []
    · exact .inl hb
    have hd := hn hb
    exact .inr ⟨off, ha, fun j hj => by rw [ho.cell (World.block_lt_of_cell? w _ (hc j hj)) hd]; exact hc j hj⟩

theorem BS.take {w : World} {ao : Option Addr} {bs : List UInt8} {d : Nat} (h : BS w ao bs d) (n : Nat) : BS w ao (bs.take n) d := by
  rcases h with h | ⟨off, ha, hc⟩
  · exact .inl (by simp [h])
  · exact .inr ⟨off, ha, fun j hj => by rw [hc j (by simp at hj; omega)]; simp⟩

/-- The address of what is left when n elements are taken away at the left. -/
def cutAt (ao : Option Addr) (cap n : Nat) : Option Addr := if cap = n then ao else ao.map (·.add n)

theorem cutAt_none {ao : Option Addr} {cap n : Nat} (h : cutAt ao cap n = none) : ao = none := by
  unfold cutAt at h
  split at h
  · exact h
  · simpa using h

theorem BS.drop {w : World} {ao : Option Addr} {bs : List UInt8} {d : Nat} (h : BS w ao bs d) (n cap : Nat) (hc : bs.length ≤ cap) : BS w (cutAt ao cap n) (bs.drop n) d := by
  rcases h with h | ⟨off, ha, hcell⟩
  · exact .inl (by simp [h])
  · by_cases hn : n < bs.length
    · refine .inr ⟨off + n, ?_, fun j hj => ?_⟩
      · unfold cutAt
        rw [if_neg (by omega), ha]
        simp [Addr.add_lit]
      · have := hcell (n + j) (by simp at hj; omega)
        rw [show off + n + j = off + (n + j) by omega, this]
        simp
    · exact .inl (List.drop_eq_nil_of_le (by omega))

/-- A reader in block r: its bytes lie in block d; bs are left, 'at' were read, err is its first error. -/
structure Rd (w : World) (r d : Nat) (ao : Option Addr) (cap : Nat) (bs : List UInt8) (n : Nat) (err : Int) : Prop where
  c0 : w.cell? ⟨r, 0, none⟩ = some (.int .i64 (n : Int))
  c1 : w.cell? ⟨r, 1, none⟩ = some (.int .i64 err)
  c2 : w.cell? ⟨r, 2, none⟩ = some (.slice ao bs.length cap)
  f0 : w.frozen? ⟨r, 0, none⟩ = false
  f1 : w.frozen? ⟨r, 1, none⟩ = false
  f2 : w.frozen? ⟨r, 2, none⟩ = false
  data : BS w ao bs d
  capLe : bs.length ≤ cap
  capMax : cap ≤ 9223372036854775807
  capNone : ao = none → cap = 0
  fit : n + bs.length ≤ 9223372036854775807
  ne : bs ≠ [] → d ≠ r

theorem Rd.lt {w : World} {r d : Nat} {ao : Option Addr} {cap : Nat} {bs : List UInt8} {n : Nat} {err : Int} (h : Rd w r d ao cap bs n err) : r < w.heap.size := World.block_lt_of_cell? w _ h.c0

theorem Rd.only {w w' : World} {S : List Nat} {r d : Nat} {ao : Option Addr} {cap : Nat} {bs : List UInt8} {n : Nat} {err : Int} (h : Rd w r d ao cap bs n err) (ho : Only S w w') (hr : r ∉ S) (hd : d ∉ S) : Rd w' r d ao cap bs n err := by
  have hl := h.lt
  exact { c0 := (ho.cell (p := ⟨r, 0, none⟩) hl hr).trans h.c0, c1 := (ho.cell (p := ⟨r, 1, none⟩) hl hr).trans h.c1, c2 := (ho.cell (p := ⟨r, 2, none⟩) hl hr).trans h.c2,
          f0 := (ho.frozen (p := ⟨r, 0, none⟩) hl hr).trans h.f0, f1 := (ho.frozen (p := ⟨r, 1, none⟩) hl hr).trans h.f1, f2 := (ho.frozen (p := ⟨r, 2, none⟩) hl hr).trans h.f2,
          data := h.data.only ho (fun _ => hd), capLe := h.capLe, capMax := h.capMax, capNone := h.capNone, fit := h.fit, ne := h.ne }

/-- A reader in block r, whatever the address of its bytes: what is left, how many were read, its error. -/
def RdE (w : World) (r d : Nat) (s : List UInt8 × Nat × Int) : Prop := ∃ ao cap, Rd w r d ao cap s.1 s.2.1 s.2.2

theorem RdE.only {w w' : World} {S : List Nat} {r d : Nat} {s : List UInt8 × Nat × Int} (h : RdE w r d s) (ho : Only S w w') (hr : r ∉ S) (hd : d ∉ S) : RdE w' r d s := by
  obtain ⟨ao, cap, h⟩ := h
  exact ⟨ao, cap, h.only ho hr hd⟩

theorem RdE.lt {w : World} {r d : Nat} {s : List UInt8 × Nat × Int} (h : RdE w r d s) : r < w.heap.size := by
  obtain ⟨ao, cap, h⟩ := h
  exact h.lt

/-- What a reader is when m bytes were taken. -/
theorem Rd.taken {w : World} {r d : Nat} {ao : Option Addr} {cap : Nat} {bs : List UInt8} {n : Nat} {err : Int} (h : Rd w r d ao cap bs n err) (m : Nat) (hm : m ≤ bs.length) (w' : World)
    (hw : (w.setCell ⟨r, 2, none⟩ (.slice (cutAt ao cap m) (bs.length - m) (cap - m))).setCell ⟨r, 0, none⟩ (.int .i64 ((n + m : Nat) : Int)) = w') :
    BS w' ao (bs.take m) d ∧ Rd w' r d (cutAt ao cap m) (cap - m) (bs.drop m) (n + m) err ∧ Only [r] w w' := by
  have ho : Only [r] w w' := by
    rw [← hw]
    exact ((Only.refl [r] w).setCell (.inl (by simp)) _).setCell (.inl (by simp)) _
  have hdata := h.data.only ho (fun hb => by simpa using h.ne hb)
  refine ⟨hdata.take m, ?_, ho⟩
  have hf : ∀ a, w'.frozen? a = w.frozen? a := fun a => by rw [← hw, frozen_setCell, frozen_setCell]
  have k0 : (w.setCell ⟨r, 2, none⟩ (.slice (cutAt ao cap m) (bs.length - m) (cap - m))).cell? ⟨r, 0, none⟩ = some (.int .i64 (n : Int)) := by
    rw [cell_setCell_ne w _ (by simp)]; exact h.c0
  have hc := h.capLe
  have hx := h.capMax
  have hfit := h.fit
  exact { c0 := by rw [← hw]; exact cell_setCell_same _ _ k0,
          c1 := by rw [← hw, cell_setCell_ne _ _ (by simp), cell_setCell_ne _ _ (by simp)]; exact h.c1,
          c2 := by rw [← hw, cell_setCell_ne _ _ (by simp), List.length_drop]; exact cell_setCell_same _ _ h.c2,
          f0 := (hf _).trans h.f0, f1 := (hf _).trans h.f1, f2 := (hf _).trans h.f2,
          data := hdata.drop m cap hc,
          capLe := by rw [List.length_drop]; omega, capMax := by omega, capNone := fun e => by have := h.capNone (cutAt_none e); omega, fit := by rw [List.length_drop]; omega, ne := fun hb => h.ne (fun e => hb (by rw [e]; simp)) }

/-- What a reader is when its first error was set. -/
theorem Rd.failed {w : World} {r d : Nat} {ao : Option Addr} {cap : Nat} {bs : List UInt8} {n : Nat} {err : Int} (h : Rd w r d ao cap bs n err) (x : Int) (w' : World)
    (hw : w.setCell ⟨r, 1, none⟩ (.int .i64 x) = w') : Rd w' r d ao cap bs n x ∧ Only [r] w w' := by
  have ho : Only [r] w w' := by
    rw [← hw]
    exact (Only.refl [r] w).setCell (.inl (by simp)) _
  have hf : ∀ a, w'.frozen? a = w.frozen? a := fun a => by rw [← hw, frozen_setCell]
  refine ⟨{ c0 := by rw [← hw, cell_setCell_ne _ _ (by simp)]; exact h.c0,
            c1 := by rw [← hw]; exact cell_setCell_same _ _ h.c1,
            c2 := by rw [← hw, cell_setCell_ne _ _ (by simp)]; exact h.c2,
            f0 := (hf _).trans h.f0, f1 := (hf _).trans h.f1, f2 := (hf _).trans h.f2,
            data := h.data.only ho (fun hb => by simpa using h.ne hb), capLe := h.capLe, capMax := h.capMax, capNone := h.capNone, fit := h.fit, ne := h.ne }, ho⟩

end Go.Proofs.Ytmghmmkjcgopaaa
