/-
  The contracts of slices.Clone and of NewReader. The bytes that are copied are at most 1.5 times 2 to the power of 47.
-/
import Derived.Test.YtmghmmkjcgopaaaCNum
import Derived.Test.YtmghmmkjcgopaaaCApp
import Derived.WalkSpells
namespace Go.Proofs.Ytmghmmkjcgopaaa
open Go.RowKit

/-- What the call owns is a slice of bytes that is read. -/
theorem BS.of_owns {w : World} {B : Nat} {ao : Option Addr} {cap : Nat} {bs : List UInt8} (h : w.ownsRow B 5 1 (.slice ao bs.length cap) bs.length (bcs bs)) :
    BS w ao bs ((ao.map (·.block)).getD 0) ∧ bs.length ≤ cap ∧ cap ≤ maxLen ∧ (ao = none → cap = 0) ∧ (∀ a, ao = some a → B ≤ a.block ∧ a.block < w.heap.size ∧ a = ⟨a.block, 0, none⟩) := by
  have hl := h.lt
  rcases h.2 with ⟨hv, h0⟩ | ⟨g, cap', cur, hv, hb, hg, hn, hm, hs, ht⟩
  · have : bs = [] := List.eq_nil_of_length_eq_zero h0
    subst this
    simp at hv
    obtain ⟨rfl, rfl⟩ := hv
    exact ⟨BS.nil _ _ _, Nat.le_refl _, by decide, fun _ => rfl, fun a ha => by cases ha⟩
  · simp at hv
    obtain ⟨rfl, rfl⟩ := hv
    refine ⟨.inr ⟨0, rfl, fun j hj => ?_⟩, hn, hm, (fun e => by cases e), fun a ha => ?_⟩
    · have := h.cellAt j (by omega)
      rw [show (0 + j) = j by omega]
      simp [bcs, hj] at this
      simpa using this
    · simp at ha
      subst ha
      exact ⟨hb, (Array.getElem?_eq_some_iff.1 hg).1, rfl⟩

theorem eql_nil (ao : Option Addr) (n c : Nat) (w : World) : (binOp .eql 23 (.slice ao n c) (.slice none 0 0)).run Try.prog w = .ok (.bool ao.isNone) w := Lib.run_eql_slice_nil w 23 5 ao n c 0 0 Try.underlying23

set_option maxHeartbeats 400000 in
theorem clone_any {w : World} {ao : Option Addr} {bs : List UInt8} {cap d : Nat} (hb : BS w ao bs d) (hn : ao = none → cap = 0) (hsz : bs.length ≤ 211106232532992) :
    Calls Try.prog 24 #[.slice ao bs.length cap] w fun e w' => ∃ ao' cap', e = .returned (.slice ao' bs.length cap') ∧ w'.ownsRow w.heap.size 5 1 (.slice ao' bs.length cap') bs.length (bcs bs) ∧ Only [] w w' := by
  cases ao with
  | none =>
    have := hb.none_nil
    subst this
    have := hn rfl
    subst this
    have k0 := eql_nil none 0 0
    go_enter Try.func24, Try.ntmps24
    go_wp2
    go_ret
    exact ⟨none, 0, rfl, World.ownsRow_nil _ _ _ _, Only.refl _ _⟩
  | some a =>
    have k0 := eql_nil (some a) bs.length cap
    go_enter Try.func24, Try.ntmps24
    go_wp2_with (at_builtin; refine wpList_append_bytes rfl (.tmp 5) (.tmp 6) rfl rfl rfl (World.ownsRow_made w #[] 0 (Nat.le_refl _) (by decide) rfl) (hb.only ((Only.refl [] w).alloc _) (by simp)) (by simp) (by omega) (by simp) ?_)
    intro ao' cap' w' hown hgrow _ _
    go_wp2
    go_ret
    exact ⟨ao', cap', rfl, hown, ((Only.refl [] w).alloc _).trans (Only.of_grown hgrow) (by simp [Value.ownBlock])⟩

theorem ownb_only {w w' : World} {B : Nat} {S : List Nat} {e : TypeId} {size n : Nat} {v : Value} {xs : List Value} (h : w.ownsRow B e size v n xs) (ho : Only S w w') (hn : ∀ k, v.ownBlock = some k → k ∉ S) : w'.ownsRow B e size v n xs := by
  refine ⟨h.1, ?_⟩
  rcases h.2 with q | ⟨g, cap, cur, q1, q2, q3, q4⟩
  · exact .inl q
  · subst q1
    exact .inr ⟨g, cap, cur, rfl, q2, by rw [ho.block g (Array.getElem?_eq_some_iff.1 q3).1 (hn g rfl)]; exact q3, q4⟩

/-- The block of a slice's bytes; r, if it has none. -/
def dataOf (ao : Option Addr) (r : Nat) : Nat := match ao with | none => r | some a => a.block

theorem dataOf_le {w : World} {B C r : Nat} {ao : Option Addr} {cap n : Nat} {xs : List Value} (h : w.ownsRow B 5 1 (.slice ao n cap) n xs) (hC : C ≤ B) (hr : C ≤ r) : C ≤ dataOf ao r := by
  unfold dataOf
  split
  · exact hr
  · rename_i a
    have := (h.lt a.block rfl).1
    omega

theorem dataOf_lt {w : World} {B : Nat} {ao : Option Addr} {cap n : Nat} {xs : List Value} (h : w.ownsRow B 5 1 (.slice ao n cap) n xs) (o : Obj) : dataOf ao w.heap.size < (w.alloc o).heap.size := by
  unfold dataOf
  split
  · simp
  · rename_i a
    have := (h.lt a.block rfl).2
    simp
    omega

theorem rd_new {w : World} {B : Nat} {ao : Option Addr} {cap : Nat} {bs : List UInt8} (h : w.ownsRow B 5 1 (.slice ao bs.length cap) bs.length (bcs bs)) (hl : bs.length ≤ 9223372036854775807) :
    RdE (w.alloc (.cells #[.int .i64 0, .int .i64 0, .slice ao bs.length cap] 67)) w.heap.size (dataOf ao w.heap.size) (bs, 0, 0) := by
  obtain ⟨hb, hc, hm, hn, ha⟩ := BS.of_owns h
  refine ⟨ao, cap, { c0 := ?_, c1 := ?_, c2 := ?_, f0 := frozen_new _ _ _ _, f1 := frozen_new _ _ _ _, f2 := frozen_new _ _ _ _, data := ?_, capLe := hc, capMax := hm, capNone := hn, fit := by simpa using hl, ne := ?_ }⟩
  · rw [cell_new]; rfl
  · rw [cell_new]; rfl
  · rw [cell_new]; rfl
  · cases ao with
    | none => exact .inl hb.none_nil
    | some a =>
      have hb' := hb.only ((Only.refl [] w).alloc (.cells #[.int .i64 0, .int .i64 0, .slice (some a) bs.length cap] 67)) (by simp)
      exact hb'
  · intro hne
    cases ao with
    | none => exact absurd hb.none_nil hne
    | some a =>
      have := (ha a rfl).2.1
      simp [dataOf]
      omega

set_option maxHeartbeats 400000 in
theorem newReader_any {w : World} {ao : Option Addr} {bs : List UInt8} {cap d : Nat} (hb : BS w ao bs d) (hn : ao = none → cap = 0) (hsz : bs.length ≤ 211106232532992) :
    Calls Try.prog 11 #[.slice ao bs.length cap] w fun e w' => ∃ r d', e = .returned (.pointer (some ⟨r, 0, none⟩)) ∧ RdE w' r d' (bs, 0, 0) ∧ Only [] w w' ∧ w.heap.size ≤ r ∧ w.heap.size ≤ d' ∧ d' < w'.heap.size := by
  go_enter Try.func11, Try.ntmps11
  go_wp2_with (go_at_call 24; refine (clone_any hb hn hsz).mono ?_; rintro e w' ⟨ao', cap', rfl, hown, ho⟩)
  go_ret
  refine ⟨w'.heap.size, dataOf ao' w'.heap.size, rfl, rd_new hown (by omega), ho.alloc _, ho.size, ?_, ?_⟩
  · exact (dataOf_le hown (by omega) ho.size)
  · exact dataOf_lt hown _ 

end Go.Proofs.Ytmghmmkjcgopaaa
