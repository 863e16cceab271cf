/-
  The second program's Parse: the loop over the bits of a map, in memory. No conditions.
-/
import Derived.Test.YtmghmmkjcgopaaaGXP
namespace Go.Proofs.Ytmghmmkjcgopaaa
open Go.RowKit

/-- What stands all along: m's block gm, its two rows; nothing else that was there ahead has turned. -/
structure BiI (w7 wx : World) (gm : Nat) (A : Int) (U : List Bool) (lo n k : Nat) (v1 v2 : Value) : Prop where
  m : Mf wx gm A v1 v2
  f1 : wx.frozen? ⟨gm, 1, none⟩ = false
  f2 : wx.frozen? ⟨gm, 2, none⟩ = false
  r1 : wx.ownsRow w7.heap.size 4 1 v1 (min k lo) (lcs (U.take (min k lo)))
  r2 : wx.ownsRow w7.heap.size 4 1 v2 (min k n - lo) (lcs ((U.drop lo).take (min k n - lo)))
  ne : ∀ b, v1.ownBlock = some b → v2.ownBlock ≠ some b
  o : Only [gm] w7 wx
  g : gm < w7.heap.size

theorem ownb_of {w : World} {B n : Nat} {e : TypeId} {k : Nat} {v : Value} {xs : List Value} (h : w.ownsRow B e k v n xs) {b : Nat} (hb : v.ownBlock = some b) : B ≤ b ∧ b < w.heap.size := h.lt b hb

/-- An append to one of the rows, put back into m. -/
theorem bi_row {w7 wx w' : World} {gm n1 j : Nat} {o1 o1' : Option Addr} {c1 c1' : Nat} {xs zs ys : List Value} {n2 : Nat} {v2 u : Value} {ob : Obj}
    (hg : gm < w7.heap.size) (ho : Only [gm] w7 wx) (h1 : wx.ownsRow w7.heap.size 4 1 (.slice o1 n1 c1) n1 xs) (h2 : wx.ownsRow w7.heap.size 4 1 v2 n2 ys) (hne : ∀ b, Value.ownBlock (.slice o1 n1 c1) = some b → v2.ownBlock ≠ some b)
    (hA : Appd (wx.alloc ob) w' w7.heap.size 4 1 o1 o1' n1 (n1 + 1) c1' zs) :
    (w'.setCell ⟨gm, j, none⟩ u).ownsRow w7.heap.size 4 1 (.slice o1' (n1 + 1) c1') (n1 + 1) zs ∧ (w'.setCell ⟨gm, j, none⟩ u).ownsRow w7.heap.size 4 1 v2 n2 ys ∧ (∀ b, Value.ownBlock (.slice o1' (n1 + 1) c1') = some b → v2.ownBlock ≠ some b) ∧ Only [gm] w7 (w'.setCell ⟨gm, j, none⟩ u) ∧ (∀ i, w'.cell? ⟨gm, i, none⟩ = wx.cell? ⟨gm, i, none⟩) ∧ (∀ i, w'.frozen? ⟨gm, i, none⟩ = wx.frozen? ⟨gm, i, none⟩) := by
  have hS : ∀ x ∈ (Value.ownBlock (.slice o1 n1 0)).toList, w7.heap.size ≤ x ∧ (∃ a, o1 = some a ∧ a.block = x) := by
    intro x hx
    cases o1 with
    | none => simp [Value.ownBlock] at hx
    | some a =>
      simp [Value.ownBlock] at hx
      subst hx
      exact ⟨((RS.of_owns h1).2.2.2.2 a rfl).1, a, rfl, rfl⟩
  have oA := hA.only
  have oS : Only [gm] w' (w'.setCell ⟨gm, j, none⟩ u) := (Only.refl _ _).setCell (.inl (by simp)) _
  have hsz := ho.size
  have ow : Only (Value.ownBlock (.slice o1 n1 0)).toList wx w' := only_two ((Only.refl [] wx).alloc _) oA
  have hgn : gm ∉ (Value.ownBlock (.slice o1 n1 0)).toList := fun hm => by have := (hS _ hm).1; omega
  refine ⟨rows_only hA.own oS (fun b hb => by have := (ownb_of hA.own hb).1; simp; omega), ?_, ?_, ?_, fun i => ow.cell (p := ⟨gm, i, none⟩) (show gm < wx.heap.size by omega) hgn, fun i => ow.frozen (p := ⟨gm, i, none⟩) (show gm < wx.heap.size by omega) hgn⟩
  · refine rows_only (rows_only h2 ow (fun b hb hm => ?_)) oS (fun b hb => by have := (ownb_of h2 hb).1; simp; omega)
    obtain ⟨_, a, ha, hab⟩ := hS b hm
    exact hne b (by rw [ha]; simp [Value.ownBlock, hab]) hb
  · intro b hb hb2
    have h2l := ownb_of h2 hb2
    cases o1' with
    | none => simp [Value.ownBlock] at hb
    | some a' =>
      simp [Value.ownBlock] at hb
      rcases hA.place a' rfl with ⟨a, ha, hab⟩ | hp
      · exact hne b (by rw [ha]; simp [Value.ownBlock]; omega) hb2
      · simp at hp
        omega
  · exact (ho.next ow (fun x hx => (hS x hx).1)).trans oS (fun x hx => .inl hx)

theorem bi_app1 {w7 wx w' : World} {gm lo n k : Nat} {A : Int} {U : List Bool} {o1 o1' : Option Addr} {c1 c1' : Nat} {v2 : Value} {ob : Obj} {b : Bool} (h : BiI w7 wx gm A U lo n k (.slice o1 k c1) v2) (hk : k < lo) (hln : lo ≤ n) (hb : U[k]? = some b)
    (hA : Appd (wx.alloc ob) w' w7.heap.size 4 1 o1 o1' k (k + 1) c1' (lcs (U.take k) ++ [.bool b])) : BiI w7 (w'.setCell ⟨gm, 1, none⟩ (.slice o1' (k + 1) c1')) gm A U lo n (k + 1) (.slice o1' (k + 1) c1') v2 := by
  have h1 := h.r1
  rw [Nat.min_eq_left (by omega)] at h1
  obtain ⟨q1, q2, q3, q4, q5, q6⟩ := bi_row (j := 1) (u := .slice o1' (k + 1) c1') h.g h.o h1 h.r2 h.ne hA
  have ht : U.take (k + 1) = U.take k ++ [b] := by
    obtain ⟨hlt, he⟩ := List.getElem?_eq_some_iff.1 hb
    rw [List.take_succ_eq_append_getElem hlt, he]
  refine ⟨⟨?_, ?_, ?_⟩, ?_, ?_, ?_, ?_, q3, q4, h.g⟩
  · rw [cell_setCell_ne _ _ (by simp), q5]; exact h.m.1
  · exact cell_setCell_same _ _ ((q5 1).trans h.m.2.1)
  · rw [cell_setCell_ne _ _ (by simp), q5]; exact h.m.2.2
  · rw [frozen_setCell, q6]; exact h.f1
  · rw [frozen_setCell, q6]; exact h.f2
  · rw [Nat.min_eq_left (by omega), ht, lcs_append]
    exact q1
  · have e : min (k + 1) n - lo = min k n - lo := by omega
    rw [e]
    exact q2

theorem bi_app2 {w7 wx w' : World} {gm lo n k : Nat} {A : Int} {U : List Bool} {o2 o2' : Option Addr} {c2 c2' : Nat} {v1 : Value} {ob : Obj} {b : Bool} (h : BiI w7 wx gm A U lo n k v1 (.slice o2 (k - lo) c2)) (hk : lo ≤ k) (hkn : k < n) (hb : U[k]? = some b)
    (hA : Appd (wx.alloc ob) w' w7.heap.size 4 1 o2 o2' (k - lo) (k - lo + 1) c2' (lcs ((U.drop lo).take (k - lo)) ++ [.bool b])) : BiI w7 (w'.setCell ⟨gm, 2, none⟩ (.slice o2' (k - lo + 1) c2')) gm A U lo n (k + 1) v1 (.slice o2' (k - lo + 1) c2') := by
  have h2 := h.r2
  rw [show min k n - lo = k - lo by omega] at h2
  obtain ⟨q1, q2, q3, q4, q5, q6⟩ := bi_row (j := 2) (u := .slice o2' (k - lo + 1) c2') h.g h.o h2 h.r1 (fun b hb hb2 => h.ne b hb2 hb) hA
  have ht : (U.drop lo).take (k - lo + 1) = (U.drop lo).take (k - lo) ++ [b] := by
    obtain ⟨hlt, he⟩ := List.getElem?_eq_some_iff.1 hb
    have hl2 : k - lo < (U.drop lo).length := by simp; omega
    rw [List.take_succ_eq_append_getElem hl2]
    congr 2
    rw [List.getElem_drop]
    rw [← he]
    congr 1
    omega
  refine ⟨⟨?_, ?_, ?_⟩, ?_, ?_, ?_, ?_, fun b hb hb2 => q3 b hb2 hb, q4, h.g⟩
  · rw [cell_setCell_ne _ _ (by simp), q5]; exact h.m.1
  · rw [cell_setCell_ne _ _ (by simp), q5]; exact h.m.2.1
  · exact cell_setCell_same _ _ ((q5 2).trans h.m.2.2)
  · rw [frozen_setCell, q6]; exact h.f1
  · rw [frozen_setCell, q6]; exact h.f2
  · rw [show min (k + 1) lo = min k lo by omega]
    exact q2
  · rw [show min (k + 1) n - lo = k - lo + 1 by omega, ht, lcs_append]
    exact q1

theorem bi_skip {w7 wx : World} {gm lo n k : Nat} {A : Int} {U : List Bool} {v1 v2 : Value} (h : BiI w7 wx gm A U lo n k v1 v2) (hln : lo ≤ n) (hk : n ≤ k) : BiI w7 wx gm A U lo n (k + 1) v1 v2 :=
  ⟨h.m, h.f1, h.f2, by rw [show min (k + 1) lo = min k lo by omega]; exact h.r1, by rw [show min (k + 1) n - lo = min k n - lo by omega]; exact h.r2, h.ne, h.o, h.g⟩

end Go.Proofs.Ytmghmmkjcgopaaa
