/-
  What is written into rows of one's own: a signature's parameters, types. No conditions.
-/
import Derived.Test.YtfpdgfgbonbpjabDTwin
import Derived.Test.YtfpdgfgbonbpjabDSame
import Derived.Laws.OwnMore
namespace Go.Proofs.Ytfpdgfgbonbpjab
open Go.RowKit

theorem tcs_set (l : List Ty) (j : Nat) (h : j < l.length) (t : Ty) : tcs (l.set j t) = ((tcs l).set (j * 2) (.int .i64 t.1)).set (j * 2 + 1) (.string (str t.2)) := by
  induction l generalizing j with
  | nil => simp at h
  | cons a l ih =>
    cases j with
    | zero => rfl
    | succ j =>
      have := ih j (by simpa using h)
      simp only [List.set_cons_succ, tcs, Nat.add_mul, Nat.one_mul]
      rw [this]

theorem own_put {w : World} {B g cap : Nat} {l : List Ty} (h : Own w B (.slice (some ⟨g, 0, none⟩) l.length cap) l) (j : Nat) (hj : j < l.length) (t : Ty) :
    Own ((w.setCell ⟨g, j * 2, none⟩ (.int .i64 t.1)).setCell ⟨g, j * 2 + 1, none⟩ (.string (str t.2))) B (.slice (some ⟨g, 0, none⟩) l.length cap) (l.set j t) := by
  unfold Own
  rw [List.length_set, tcs_set l j hj]
  exact ((h.stored (j * 2) (.int .i64 t.1)).1.stored (j * 2 + 1) (.string (str t.2))).1

/-- A signature of one's own in block A, a row of one's own beside it; of what was there at w6 only S may have turned. -/
structure OM (w6 wr : World) (A : Nat) (S : List Nat) (ao : Option Addr) (n cap : Nat) (v : Bool) (t : Ty) (mo : Option Addr) (m mcap : Nat) : Prop where
  row : ∃ la : List Ty, la.length = n ∧ Own wr 0 (.slice ao n cap) la
  sig : SigAt wr A (.slice ao n cap) v t
  only : Only S w6 wr
  blk : ∀ a, ao = some a → (a.block ∈ S ∨ w6.heap.size ≤ a.block) ∧ a.block ≠ A
  mine : ∃ lm : List Ty, lm.length = m ∧ Own wr 0 (.slice mo m mcap) lm
  mblk : ∀ a, mo = some a → a.block ∈ S ∧ a.block ≠ A
  apart : ∀ a b, ao = some a → mo = some b → a.block ≠ b.block
  inA : A ∈ S

theorem two_only (w : World) (g i j : Nat) (x y : Value) : Only [g] w ((w.setCell ⟨g, i, none⟩ x).setCell ⟨g, j, none⟩ y) := ((Only.refl [g] w).setCell (.inl (by simp)) _).setCell (.inl (by simp)) _

theorem OM.put1 {w6 wr : World} {A : Nat} {S : List Nat} {g n cap : Nat} {v : Bool} {t : Ty} {mo : Option Addr} {m mcap : Nat} (h : OM w6 wr A S (some ⟨g, 0, none⟩) n cap v t mo m mcap) {j : Nat} (hj : j < n) (x : Ty) :
    OM w6 ((wr.setCell ⟨g, j * 2, none⟩ (.int .i64 x.1)).setCell ⟨g, j * 2 + 1, none⟩ (.string (str x.2))) A S (some ⟨g, 0, none⟩) n cap v t mo m mcap := by
  obtain ⟨la, rfl, ho⟩ := h.row
  obtain ⟨lm, rfl, hm⟩ := h.mine
  have hb := h.blk _ rfl
  refine ⟨⟨la.set j x, by simp, own_put ho j hj x⟩, h.sig.only (two_only _ _ _ _ _ _) (by simp; exact fun e => hb.2 e.symm), h.only.trans (two_only _ _ _ _ _ _) (by intro x hx; simp at hx; subst hx; exact hb.1), h.blk, ⟨lm, rfl, own_only hm (two_only _ _ _ _ _ _) ?_⟩, h.mblk, h.apart, h.inA⟩
  intro k hk
  cases mo with
  | none => cases hk
  | some b =>
    simp [Value.ownBlock] at hk
    subst hk
    have := h.apart _ b rfl rfl
    simp
    exact fun e => this e.symm

theorem OM.put2 {w6 wr : World} {A : Nat} {S : List Nat} {g n cap : Nat} {v : Bool} {t : Ty} {ao : Option Addr} {m mcap : Nat} (h : OM w6 wr A S ao n cap v t (some ⟨g, 0, none⟩) m mcap) {j : Nat} (hj : j < m) (x : Ty) :
    OM w6 ((wr.setCell ⟨g, j * 2, none⟩ (.int .i64 x.1)).setCell ⟨g, j * 2 + 1, none⟩ (.string (str x.2))) A S ao n cap v t (some ⟨g, 0, none⟩) m mcap := by
  obtain ⟨la, rfl, ho⟩ := h.row
  obtain ⟨lm, rfl, hm⟩ := h.mine
  have hb := h.mblk _ rfl
  refine ⟨⟨la, rfl, own_only ho (two_only _ _ _ _ _ _) ?_⟩, h.sig.only (two_only _ _ _ _ _ _) (by simp; exact fun e => hb.2 e.symm), h.only.trans (two_only _ _ _ _ _ _) (by intro x hx; simp at hx; subst hx; exact .inl hb.1), h.blk, ⟨lm.set j x, by simp, own_put hm j hj x⟩, h.mblk, h.apart, h.inA⟩
  intro k hk
  cases ao with
  | none => cases hk
  | some b =>
    simp [Value.ownBlock] at hk
    subst hk
    have := h.apart b _ rfl rfl
    simp
    exact this

theorem OM.sig2 {w6 wr w2 : World} {A : Nat} {S : List Nat} {n cap : Nat} {v : Bool} {t : Ty} {ao : Option Addr} {mo : Option Addr} {m mcap : Nat} {o : Obj} (h : OM w6 wr A S ao n cap v t mo m mcap) (hg : (wr.alloc o).grownBy w2 (Value.ownBlock (.slice ao n cap))) : SigAt w2 A (.slice ao n cap) v t := by
  have ho2 : Only (Value.ownBlock (.slice ao n cap)).toList wr w2 := ((Only.refl _ wr).alloc o).trans (Only.of_grown hg) fun x hx => .inl hx
  refine h.sig.only ho2 ?_
  cases ao with
  | none => simp [Value.ownBlock]
  | some a =>
    simp [Value.ownBlock]
    exact fun e => (h.blk a rfl).2 e.symm

theorem OM.app {w6 wr w2 : World} {A : Nat} {S : List Nat} {n cap n' cap' : Nat} {v : Bool} {t : Ty} {ao ao' : Option Addr} {mo : Option Addr} {m mcap : Nat} {o : Obj} {l' : List Ty} (h : OM w6 wr A S ao n cap v t mo m mcap) (hl : l'.length = n') (hown : Own w2 0 (.slice ao' n' cap') l') (hg : (wr.alloc o).grownBy w2 (Value.ownBlock (.slice ao n cap)))
    (hao : ∀ a, ao' = some a → (∃ a', ao = some a' ∧ a'.block = a.block) ∨ (wr.alloc o).heap.size ≤ a.block) :
    OM w6 (w2.setCell ⟨A, 0, none⟩ (.slice ao' n' cap')) A S ao' n' cap' v t mo m mcap := by
  subst hl
  have hsz := h.only.size
  have hA := World.block_lt_of_cell? _ _ h.sig.c0
  simp only [] at hA
  have ho2 : Only (Value.ownBlock (.slice ao n cap)).toList wr w2 := ((Only.refl _ wr).alloc o).trans (Only.of_grown hg) fun x hx => .inl hx
  have hAn : A ∉ (Value.ownBlock (.slice ao n cap)).toList := by
    cases ao with
    | none => simp [Value.ownBlock]
    | some a =>
      simp [Value.ownBlock]
      exact fun e => (h.blk a rfl).2 e.symm
  have hb' : ∀ a, ao' = some a → (a.block ∈ S ∨ w6.heap.size ≤ a.block) ∧ a.block ≠ A := by
    intro a ha
    rcases hao a ha with ⟨a', h1, h2⟩ | h1
    · rw [← h2]
      exact h.blk a' h1
    · simp at h1
      exact ⟨.inr (by omega), by omega⟩
  have hs2 := h.sig.only ho2 hAn
  have hone : Only [A] w2 (w2.setCell ⟨A, 0, none⟩ (.slice ao' l'.length cap')) := (Only.refl [A] w2).setCell (.inl (by simp)) _
  obtain ⟨lm, hlm, hm⟩ := h.mine
  subst hlm
  refine ⟨⟨l', rfl, own_only hown hone ?_⟩, hs2.put0 _, ?_, hb', ⟨lm, rfl, own_only (own_only hm ho2 ?_) hone ?_⟩, h.mblk, ?_, h.inA⟩
  · intro k hk
    cases ao' with
    | none => cases hk
    | some b =>
      simp [Value.ownBlock] at hk
      subst hk
      simp
      exact (hb' b rfl).2
  · refine (h.only.trans ho2 ?_).setCell (.inl h.inA) _
    intro x hx
    cases ao with
    | none => simp [Value.ownBlock] at hx
    | some a =>
      simp [Value.ownBlock] at hx
      subst hx
      exact (h.blk a rfl).1
  · intro k hk
    cases mo with
    | none => cases hk
    | some b =>
      simp [Value.ownBlock] at hk
      subst hk
      cases ao with
      | none => simp [Value.ownBlock]
      | some a =>
        simp [Value.ownBlock]
        exact fun e => h.apart a b rfl rfl e.symm
  · intro k hk
    cases mo with
    | none => cases hk
    | some b =>
      simp [Value.ownBlock] at hk
      subst hk
      simp
      exact (h.mblk b rfl).2
  · intro a b ha hb
    rcases hao a ha with ⟨a', h1, h2⟩ | h1
    · rw [← h2]
      exact h.apart a' b h1 hb
    · have := (hm.lt b.block (by simp [Value.ownBlock, hb])).2
      simp at h1
      omega

end Go.Proofs.Ytfpdgfgbonbpjab
