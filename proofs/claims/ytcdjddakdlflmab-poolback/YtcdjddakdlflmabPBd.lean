/-
  A builder in memory, and the contract of slices.Index at entries. No conditions.
-/
import Derived.Test.YtcdjddakdlflmabPApp
import Derived.Test.YtcdjddakdlflmabPRight
namespace Go.Proofs.Ytcdjddakdlflmab
open Go.RowKit

/-- The first entry that is this one. -/
def firstAt : List En → En → Option Nat
  | [], _ => none
  | x :: r, e => if x = e then some 0 else (firstAt r e).map (· + 1)
def idxI (l : List En) (e : En) : Int := match firstAt l e with
  | some i => (i : Int)
  | none => -1
/-- An entry put into a list: the list, the entry's number. -/
def putE (l : List En) (e : En) : List En × Int := match firstAt l e with
  | some i => (l, (i : Int))
  | none => (l ++ [e], (l.length : Int))

theorem firstAt_at {l : List En} {e : En} {k : Nat} (hk : k < l.length) (h0 : ∀ j (hj : j < k), (l[j]'(by omega)) ≠ e) (h1 : l[k] = e) : firstAt l e = some k := by
  induction l generalizing k with
  | nil => simp at hk
  | cons x r ih =>
    unfold firstAt
    cases k with
    | zero =>
      simp at h1
      rw [if_pos h1]
    | succ k =>
      have := h0 0 (by omega)
      simp at this
      rw [if_neg this, ih (k := k) (by simpa using hk) (fun j hj => by simpa using h0 (j + 1) (by omega)) (by simpa using h1)]
      rfl

theorem firstAt_none {l : List En} {e : En} (h : ∀ x ∈ l, x ≠ e) : firstAt l e = none := by
  induction l with
  | nil => rfl
  | cons x r ih =>
    unfold firstAt
    rw [if_neg (h x (by simp)), ih fun y hy => h y (by simp [hy])]
    rfl

theorem firstAt_some {l : List En} {e : En} {i : Nat} (h : firstAt l e = some i) : ∃ hi : i < l.length, l[i] = e := by
  induction l generalizing i with
  | nil => cases h
  | cons x r ih =>
    unfold firstAt at h
    split at h
    · rename_i hx
      simp at h
      subst h
      exact ⟨by simp, by simpa using hx⟩
    · cases hf : firstAt r e with
      | none => rw [hf] at h; cases h
      | some k =>
        rw [hf] at h
        simp at h
        subst h
        obtain ⟨hk, he⟩ := ih hf
        exact ⟨by simpa using hk, by simpa using he⟩

set_option maxHeartbeats 400000 in
set_option maxRecDepth 100000 in
theorem index_any' {w : World} {ao : Option Addr} {l : List En} {d cap : Nat} (hE : ES w ao l d) (hl : l.length ≤ 9223372036854775807) (e : En) :
    Calls Try.prog 52 #[.slice ao l.length cap, enV e] w fun r w' => r = .returned (.int .i64 (idxI l e)) ∧ Only [] w w' := by
  have hx : ∃ x, x = idxI l e := ⟨_, rfl⟩
  obtain ⟨x, hx⟩ := hx
  rw [← hx]
  replace hx := hid hx
  have o0 := (Only.refl [] w).alloc (.cells #[.int .i64 e.1, .string (str e.2.1), .int .i64 e.2.2.1, .int .i64 e.2.2.2.1, .int .i64 e.2.2.2.2.1, .int .i64 e.2.2.2.2.2] 43)
  have E0 := enAt_new w e 43
  have hq := fun x : En => eq_entry e x
  simp only [enV] at hq ⊢
  replace hq := hid hq
  replace E0 := hid E0
  replace hE := hid hE
  replace o0 := hid o0
  go_enter Try.func52, Try.ntmps52
  go_wp2
  go_loopw [8] (fun i wr => ∃ k : Nat, k ≤ l.length ∧ i = .int .i64 (k : Int) ∧ (∀ j (hj : j < l.length), j < k → l[j] ≠ e) ∧ Only [] (w.alloc (.cells #[.int .i64 e.1, .string (str e.2.1), .int .i64 e.2.2.1, .int .i64 e.2.2.2.1, .int .i64 e.2.2.2.2.1, .int .i64 e.2.2.2.2.2] 43)) wr) (fun i _ => l.length - (intOf i).toNat)
  case atStart => exact ⟨0, by omega, rfl, fun j _ h => by omega, Only.refl _ _⟩
  case round =>
    obtain ⟨k, hk, rfl, hok, hor⟩ := hrel
    have hon := o0.out.next hor (by simp)
    obtain ⟨e0, e1, e2, e3, e4, e5⟩ := E0.out.only hor (by simp)
    simp only [Nat.zero_add] at e0 e1 e2 e3 e4 e5
    by_cases hlt : k < l.length
    · have g2 : ((k : Int) < (l.length : Int)) := by omega
      obtain ⟨off, rfl, y0, y1, y2, y3, y4, y5⟩ := (hE.out.only hon (by simp)).at hlt
      have hqk := hq.out l[k]
      by_cases hz : e = l[k]
      · have hat := firstAt_at hlt (fun j hj => hok j (by omega) hj) hz.symm
        have hxk : Hid (x = (k : Int)) := by unfold Hid; rw [hx.out]; simp [idxI, hat]
        rw [decide_eq_true hz] at hqk
        generalize l[k] = u at *
        clear hok hz hat
        go_wp2_with fail
        go_region
        go_wp2
        go_ret
        exact ⟨by rw [hxk.out]; rfl, hon.drew⟩
      · have hnx : ∀ j (hj : j < l.length), j < k + 1 → l[j] ≠ e := by
          intro j hj hjk
          by_cases e' : j = k
          · subst e'
            exact fun h => hz h.symm
          · exact hok j hj (by omega)
        rw [decide_eq_false hz] at hqk
        generalize l[k] = u at *
        replace hnx := hid hnx
        clear hok hz
        go_wp2_with fail
        go_region
        go_wp2
        exact ⟨⟨k + 1, by omega, by go_num, hnx.out, hor.drew⟩, by simp [intOf]; omega⟩
    · have g2 : ¬ ((k : Int) < (l.length : Int)) := by omega
      obtain rfl : k = l.length := by omega
      have hall := firstAt_none (l := l) (e := e) fun y hy => by
        obtain ⟨j, hj, rfl⟩ := List.getElem_of_mem hy
        exact hok j hj hj
      have hxk : Hid (x = -1) := by unfold Hid; rw [hx.out]; simp [idxI, hall]
      clear hok hall
      go_wp2
      go_ret
      exact ⟨by rw [hxk.out]; rfl, hon⟩

/-- A builder's list: in block b the slice, its row (if it has one) in block R. -/
structure Bd (w : World) (b : Nat) (R : Option Nat) (l : List En) : Prop where
  ex : ∃ ao cap, w.cell? ⟨b, 0, none⟩ = some (.slice ao l.length cap) ∧ OwE w 0 (.slice ao l.length cap) l ∧ R = ao.map (·.block)
  f : w.frozen? ⟨b, 0, none⟩ = false
  ne : R ≠ some b

/-- What a call of a builder does: its list is another one; of the rest nothing has turned. -/
structure Bt (w w' : World) (b : Nat) (R R' : Option Nat) (l' : List En) : Prop where
  bd : Bd w' b R' l'
  only : Only (b :: R.toList) w w'
  row : R' = R ∨ ∃ g, R' = some g ∧ w.heap.size ≤ g

theorem Bd.lt {w : World} {b : Nat} {R : Option Nat} {l : List En} (h : Bd w b R l) : b < w.heap.size := by
  obtain ⟨ao, cap, hc, _⟩ := h.ex
  exact World.block_lt_of_cell? w _ hc

theorem Bd.row_lt {w : World} {b : Nat} {R : Option Nat} {l : List En} (h : Bd w b R l) : ∀ g, R = some g → g < w.heap.size := by
  intro g hg
  obtain ⟨ao, cap, hc, ho, rfl⟩ := h.ex
  cases ao with
  | none => cases hg
  | some a =>
    simp at hg
    subst hg
    exact ((ES.of_owns ho).2.2.2.2 a rfl).2.1

theorem Bd.only {w w' : World} {S : List Nat} {b : Nat} {R : Option Nat} {l : List En} (h : Bd w b R l) (ho : Only S w w') (hb : b ∉ S) (hR : ∀ g, R = some g → g ∉ S) : Bd w' b R l := by
  have hlt := h.lt
  obtain ⟨ao, cap, hc, how, rfl⟩ := h.ex
  refine ⟨⟨ao, cap, by rw [ho.cell hlt hb]; exact hc, owe_only how ho ?_, rfl⟩, by rw [ho.frozen hlt hb]; exact h.f, h.ne⟩
  intro k hk
  cases ao with
  | none => cases hk
  | some a =>
    simp [Value.ownBlock] at hk
    exact hR k (by simp [hk])

theorem Bt.refl {w : World} {b : Nat} {R : Option Nat} {l : List En} (h : Bd w b R l) : Bt w w b R R l := ⟨h, Only.refl _ _, .inl rfl⟩

theorem Bt.trans {w w1 w2 : World} {b : Nat} {R R1 R2 : Option Nat} {l1 l2 : List En} (h : Bt w w1 b R R1 l1) (k : Bt w1 w2 b R1 R2 l2) : Bt w w2 b R R2 l2 := by
  refine ⟨k.bd, h.only.trans k.only ?_, ?_⟩
  · intro x hx
    simp at hx
    rcases hx with rfl | hx
    · exact .inl (by simp)
    · rcases h.row with e | ⟨g, e, hg⟩
      · subst e
        exact .inl (by simp [hx])
      · subst e
        simp at hx
        subst hx
        exact .inr hg
  · have := h.only.size
    rcases k.row with e | ⟨g, e, hg⟩
    · rw [e]
      exact h.row
    · exact .inr ⟨g, e, by omega⟩

/-- What only made new blocks leaves it so. -/
theorem Bt.next {w w1 w2 : World} {b : Nat} {R R1 : Option Nat} {l1 : List En} (h : Bt w w1 b R R1 l1) (k : Only [] w1 w2) : Bt w w2 b R R1 l1 :=
  ⟨h.bd.only k (by simp) (by simp), h.only.trans k (by simp), h.row⟩

theorem Bt.first {w w1 w2 : World} {b : Nat} {R R1 : Option Nat} {l1 : List En} (k : Only [] w w1) (h : Bt w1 w2 b R R1 l1) : Bt w w2 b R R1 l1 := by
  have := k.size
  exact ⟨h.bd, (k.mono (S' := b :: R.toList) (by simp)).trans h.only (fun x hx => .inl hx), by
    rcases h.row with e | ⟨g, e, hg⟩
    · exact .inl e
    · exact .inr ⟨g, e, by omega⟩⟩

end Go.Proofs.Ytcdjddakdlflmab
