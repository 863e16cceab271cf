/-
  Where a value of the runner's says all of the machine's: then two that are alike with it are the same.
-/
import Derived.Test.YtllbjkeahafleaaGreatDoorRN17
set_option linter.unusedSimpArgs false
namespace Go.Proofs.YtllbjkeahafleaaGreatDoor
namespace Rn

/-- A value that says all. -/
def Hard (v : Value) : Prop := ∀ (φ : Fi) (x y : Value), VR φ v x → VR φ v y → x = y
def Hards (l : List Value) : Prop := ∀ (φ : Fi) (xs ys : List Value), All2 (VR φ) l xs → All2 (VR φ) l ys → xs = ys

theorem eqN_spec {a b : Nat} {K : Prop} (h : eqN a b K) : a = b ∧ K := by
  unfold eqN at h
  split at h
  · rename_i hb; exact ⟨Nat.eq_of_beq_eq_true hb, h⟩
  · exact h.elim
theorem eqKind_spec {k k' : IntKind} {K : Prop} (h : eqN (ikN k) (ikN k') K) : k' = k ∧ K := by
  unfold eqN at h
  split at h
  · rename_i hb; exact ⟨ikN_inj hb, h⟩
  · exact h.elim
theorem eqBytes_spec {s s' : ByteArray} {K : Prop} (h : bytesEqK s.data.toList s'.data.toList fun c => match c with
      | true => K
      | false => False) : s = s' ∧ K := by
  rw [bytesEqK_eq] at h
  cases hb : (s.data.toList == s'.data.toList) with
  | false => rw [hb] at h; exact h.elim
  | true =>
    rw [hb] at h
    refine ⟨?_, h⟩
    have := eq_of_beq hb
    cases s
    cases s'
    congr 1
    exact Array.ext' this
theorem eqG_spec {f g : Fn} {K : Prop} (h : eqG f g K) : f = g ∧ K := by
  unfold eqG at h
  split at h
  · split at h
    · obtain ⟨rfl, h2⟩ := eqN_spec h
      exact ⟨rfl, h2⟩
    · exact h.elim
  · exact h.elim
theorem eqsK_spec {E : Value → Value → Prop → Prop} (hE : ∀ x y K, E x y K → x = y ∧ Hard x ∧ K) {K : Prop} : ∀ {xs ys : List Value}, eqsK E xs ys K → xs = ys ∧ Hards xs ∧ K
  | [], [], h => ⟨rfl, fun _ _ _ hx hy => Eq.trans hx (Eq.symm hy), h⟩
  | [], _ :: _, h => h.elim
  | _ :: _, [], h => h.elim
  | x :: xs, y :: ys, h => by
    have h' : E x y (eqsK E xs ys K) := h
    obtain ⟨rfl, h1, h2⟩ := hE _ _ _ h'
    obtain ⟨rfl, h3, h4⟩ := eqsK_spec hE h2
    refine ⟨rfl, fun φ us ws hu hw => ?_, h4⟩
    cases us with
    | nil => exact hu.elim
    | cons u us =>
      cases ws with
      | nil => exact hw.elim
      | cons w ws => rw [h1 φ u w hu.1 hw.1, h3 φ us ws hu.2 hw.2]
theorem hard_flat {v : Value} (h : ∀ (φ : Fi) (R : Value → Value → Prop) (x : Value), Sh φ R v x → x = v) : Hard v := fun φ x y hx hy => by
  rw [h φ _ x hx.inv, h φ _ y hy.inv]

theorem eqH1_spec {E : Value → Value → Prop → Prop} (hE : ∀ x y K, E x y K → x = y ∧ Hard x ∧ K) {v w : Value} {K : Prop} (h : eqH1 E v w K) : v = w ∧ Hard v ∧ K := by
  unfold eqH1 at h
  split at h
  · split at h
    · exact ⟨rfl, hard_flat fun _ _ _ h => h, h⟩
    · exact h.elim
  · split at h
    · exact ⟨rfl, hard_flat fun _ _ _ h => h, h⟩
    · exact h.elim
  · split at h
    · obtain ⟨h1, h2⟩ := eqKind_spec h
      obtain ⟨h3, h4⟩ := eqN_spec h2
      exact ⟨by rw [h1, h3], hard_flat fun _ _ _ h => h, h4⟩
    · exact h.elim
  · split at h
    · obtain ⟨h1, h2⟩ := eqKind_spec h
      obtain ⟨h3, h4⟩ := eqN_spec h2
      exact ⟨by rw [h1, h3], hard_flat fun _ _ _ h => h, h4⟩
    · exact h.elim
  · split at h
    · obtain ⟨h1, h2⟩ := eqBytes_spec h
      exact ⟨by rw [h1], hard_flat fun _ _ _ h => h, h2⟩
    · exact h.elim
  · split at h
    · exact ⟨rfl, hard_flat fun _ _ _ h => h, h⟩
    · exact h.elim
  · split at h
    · obtain ⟨h1, h2⟩ := eqN_spec h
      obtain ⟨h3, h4⟩ := eqN_spec h2
      refine ⟨by rw [h1, h3], fun φ x y hx hy => ?_, h4⟩
      obtain ⟨s, k1, k2⟩ := hx.inv
      obtain ⟨s', k3, k4⟩ := hy.inv
      rw [k1] at k3
      cases k3
      rw [k2, k4]
    · exact h.elim
  · split at h
    · obtain ⟨h1, h2⟩ := eqN_spec h
      obtain ⟨h3, h4⟩ := eqN_spec h2
      exact ⟨by rw [h1, h3], hard_flat fun _ _ _ h => h, h4⟩
    · exact h.elim
  · rename_i r o n c
    split at h
    · split at h
      · exact h.elim
      · rename_i hb
        have hr : r ≠ NOWHERE := fun e => by rw [e, Nat.beq_refl] at hb; cases hb
        obtain ⟨h1, h2⟩ := eqN_spec h
        obtain ⟨h3, h4⟩ := eqN_spec h2
        obtain ⟨h5, h6⟩ := eqN_spec h4
        obtain ⟨h7, h8⟩ := eqN_spec h6
        refine ⟨by rw [h1, h3, h5, h7], fun φ x y hx hy => ?_, h8⟩
        rcases hx.inv with ⟨e, _⟩ | ⟨_, s, c1, h1, h2, h3, h4⟩
        · exact absurd e hr
        · rcases hy.inv with ⟨e, _⟩ | ⟨_, s', c2, k1, k2, k3, k4⟩
          · exact absurd e hr
          · rw [h1] at k1
            cases k1
            have hc : c1 = c2 := by
              by_cases hT : c = TOP
              · obtain ⟨_, q1, q2⟩ := h4 hT
                obtain ⟨_, q3, _⟩ := k4 hT
                exact Nat.eq_of_mul_eq_mul_right (show 0 < s.u by omega) (by omega)
              · rw [h3 hT, k3 hT]
            rw [h2, k2, hc]
    · exact h.elim
  · split at h
    · exact ⟨rfl, hard_flat fun _ _ _ h => h, h⟩
    · exact h.elim
  · split at h
    · obtain ⟨h1, h2⟩ := eqN_spec h
      refine ⟨by rw [h1], fun φ x y hx hy => ?_, h2⟩
      obtain ⟨s, k1, k2⟩ := hx.inv
      obtain ⟨s', k3, k4⟩ := hy.inv
      rw [k1] at k3
      cases k3
      rw [k2, k4]
    · exact h.elim
  · split at h
    · exact ⟨rfl, hard_flat fun _ _ _ h => h, h⟩
    · exact h.elim
  · split at h
    · exact ⟨rfl, hard_flat fun _ _ _ h => h, h⟩
    · exact h.elim
  · rename_i f a b
    split at h
    · rename_i g a' b'
      obtain ⟨rfl, h2⟩ := eqG_spec h
      obtain ⟨h3, h4, h5⟩ := eqsK_spec hE h2
      obtain ⟨h6, h7, h8⟩ := eqsK_spec hE h5
      refine ⟨by rw [Array.ext' h3, Array.ext' h6], fun φ x y hx hy => ?_, h8⟩
      obtain ⟨a1, b1, e1, k1, k2⟩ := hx.inv
      obtain ⟨a2, b2, e2, k3, k4⟩ := hy.inv
      rw [e1, e2, Array.ext' (h4 φ _ _ k1 k3), Array.ext' (h7 φ _ _ k2 k4)]
    · exact h.elim
  · split at h
    · obtain ⟨rfl, h2⟩ := eqN_spec h
      obtain ⟨rfl, h4, h5⟩ := hE _ _ _ h2
      refine ⟨rfl, fun φ x y hx hy => ?_, h5⟩
      obtain ⟨x', e1, k1⟩ := hx.inv
      obtain ⟨y', e2, k2⟩ := hy.inv
      rw [e1, e2, h4 φ _ _ k1 k2]
    · exact h.elim
  · split at h
    · obtain ⟨h3, h4, h5⟩ := eqsK_spec hE h
      refine ⟨by rw [Array.ext' h3], fun φ x y hx hy => ?_, h5⟩
      obtain ⟨x', e1, k1⟩ := hx.inv
      obtain ⟨y', e2, k2⟩ := hy.inv
      rw [e1, e2, Array.ext' (h4 φ _ _ (k1.mono fun _ _ q => q.1) (k2.mono fun _ _ q => q.1))]
    · exact h.elim
  · split at h
    · obtain ⟨h3, h4, h5⟩ := eqsK_spec hE h
      refine ⟨by rw [Array.ext' h3], fun φ x y hx hy => ?_, h5⟩
      obtain ⟨x', e1, k1⟩ := hx.inv
      obtain ⟨y', e2, k2⟩ := hy.inv
      rw [e1, e2, Array.ext' (h4 φ _ _ k1 k2)]
    · exact h.elim
  · split at h
    · obtain ⟨h1, h2⟩ := eqN_spec h
      obtain ⟨h3, h4⟩ := eqN_spec h2
      refine ⟨by rw [h1, h3], fun φ x y hx hy => ?_, h4⟩
      obtain ⟨s, k1, _, k2⟩ := hx.inv
      obtain ⟨s', k3, _, k4⟩ := hy.inv
      rw [k1] at k3
      cases k3
      rw [k2, k4]
    · exact h.elim
  · split at h
    · obtain ⟨h1, h2⟩ := eqN_spec h
      refine ⟨by rw [h1], fun φ x y hx hy => ?_, h2⟩
      obtain ⟨s, k1, _, k2⟩ := hx.inv
      obtain ⟨s', k3, _, k4⟩ := hy.inv
      rw [k1] at k3
      cases k3
      rw [k2, k4]
    · exact h.elim
  · exact h.elim
theorem eqF_spec : ∀ (n : Nat) {v w : Value} {K : Prop}, eqF n v w K → v = w ∧ Hard v ∧ K
  | 0, _, _, _, h => h.elim
  | n + 1, _, _, _, h => eqH1_spec (E := eqF n) (fun _ _ _ g => eqF_spec n g) h
theorem eqH_spec {v w : Value} {K : Prop} (h : eqH v w K) : v = w ∧ Hard v ∧ K := eqF_spec 6 h

end Rn
end Go.Proofs.YtllbjkeahafleaaGreatDoor
