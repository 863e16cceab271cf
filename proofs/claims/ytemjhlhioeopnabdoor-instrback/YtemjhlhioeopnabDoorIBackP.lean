/-
  What was read is written again; the places of what was written: the plain functions. No conditions.
-/
import Derived.Test.YtemjhlhioeopnabDoorIEncP
namespace Go.Proofs.YtemjhlhioeopnabDoor
open Go.RowKit

theorem toNat_ofNat (c : UInt8) : UInt8.ofNat ((c.toNat : Int)).toNat = c := by simp

/-- What was read of some bytes is written as they are. -/
theorem enc_dec (c : UInt8) (r : List UInt8) (k : Int) (hp : 0 < sizeN c.toNat) (hl : sizeN c.toNat ≤ (c :: r).length) :
    encErr (k, (c.toNat : Int), (beI (r.take (sizeN c.toNat - 1)) : Int), (sizeN c.toNat : Int)) = 0 ∧ encOne (k, (c.toNat : Int), (beI (r.take (sizeN c.toNat - 1)) : Int), (sizeN c.toNat : Int)) = (c :: r).take (sizeN c.toNat) := by
  have hb := beI_lt (r.take (sizeN c.toNat - 1))
  have hlen : (r.take (sizeN c.toNat - 1)).length = sizeN c.toNat - 1 := by
    simp at hl ⊢
    omega
  rw [hlen] at hb
  have hs := sizeN_le c.toNat
  refine ⟨?_, ?_⟩
  · unfold encErr
    simp only
    rw [if_neg (by omega), if_neg (by omega)]
  · unfold encOne
    simp only [toNat_ofNat]
    generalize sizeN (c.toNat : Int) = z at *
    rcases (by omega : z = 1 ∨ z = 2 ∨ z = 3) with rfl | rfl | rfl
    · simp
    · cases r with
      | nil => simp at hl
      | cons a r =>
        simp only [beI]
        simp
    · cases r with
      | nil => simp at hl
      | cons a r =>
        cases r with
        | nil => simp at hl
        | cons b r =>
          have e1 : ((a.toNat * 256 + b.toNat) / 256) = a.toNat := by have := b.toNat_lt; omega
          have e2 : (UInt8.ofNat (a.toNat * 256 + b.toNat)) = b := by
            apply UInt8.toNat_inj.1
            rw [UInt8.toNat_ofNat']
            have := b.toNat_lt
            omega
          have e3 : ((a.toNat : Int) * 256 + (b.toNat : Int)).toNat = a.toNat * 256 + b.toNat := by omega
          simp only [beI]
          simp [e1, e2, e3]

theorem enc_allL (f : Nat) : ∀ (n k : Nat) (bs : List UInt8), bs.length ≤ n → bs.length ≤ f → (allL f k bs).2.2 = 0 → encR (allL f k bs).1 = (bs, 0) := by
  intro n
  induction n with
  | zero =>
    intro k bs h1 h2 _
    have : bs = [] := List.eq_nil_of_length_eq_zero (by omega)
    subst this
    rw [allL_nil]
    rfl
  | succ n ih =>
    intro k bs h1 h2 h
    rcases allL_cases (k := k) h2 with ⟨h0, e⟩ | ⟨c, r, hb, hp, hl, _, _, e⟩ | ⟨_, hd, e⟩
    · rw [e, h0]
      rfl
    · rw [e, joinR_err] at h
      have hi := ih (k + sizeN c.toNat) (bs.drop (sizeN c.toNat)) (by simp; omega) (by simp; omega) h
      rw [hb] at hl
      obtain ⟨q1, q2⟩ := enc_dec c r (k : Int) hp hl
      rw [e, joinR_ok h]
      simp only [List.singleton_append]
      rw [encR, if_pos q1, hi, q2, joinB, if_pos rfl, ← hb, List.take_append_drop]
    · rw [e] at h
      exact absurd h hd

theorem enc_all {code : List UInt8} (h : (allR code).2.2 = 0) : encR (allR code).1 = (code, 0) := enc_allL _ _ _ _ (Nat.le_refl _) (Nat.le_refl _) h

/-- Where the j-th of some instructions lies that were written. -/
def placeI (l : List In) (j : Nat) : Nat := ((l.take j).map fun i => sizeN i.2.1).sum

theorem place_succ (l : List In) (j : Nat) (h : j < l.length) : placeI l (j + 1) = placeI l j + sizeN l[j].2.1 := by
  unfold placeI
  rw [List.take_succ_eq_append_getElem h, List.map_append, List.sum_append]
  simp only [List.map_cons, List.map_nil, List.sum_cons, List.sum_nil, Nat.add_zero]

theorem tag_get (l : List In) : ∀ (k j : Nat) (h : j < l.length), (tagI k l)[j]'(by rw [tagI_length]; exact h) = (((k + placeI l j : Nat) : Int), l[j].2.1, l[j].2.2.1, (sizeN l[j].2.1 : Int)) := by
  induction l with
  | nil => intro k j h; simp at h
  | cons i l ih =>
    intro k j h
    cases j with
    | zero => simp [tagI, placeI]
    | succ j =>
      simp only [tagI, List.getElem_cons_succ]
      rw [ih (k + sizeN i.2.1) j (by simpa using h)]
      simp [placeI, Nat.add_assoc]

/-- What was written, read at its places. -/
theorem back_at {l : List In} (h : (encR l).2 = 0) (j : Nat) (hj : j < l.length) : decR (encR l).1 (placeI l j : Int) = (((placeI l j : Int), l[j].2.1, l[j].2.2.1, (sizeN l[j].2.1 : Int)), 0) := by
  obtain ⟨p, q1, q2, _⟩ := enc_at l j hj h
  have e1 := q1 0
  have e2 := tag_get l 0 j hj
  rw [e1] at e2
  have e3 := congrArg Prod.fst e2
  simp only [Nat.zero_add] at e3
  have : p = placeI l j := by omega
  rw [← this]
  exact q2

theorem place_end {l : List In} (h : (encR l).2 = 0) : placeI l l.length = (encR l).1.length := by
  rw [← tag_sum l h, placeI, List.take_of_length_le (Nat.le_refl _)]

theorem place_le (l : List In) (j : Nat) : placeI l j ≤ 3 * l.length := by
  unfold placeI
  have hk : ∀ (m : List In), (m.map fun i => sizeN i.2.1).sum ≤ 3 * m.length := by
    intro m
    induction m with
    | nil => simp
    | cons i m ih =>
      have := sizeN_le i.2.1
      simp
      omega
  have := hk (l.take j)
  rw [List.length_take] at this
  omega

theorem back_all {l : List In} (h : (encR l).2 = 0) : allR (encR l).1 = (tagI 0 l, 0, 0) := all_enc l _ 0 h (Nat.le_refl _)

end Go.Proofs.YtemjhlhioeopnabDoor
