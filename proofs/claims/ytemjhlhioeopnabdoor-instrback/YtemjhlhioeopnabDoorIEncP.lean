/-
  What was written is read again, what was read is written again: the plain functions. No conditions.
-/
import Derived.Test.YtemjhlhioeopnabDoorIPure
namespace Go.Proofs.YtemjhlhioeopnabDoor
open Go.RowKit

theorem encOne_len (i : In) : (encOne i).length ≤ 3 := by
  unfold encOne
  repeat' split
  all_goals simp

theorem enc_len (l : List In) : (encR l).1.length ≤ 3 * l.length := by
  induction l with
  | nil => simp [encR]
  | cons i l ih =>
    rw [encR]
    by_cases h : encErr i = 0
    · rw [if_pos h]
      unfold joinB
      by_cases h2 : (encR l).2 = 0
      · rw [if_pos h2]
        have := encOne_len i
        simp
        omega
      · rw [if_neg h2]
        simp
    · rw [if_neg h]
      simp

theorem encErr_ok {i : In} (h : encErr i = 0) : 0 < sizeN i.2.1 ∧ 0 ≤ i.2.2.1 ∧ i.2.2.1 < ((256 ^ (sizeN i.2.1 - 1) : Nat) : Int) ∧ 0 ≤ i.2.1 ∧ i.2.1 ≤ 45 := by
  unfold encErr at h
  by_cases h0 : sizeN i.2.1 = 0
  · rw [if_pos h0] at h
    exact absurd h (by decide)
  rw [if_neg h0] at h
  by_cases h1 : i.2.2.1 < 0 ∨ ((256 ^ (sizeN i.2.1 - 1) : Nat) : Int) ≤ i.2.2.1
  · rw [if_pos h1] at h
    exact absurd h (by decide)
  have hop : 0 ≤ i.2.1 ∧ i.2.1 ≤ 45 := by
    unfold sizeN at h0
    split at h0
    · exact absurd rfl h0
    · omega
  exact ⟨by omega, by omega, by omega, hop.1, hop.2⟩

theorem ofNat_toNat {x : Int} (h0 : 0 ≤ x) (h1 : x < 256) : ((UInt8.ofNat x.toNat).toNat : Int) = x := by
  rw [UInt8.toNat_ofNat']
  omega

/-- What was written of an instruction begins with it. -/
theorem dec_enc {i : In} (h : encErr i = 0) (k : Nat) (r : List UInt8) : decAt k (encOne i ++ r) = (((k : Int), i.2.1, i.2.2.1, (sizeN i.2.1 : Int)), 0) ∧ (encOne i).length = sizeN i.2.1 := by
  obtain ⟨hp, n0, n1, p0, p45⟩ := encErr_ok h
  have hs := sizeN_le i.2.1
  have hc := ofNat_toNat p0 (by omega)
  unfold encOne
  generalize hz : sizeN i.2.1 = z at *
  obtain ⟨a, op, n, s⟩ := i
  simp only at *
  generalize UInt8.ofNat op.toNat = c at *
  rcases (by omega : z = 1 ∨ z = 2 ∨ z = 3) with rfl | rfl | rfl
  · simp only [List.cons_append, decAt, hc, hz]
    simp at n1
    refine ⟨?_, by simp⟩
    rw [if_neg (by omega), if_neg (by omega)]
    simp [beI]
    omega
  · simp only [List.cons_append, decAt, hc, hz]
    refine ⟨?_, by simp⟩
    have hl := ofNat_toNat n0 (by simp at n1; omega)
    rw [if_neg (by omega), if_neg (by simp)]
    simp [beI]
    omega
  · simp only [List.cons_append, decAt, hc, hz]
    refine ⟨?_, by simp⟩
    have e1 : ((UInt8.ofNat (n.toNat / 256)).toNat : Int) = n / 256 := by
      rw [UInt8.toNat_ofNat']
      simp at n1
      omega
    have e2 : ((UInt8.ofNat n.toNat).toNat : Int) = n % 256 := by
      rw [UInt8.toNat_ofNat']
      omega
    rw [if_neg (by omega), if_neg (by simp)]
    simp [beI]
    omega

/-- Instructions one behind the other from a place on. -/
def tagI : Nat → List In → List In
  | _, [] => []
  | k, i :: l => ((k : Int), i.2.1, i.2.2.1, (sizeN i.2.1 : Int)) :: tagI (k + sizeN i.2.1) l

theorem tagI_length (l : List In) : ∀ k, (tagI k l).length = l.length := by
  induction l with
  | nil => intro k; rfl
  | cons i l ih => intro k; simp [tagI, ih]

theorem encR_cons {i : In} {l : List In} (h : (encR (i :: l)).2 = 0) : encErr i = 0 ∧ (encR l).2 = 0 ∧ (encR (i :: l)).1 = encOne i ++ (encR l).1 := by
  rw [encR] at h ⊢
  by_cases h1 : encErr i = 0
  · rw [if_pos h1] at h ⊢
    unfold joinB at h ⊢
    by_cases h2 : (encR l).2 = 0
    · rw [if_pos h2]
      exact ⟨h1, h2, rfl⟩
    · rw [if_neg h2] at h
      exact absurd h h2
  · rw [if_neg h1] at h
    exact absurd h h1

/-- What was written is read again. -/
theorem all_enc (l : List In) : ∀ (f k : Nat), (encR l).2 = 0 → (encR l).1.length ≤ f → allL f k (encR l).1 = (tagI k l, 0, 0) := by
  induction l with
  | nil => intro f k _ _; rw [encR, allL_nil]; rfl
  | cons i l ih =>
    intro f k h hf
    obtain ⟨h1, h2, h3⟩ := encR_cons h
    rw [h3] at hf ⊢
    obtain ⟨hd, hl⟩ := dec_enc h1 k (encR l).1
    obtain ⟨hp, _⟩ := encErr_ok h1
    have hne : encOne i ++ (encR l).1 ≠ [] := by
      intro e
      have := congrArg List.length e
      rw [List.length_append, hl, List.length_nil] at this
      omega
    rw [allL_step hne hf (by rw [hd]), hd]
    simp only [Int.toNat_natCast]
    rw [← hl, List.drop_left, hl, ih f _ h2 (by simp at hf; omega), joinR_ok rfl]
    rfl

/-- Each instruction of what was written lies at its place. -/
theorem enc_at (l : List In) : ∀ (j : Nat) (h : j < l.length), (encR l).2 = 0 → ∃ p : Nat, (∀ k, (tagI k l)[j]'(by rw [tagI_length]; exact h) = (((k + p : Nat) : Int), l[j].2.1, l[j].2.2.1, (sizeN l[j].2.1 : Int))) ∧ decR (encR l).1 (p : Int) = (((p : Int), l[j].2.1, l[j].2.2.1, (sizeN l[j].2.1 : Int)), 0) ∧ p + sizeN l[j].2.1 ≤ (encR l).1.length := by
  induction l with
  | nil => intro j h; simp at h
  | cons i l ih =>
    intro j h hk
    obtain ⟨h1, h2, h3⟩ := encR_cons hk
    obtain ⟨hd, hl⟩ := dec_enc h1 0 (encR l).1
    cases j with
    | zero =>
      refine ⟨0, fun k => rfl, ?_, ?_⟩
      · rw [h3]
        unfold decR
        simp only [List.getElem_cons_zero]
        rw [if_neg (by omega)]
        simp only [Int.toNat_natCast, List.drop_zero]
        exact hd
      · rw [h3]
        simp
        omega
    | succ j =>
      obtain ⟨p, q1, q2, q3⟩ := ih j (by simpa using h) h2
      refine ⟨sizeN i.2.1 + p, fun k => ?_, ?_, ?_⟩
      · simp only [tagI, List.getElem_cons_succ]
        rw [q1 (k + sizeN i.2.1), Nat.add_assoc]
      · simp only [List.getElem_cons_succ]
        unfold decR at q2 ⊢
        rw [if_neg (by omega), Int.toNat_natCast] at q2 ⊢
        rw [h3, ← hl, List.drop_append, hl]
        have e0 : (encOne i).drop (sizeN i.2.1 + p) = [] := List.drop_eq_nil_of_le (by omega)
        rw [e0, List.nil_append, show sizeN i.2.1 + p - sizeN i.2.1 = p by omega]
        obtain ⟨s1, s2⟩ := decAt_shift (sizeN i.2.1) p ((encR l).1.drop p)
        have q20 : (decAt p ((encR l).1.drop p)).2 = 0 := by rw [q2]
        have s3 := s2 q20
        rw [q2] at s1 s3
        rw [Nat.add_comm (sizeN i.2.1) p]
        refine Prod.ext ?_ s1
        rw [s3]
        simp [shiftI]
      · rw [h3]
        simp
        omega

/-- Where reading ends. -/
theorem tag_sum (l : List In) (h : (encR l).2 = 0) : (l.map fun i => sizeN i.2.1).sum = (encR l).1.length := by
  induction l with
  | nil => rfl
  | cons i l ih =>
    obtain ⟨h1, h2, h3⟩ := encR_cons h
    obtain ⟨_, hl⟩ := dec_enc h1 0 (encR l).1
    rw [h3]
    simp [ih h2, hl]

end Go.Proofs.YtemjhlhioeopnabDoor
