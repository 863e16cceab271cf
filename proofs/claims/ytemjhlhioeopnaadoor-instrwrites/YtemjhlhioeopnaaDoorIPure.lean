/-
  What follows of the plain functions: code read, written, read again; two rows one behind the other; where instructions begin. No conditions.
-/
import Derived.Test.YtemjhlhioeopnaaDoorIPlain
namespace Go.Proofs.YtemjhlhioeopnaaDoor
open Go.RowKit

/-- One round of reading. -/
theorem allL_cases {f k : Nat} {bs : List UInt8} (hf : bs.length ≤ f) :
    (bs = [] ∧ allL f k bs = ([], 0, 0)) ∨
    (∃ c r, bs = c :: r ∧ 0 < sizeN c.toNat ∧ sizeN c.toNat ≤ bs.length ∧ (decAt k bs).1 = ((k : Int), (c.toNat : Int), (beI (r.take (sizeN c.toNat - 1)) : Int), (sizeN c.toNat : Int)) ∧ (decAt k bs).2 = 0 ∧
      allL f k bs = joinR [((k : Int), (c.toNat : Int), (beI (r.take (sizeN c.toNat - 1)) : Int), (sizeN c.toNat : Int))] (allL f (k + sizeN c.toNat) (bs.drop (sizeN c.toNat)))) ∨
    (bs ≠ [] ∧ (decAt k bs).2 ≠ 0 ∧ allL f k bs = ([], (k : Int), (decAt k bs).2)) := by
  by_cases h0 : bs = []
  · exact .inl ⟨h0, by rw [h0, allL_nil]⟩
  right
  by_cases h1 : (decAt k bs).2 = 0
  · left
    obtain ⟨c, r, hb, hp, hl, he⟩ := decAt_ok h1
    have := allL_step h0 hf h1
    rw [he] at this
    simp only [Int.toNat_natCast] at this
    exact ⟨c, r, hb, hp, hl, he, h1, this⟩
  · exact .inr ⟨h0, h1, allL_stop h0 hf h1⟩

theorem joinR_err {l : List In} {r : List In × Int × Int} : (joinR l r).2.2 = r.2.2 := by
  unfold joinR
  split <;> simp_all

theorem joinR_ok {l : List In} {r : List In × Int × Int} (h : r.2.2 = 0) : joinR l r = (l ++ r.1, 0, 0) := by simp [joinR, h]
theorem joinR_no {l : List In} {r : List In × Int × Int} (h : r.2.2 ≠ 0) : joinR l r = ([], r.2.1, r.2.2) := by simp [joinR, h]

/-- Something that holds of each instruction. -/
theorem allL_each {P : In → Prop} (f : Nat) : ∀ (n k : Nat) (bs : List UInt8), bs.length ≤ n → bs.length ≤ f →
    (∀ (k' : Nat) (c : UInt8) (r : List UInt8), k ≤ k' → 0 < sizeN c.toNat → k' + sizeN c.toNat ≤ k + bs.length → P ((k' : Int), (c.toNat : Int), (beI (r.take (sizeN c.toNat - 1)) : Int), (sizeN c.toNat : Int))) → ∀ i ∈ (allL f k bs).1, P i := by
  intro n
  induction n with
  | zero =>
    intro k bs h1 h2 _ i hi
    have : bs = [] := List.eq_nil_of_length_eq_zero (by omega)
    rw [this, allL_nil] at hi
    simp at hi
  | succ n ih =>
    intro k bs h1 h2 hP i hi
    rcases allL_cases (k := k) h2 with ⟨_, e⟩ | ⟨c, r, hb, hp, hl, _, _, e⟩ | ⟨_, _, e⟩
    · rw [e] at hi; simp at hi
    · rw [e] at hi
      by_cases h0 : (allL f (k + sizeN c.toNat) (bs.drop (sizeN c.toNat))).2.2 = 0
      · rw [joinR_ok h0] at hi
        simp only [List.singleton_append, List.mem_cons] at hi
        rcases hi with rfl | hi
        · exact hP k c r (Nat.le_refl _) hp (by omega)
        · refine ih (k + sizeN c.toNat) (bs.drop (sizeN c.toNat)) (by simp; omega) (by simp; omega) ?_ i hi
          intro k' c' r' hk hp' hl'
          simp only [List.length_drop] at hl'
          exact hP k' c' r' (by omega) hp' (by omega)
      · rw [joinR_no h0] at hi; simp at hi
    · rw [e] at hi; simp at hi

theorem allL_len (f : Nat) : ∀ (n k : Nat) (bs : List UInt8), bs.length ≤ n → bs.length ≤ f → (allL f k bs).1.length ≤ bs.length := by
  intro n
  induction n with
  | zero =>
    intro k bs h1 h2
    have : bs = [] := List.eq_nil_of_length_eq_zero (by omega)
    rw [this, allL_nil]
    simp
  | succ n ih =>
    intro k bs h1 h2
    rcases allL_cases (k := k) h2 with ⟨_, e⟩ | ⟨c, r, hb, hp, hl, _, _, e⟩ | ⟨_, _, e⟩
    · rw [e]; simp
    · rw [e]
      by_cases h0 : (allL f (k + sizeN c.toNat) (bs.drop (sizeN c.toNat))).2.2 = 0
      · rw [joinR_ok h0]
        have := ih (k + sizeN c.toNat) (bs.drop (sizeN c.toNat)) (by simp; omega) (by simp; omega)
        simp only [List.length_drop] at this
        simp
        omega
      · rw [joinR_no h0]; simp
    · rw [e]; simp

theorem all_len (code : List UInt8) : (allR code).1.length ≤ code.length := allL_len _ _ _ _ (Nat.le_refl _) (Nat.le_refl _)

/-- What each instruction of some code is. -/
theorem all_each (code : List UInt8) : ∀ i ∈ (allR code).1, 0 ≤ i.1 ∧ i.1 + i.2.2.2 ≤ code.length ∧ 0 ≤ i.2.1 ∧ i.2.1 ≤ 45 ∧ i.2.2.2 = (sizeN i.2.1 : Int) ∧ 0 < i.2.2.2 ∧ 0 ≤ i.2.2.1 ∧ i.2.2.1 < ((256 ^ (sizeN i.2.1 - 1) : Nat) : Int) := by
  refine allL_each code.length code.length 0 code (Nat.le_refl _) (Nat.le_refl _) ?_
  intro k c r _ hp hl
  have hb := beI_lt (r.take (sizeN c.toNat - 1))
  have hr : 256 ^ (r.take (sizeN c.toNat - 1)).length ≤ 256 ^ (sizeN c.toNat - 1) := Nat.pow_le_pow_right (by decide) (by simp; omega)
  have hop : (c.toNat : Int) ≤ 45 := by
    unfold sizeN at hp
    split at hp
    · omega
    · omega
  refine ⟨by simp only; omega, by simp only; omega, by simp only; omega, hop, rfl, by simp only; omega, by simp only; omega, ?_⟩
  simp only
  omega

/-- Where a refused instruction lies. -/
theorem allL_place (f : Nat) : ∀ (n k : Nat) (bs : List UInt8), bs.length ≤ n → bs.length ≤ f → (allL f k bs).2.2 ≠ 0 → (allL f k bs).1 = [] ∧ (k : Int) ≤ (allL f k bs).2.1 ∧ (allL f k bs).2.1 < (k : Int) + bs.length ∧ ((allL f k bs).2.2 = 11 ∨ (allL f k bs).2.2 = 17) := by
  intro n
  induction n with
  | zero =>
    intro k bs h1 h2 h
    have : bs = [] := List.eq_nil_of_length_eq_zero (by omega)
    rw [this, allL_nil] at h
    exact absurd rfl h
  | succ n ih =>
    intro k bs h1 h2 h
    rcases allL_cases (k := k) h2 with ⟨_, e⟩ | ⟨c, r, hb, hp, hl, _, _, e⟩ | ⟨h0, hd, e⟩
    · rw [e] at h; exact absurd rfl h
    · rw [e, joinR_err] at h
      rw [e, joinR_no h]
      obtain ⟨_, q1, q2, q3⟩ := ih (k + sizeN c.toNat) (bs.drop (sizeN c.toNat)) (by simp; omega) (by simp; omega) h
      simp only [List.length_drop] at q2
      refine ⟨rfl, ?_, ?_, q3⟩
      · simp only
        omega
      · simp only
        omega
    · rw [e]
      have := List.length_pos_iff.2 h0
      exact ⟨rfl, Int.le_refl _, by simp only; omega, (decAt_err hd).2⟩

theorem all_place {code : List UInt8} (h : (allR code).2.2 ≠ 0) : (allR code).1 = [] ∧ 0 ≤ (allR code).2.1 ∧ (allR code).2.1 < code.length := by
  obtain ⟨q0, q1, q2, _⟩ := allL_place code.length code.length 0 code (Nat.le_refl _) (Nat.le_refl _) h
  exact ⟨q0, by simpa [allR] using q1, by simpa [allR] using q2⟩

/-- More bytes behind change nothing of an instruction that is whole. -/
theorem decAt_append {k : Nat} {a b : List UInt8} (h : (decAt k a).2 = 0) : decAt k (a ++ b) = decAt k a := by
  obtain ⟨c, r, rfl, hp, hl, _⟩ := decAt_ok h
  simp only [List.cons_append, decAt, List.length_append]
  simp only [List.length_cons] at hl
  rw [if_neg (by omega), if_neg (by omega), if_neg (by omega), if_neg (by omega), List.take_append_of_le_length (by omega)]

theorem decAt_append17 {k : Nat} {a b : List UInt8} (h : (decAt k a).2 = 17) : (decAt k (a ++ b)).2 = 17 := by
  cases a with
  | nil => simp [decAt] at h
  | cons c r =>
    simp only [List.cons_append, decAt] at h ⊢
    by_cases h1 : sizeN c.toNat = 0
    · simp [h1]
    · rw [if_neg h1] at h
      split at h <;> simp at h

/-- Two rows one behind the other. -/
theorem allL_append (f : Nat) : ∀ (n k : Nat) (a b : List UInt8), a.length ≤ n → (a ++ b).length ≤ f → (allL f k a).2.2 = 0 → allL f k (a ++ b) = joinR (allL f k a).1 (allL f (k + a.length) b) := by
  intro n
  induction n with
  | zero =>
    intro k a b h1 h2 h
    have : a = [] := List.eq_nil_of_length_eq_zero (by omega)
    subst this
    have hz := allL_nil f k
    rw [hz, List.nil_append]
    simp only [List.length_nil, Nat.add_zero]
    refine (joinR_nil _ ?_ ?_).symm
    · intro he
      rcases allL_cases (k := k) (f := f) (bs := b) (by simpa using h2) with ⟨_, e⟩ | ⟨c, r, hb, hp, hl, _, _, e⟩ | ⟨_, hd, e⟩
      · rw [e]
      · rw [e] at he ⊢
        rw [joinR_err] at he
        rw [joinR_ok he]
      · rw [e] at he
        exact absurd he hd
    · intro he
      exact (allL_place f b.length k b (Nat.le_refl _) (by simpa using h2) he).1
  | succ n ih =>
    intro k a b h1 h2 h
    rw [List.length_append] at h2
    rcases allL_cases (k := k) (f := f) (bs := a) (by omega) with ⟨h0, e⟩ | ⟨c, r, hb, hp, hl, hi, hd, e⟩ | ⟨_, hd, e⟩
    · subst h0
      exact ih k [] b (by simp) (by simpa using h2) h
    · have hd2 := decAt_append (b := b) hd
      have hne : a ++ b ≠ [] := by rw [hb]; simp
      have hst := allL_step hne (by rw [List.length_append]; omega) (f := f) (at_ := k) (by rw [hd2]; exact hd)
      rw [hd2, hi] at hst
      simp only [Int.toNat_natCast] at hst
      rw [List.drop_append_of_le_length hl] at hst
      rw [e, joinR_err] at h
      have := ih (k + sizeN c.toNat) (a.drop (sizeN c.toNat)) b (by simp; omega) (by simp; omega) h
      rw [this, joinR_joinR] at hst
      rw [hst, e, joinR_ok h]
      simp only [List.length_drop]
      rw [show k + sizeN c.toNat + (a.length - sizeN c.toNat) = k + a.length by omega]
    · rw [e] at h
      exact absurd h hd

theorem allL_append17 (f : Nat) : ∀ (n k : Nat) (a b : List UInt8), a.length ≤ n → (a ++ b).length ≤ f → (allL f k a).2.2 = 17 → allL f k (a ++ b) = allL f k a := by
  intro n
  induction n with
  | zero =>
    intro k a b h1 h2 h
    have : a = [] := List.eq_nil_of_length_eq_zero (by omega)
    subst this
    rw [allL_nil] at h
    simp at h
  | succ n ih =>
    intro k a b h1 h2 h
    rw [List.length_append] at h2
    rcases allL_cases (k := k) (f := f) (bs := a) (by omega) with ⟨h0, e⟩ | ⟨c, r, hb, hp, hl, hi, hd, e⟩ | ⟨h0, hd, e⟩
    · rw [e] at h
      simp at h
    · have hd2 := decAt_append (b := b) hd
      have hne : a ++ b ≠ [] := by rw [hb]; simp
      have hst := allL_step hne (by rw [List.length_append]; omega) (f := f) (at_ := k) (by rw [hd2]; exact hd)
      rw [hd2, hi] at hst
      simp only [Int.toNat_natCast] at hst
      rw [List.drop_append_of_le_length hl] at hst
      rw [e, joinR_err] at h
      have := ih (k + sizeN c.toNat) (a.drop (sizeN c.toNat)) b (by simp; omega) (by simp; omega) h
      rw [this] at hst
      rw [hst, e]
    · rw [e] at h ⊢
      simp only at h
      have h17 := decAt_append17 (b := b) h
      have hne : a ++ b ≠ [] := by
        intro q
        exact h0 (List.append_eq_nil_iff.1 q).1
      rw [allL_stop hne (by rw [List.length_append]; omega) (by rw [h17]; decide), h17, h]

/-- Instructions moved. -/
def shiftI (k : Nat) (i : In) : In := (i.1 + (k : Int), i.2.1, i.2.2.1, i.2.2.2)
def shiftR (k : Nat) (r : List In × Int × Int) : List In × Int × Int := (r.1.map (shiftI k), if r.2.2 = 0 then 0 else r.2.1 + (k : Int), r.2.2)

theorem decAt_shift (k j : Nat) (bs : List UInt8) : (decAt (j + k) bs).2 = (decAt j bs).2 ∧ ((decAt j bs).2 = 0 → (decAt (j + k) bs).1 = shiftI k (decAt j bs).1) := by
  cases bs with
  | nil => simp [decAt]
  | cons c r =>
    simp only [decAt]
    by_cases h1 : sizeN c.toNat = 0
    · simp [h1]
    · rw [if_neg h1, if_neg h1]
      by_cases h2 : r.length + 1 < sizeN c.toNat
      · simp [h2]
      · rw [if_neg h2, if_neg h2]
        exact ⟨rfl, fun _ => by simp [shiftI]⟩

theorem shiftR_join (k : Nat) (l : List In) (r : List In × Int × Int) : shiftR k (joinR l r) = joinR (l.map (shiftI k)) (shiftR k r) := by
  unfold joinR shiftR
  by_cases h : r.2.2 = 0
  · simp [h]
  · simp [h]

theorem allL_shift (f : Nat) : ∀ (n k j : Nat) (bs : List UInt8), bs.length ≤ n → bs.length ≤ f → allL f (j + k) bs = shiftR k (allL f j bs) := by
  intro n
  induction n with
  | zero =>
    intro k j bs h1 h2
    have : bs = [] := List.eq_nil_of_length_eq_zero (by omega)
    subst this
    rw [allL_nil, allL_nil]
    rfl
  | succ n ih =>
    intro k j bs h1 h2
    obtain ⟨s1, s2⟩ := decAt_shift k j bs
    rcases allL_cases (k := j) h2 with ⟨h0, e⟩ | ⟨c, r, hb, hp, hl, hi, hd, e⟩ | ⟨h0, hd, e⟩
    · subst h0
      rw [allL_nil, allL_nil]
      rfl
    · have hne : bs ≠ [] := by rw [hb]; simp
      have hst := allL_step hne h2 (at_ := j + k) (by rw [s1]; exact hd)
      rw [s2 hd, hi] at hst
      simp only [shiftI, Int.toNat_natCast] at hst
      have := ih k (j + sizeN c.toNat) (bs.drop (sizeN c.toNat)) (by simp; omega) (by simp; omega)
      rw [show j + k + sizeN c.toNat = j + sizeN c.toNat + k by omega, this] at hst
      rw [hst, e, shiftR_join]
      rfl
    · rw [e, allL_stop h0 h2 (by rw [s1]; exact hd), s1]
      unfold shiftR
      simp [hd]

end Go.Proofs.YtemjhlhioeopnaaDoor
