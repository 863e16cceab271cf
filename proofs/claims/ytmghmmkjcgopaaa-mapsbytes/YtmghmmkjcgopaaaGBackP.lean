/-
  Maps as bytes and back, as plain laws. No conditions.
-/
import Derived.Test.YtmghmmkjcgopaaaGSame
namespace Go.Proofs.Ytmghmmkjcgopaaa
open Go.RowKit

/-- Its numbers fit their bytes. -/
def Fit (m : Mp) : Prop := 0 ≤ m.1 ∧ m.1 ≤ 65535 ∧ m.2.1.length ≤ 255 ∧ m.2.2.length ≤ 255

theorem toBE1 (n : Nat) (h : n ≤ 255) : ∃ c : UInt8, toBE n 1 = [c] ∧ c.toNat = n := by
  refine ⟨UInt8.ofNat n, by simp [toBE], ?_⟩
  rw [UInt8.toNat_ofNat']
  omega

theorem toBE2 (n : Nat) (h : n ≤ 65535) : ∃ a b : UInt8, toBE n 2 = [a, b] ∧ be [a, b] = n := by
  refine ⟨UInt8.ofNat (n / 256), UInt8.ofNat n, by simp [toBE], ?_⟩
  simp [be]
  omega

theorem mPut_fit (o : List UInt8) (m : Mp) (h : Fit m) : ∃ (a b c d : UInt8) (Y : List UInt8) (k : Nat), (∀ o, mPut (o, 0) m = (o ++ (a :: b :: c :: d :: Y), 0)) ∧ (be [a, b] : Int) = m.1 ∧ c.toNat = m.2.1.length ∧ d.toNat = m.2.2.length ∧ unpack Y = m.2.1 ++ m.2.2 ++ List.replicate k false ∧ k < 8 := by
  obtain ⟨h1, h2, h3, h4⟩ := h
  obtain ⟨a, b, e1, e2⟩ := toBE2 m.1.toNat (by omega)
  obtain ⟨c, e3, e4⟩ := toBE1 m.2.1.length h3
  obtain ⟨d, e5, e6⟩ := toBE1 m.2.2.length h4
  obtain ⟨Y, k, g1, g2, g3⟩ := wFill_parts [] (o, 0) (by simp) (m.2.1 ++ m.2.2)
  refine ⟨a, b, c, d, Y, k, fun o => ?_, by rw [e2]; omega, e4, e6, by simpa using g2, g3⟩
  have k1 : wAll 2 (o, 0) [m.1] = (o ++ [a, b], 0) := by
    simp only [wAll, List.foldl_cons, List.foldl_nil]
    rw [wOne_ok 2 (o, 0) m.1 (by omega), e1]
    rfl
  have k2 : wAll 1 (o ++ [a, b], 0) [(m.2.1.length : Int), (m.2.2.length : Int)] = (o ++ [a, b] ++ [c] ++ [d], 0) := by
    simp only [wAll, List.foldl_cons, List.foldl_nil]
    rw [wOne_ok 1 (o ++ [a, b], 0) (m.2.1.length : Int) (by omega), Int.toNat_natCast, e3]
    simp only [wPut, if_true]
    rw [wOne_ok 1 (o ++ [a, b] ++ [c], 0) (m.2.2.length : Int) (by omega), Int.toNat_natCast, e5]
    rfl
  unfold mPut
  rw [k1, k2]
  obtain ⟨Z, j, f1, f2, f3⟩ := wFill_parts [] (o ++ [a, b] ++ [c] ++ [d], 0) (by simp) (m.2.1 ++ m.2.2)
  have hw : wBits (wBits ([], o ++ [a, b] ++ [c] ++ [d], 0) m.2.1) m.2.2 = wBits ([], o ++ [a, b] ++ [c] ++ [d], 0) (m.2.1 ++ m.2.2) := by simp [wBits]
  rw [hw, f1]
  have hYZ : Z = Y := by
    apply unpack_inj
    have l1 := congrArg List.length g2
    have l2 := congrArg List.length f2
    rw [unpack_len] at l1 l2
    simp at l1 l2
    rw [f2, g2, show j = k by omega]
  rw [hYZ]
  simp [wPut]

theorem dec_enc (a b c d : UInt8) (Y r : List UInt8) (m : Mp) (k : Nat) (h1 : (be [a, b] : Int) = m.1) (h2 : c.toNat = m.2.1.length) (h3 : d.toNat = m.2.2.length) (h4 : unpack Y = m.2.1 ++ m.2.2 ++ List.replicate k false) (hk : k < 8) : decM (a :: b :: c :: d :: (Y ++ r)) = (m, 0, r) := by
  have hl := congrArg List.length h4
  rw [unpack_len] at hl
  simp at hl
  have hj : (c.toNat + d.toNat + 7) / 8 = Y.length := by omega
  rw [decM_eq, hj, if_neg (by simp), List.take_left, List.drop_left, h4, if_neg, unpack_append, h4, h1, h2, h3]
  · have e1 : (m.2.1 ++ m.2.2 ++ List.replicate k false ++ unpack r).take m.2.1.length = m.2.1 := by rw [List.append_assoc, List.append_assoc, List.take_left]
    have e2 : ((m.2.1 ++ m.2.2 ++ List.replicate k false ++ unpack r).drop m.2.1.length).take m.2.2.length = m.2.2 := by rw [List.append_assoc, List.append_assoc, List.drop_left, List.take_left]
    rw [e1, e2]
  · rw [h2, h3, show m.2.1.length + m.2.2.length = (m.2.1 ++ m.2.2).length by simp, List.drop_left]
    simp

/-- Written, they are read again. -/
theorem back_there : ∀ (l : List Mp), (∀ m ∈ l, Fit m) → ∃ E : List UInt8, (∀ o, l.foldl mPut (o, 0) = (o ++ E, 0)) ∧ ∀ f acc, E.length ≤ f → parseB f acc E = (acc ++ l, 0) := by
  intro l
  induction l with
  | nil =>
    intro _
    refine ⟨[], fun o => by simp, fun f acc _ => ?_⟩
    cases f <;> simp [parseB]
  | cons m l ih =>
    intro h
    obtain ⟨E, h1, h2⟩ := ih (fun x hx => h x (by simp [hx]))
    obtain ⟨a, b, c, d, Y, k, g1, g2, g3, g4, g5, g6⟩ := mPut_fit [] m (h m (by simp))
    refine ⟨a :: b :: c :: d :: (Y ++ E), fun o => ?_, fun f acc hf => ?_⟩
    · rw [List.foldl_cons, g1, h1]
      simp
    · cases f with
      | zero => simp at hf
      | succ f =>
        have hd := dec_enc a b c d Y E m k g2 g3 g4 g5 g6
        simp only [parseB]
        rw [if_neg (by simp), hd, if_pos rfl, h2 f (acc ++ [m]) (by simp at hf; omega)]
        simp

/-- What a map is that was read. -/
theorem dec_fit (bs : List UInt8) (h : (decM bs).2.1 = 0) : Fit (decM bs).1 ∧ ∃ e, bs = e ++ (decM bs).2.2 ∧ ∀ o, mPut (o, 0) (decM bs).1 = (o ++ e, 0) := by
  match bs, h with
  | a :: b :: c :: d :: r, h =>
    rw [decM_eq] at h ⊢
    have hc := c.toNat_lt
    have hd := d.toNat_lt
    by_cases q : r.length < (c.toNat + d.toNat + 7) / 8
    · rw [if_pos q] at h
      simp at h
    · rw [if_neg q] at h ⊢
      by_cases p : ((unpack (r.take ((c.toNat + d.toNat + 7) / 8))).drop (c.toNat + d.toNat)).any id = true
      · rw [if_pos p] at h
        simp at h
      · rw [if_neg p]
        have p' : ((unpack (r.take ((c.toNat + d.toNat + 7) / 8))).drop (c.toNat + d.toNat)).any id = false := by simpa using p
        have hz := (none_set _).1 p'
        have hul := unpack_len r
        have hab := be_lt_of [a, b] 2 (by simp)
        obtain ⟨j, hj⟩ : ∃ j, j = (c.toNat + d.toNat + 7) / 8 := ⟨_, rfl⟩
        rw [← hj] at hz q ⊢
        have hfit : Fit (((be [a, b] : Int), (unpack r).take c.toNat, ((unpack r).drop c.toNat).take d.toNat) : Mp) := by
          refine ⟨by simp only; omega, by simp only; omega, ?_, ?_⟩
          · simp only [List.length_take]; omega
          · simp only [List.length_take, List.length_drop]; omega
        refine ⟨hfit, a :: b :: c :: d :: r.take j, by simp, fun o => ?_⟩
        obtain ⟨a', b', c', d', Y, k, g1, g2, g3, g4, g5, g6⟩ := mPut_fit [] _ hfit
        simp only [List.length_take, List.length_drop] at g2 g3 g4 g5
        have hc' : c' = c := UInt8.toNat.inj (by rw [g3]; omega)
        have hd' : d' = d := UInt8.toNat.inj (by rw [g4]; omega)
        have hb2 := b.toNat_lt
        have hb3 := b'.toNat_lt
        have hbe : be [a', b'] = be [a, b] := by omega
        simp only [be, List.foldl_cons, List.foldl_nil] at hbe
        have hb' : b' = b := UInt8.toNat.inj (by omega)
        have ha' : a' = a := UInt8.toNat.inj (by omega)
        have hY : Y = r.take j := by
          apply unpack_inj
          have e0 : unpack (r.take j) = (unpack (r.take j)).take (c.toNat + d.toNat) ++ (unpack (r.take j)).drop (c.toNat + d.toNat) := (List.take_append_drop _ _).symm
          have e1 : (unpack (r.take j)).take (c.toNat + d.toNat) = (unpack r).take c.toNat ++ ((unpack r).drop c.toNat).take d.toNat := by
            rw [unpack_take, List.take_take, Nat.min_eq_left (by omega), List.take_add]
          rw [g5, e0, hz, e1]
          congr 2
          have l1 := congrArg List.length g5
          rw [unpack_len] at l1
          simp at l1
          rw [List.length_drop, unpack_len, List.length_take]
          omega
        rw [g1, ha', hb', hc', hd', hY]
  | [], h => simp [decM] at h
  | [_], h => simp [decM] at h
  | [_, _], h => simp [decM] at h
  | [_, _, _], h => simp [decM] at h

/-- Read, they are written again. -/
theorem there_back : ∀ (f : Nat) (acc : List Mp) (bs : List UInt8), bs.length ≤ f → (parseB f acc bs).2 = 0 → ∃ l, (parseB f acc bs).1 = acc ++ l ∧ (∀ m ∈ l, Fit m) ∧ l.length ≤ bs.length ∧ ∀ o, l.foldl mPut (o, 0) = (o ++ bs, 0) := by
  intro f
  induction f with
  | zero =>
    intro acc bs hf _
    have : bs = [] := List.eq_nil_of_length_eq_zero (by omega)
    subst this
    exact ⟨[], by simp [parseB], by simp, by simp, by simp⟩
  | succ f ih =>
    intro acc bs hf h
    simp only [parseB] at h ⊢
    by_cases h0 : bs.length = 0
    · have : bs = [] := List.eq_nil_of_length_eq_zero h0
      subst this
      exact ⟨[], by simp, by simp, by simp, by simp⟩
    · rw [if_neg h0] at h ⊢
      by_cases he : (decM bs).2.1 = 0
      · rw [if_pos he] at h ⊢
        have hless := decM_less bs he
        obtain ⟨hfit, e, hbs, hput⟩ := dec_fit bs he
        obtain ⟨l, h1, h2, h3, h4⟩ := ih _ _ (by omega) h
        refine ⟨(decM bs).1 :: l, by rw [h1]; simp, ?_, by simp; omega, fun o => ?_⟩
        · intro m hm
          rcases List.mem_cons.1 hm with rfl | hm
          · exact hfit
          · exact h2 m hm
        · rw [List.foldl_cons, hput, h4]
          conv => rhs; rw [hbs]
          simp
      · rw [if_neg he] at h
        exact absurd h he

theorem parse_none : ∀ (f : Nat) (acc : List Mp) (bs : List UInt8), (parseB f acc bs).2 ≠ 0 → (parseB f acc bs).1 = [] := by
  intro f
  induction f with
  | zero => intro acc bs h; exact absurd rfl h
  | succ f ih =>
    intro acc bs h
    simp only [parseB] at h ⊢
    by_cases h0 : bs.length = 0
    · rw [if_pos h0] at h
      exact absurd rfl h
    · rw [if_neg h0] at h ⊢
      by_cases he : (decM bs).2.1 = 0
      · rw [if_pos he] at h ⊢
        exact ih _ _ h
      · rw [if_neg he]

/-- Both ways, as the law asks it. -/
theorem back_one (l : List Mp) (h : ∀ m ∈ l, Fit m) : parseB (bitsR l).length [] (bitsR l) = (l, 0) := by
  obtain ⟨E, h1, h2⟩ := back_there l h
  have hb : bitsR l = E := by unfold bitsR wDone; rw [h1]; simp
  rw [hb, h2 _ _ (Nat.le_refl _)]
  simp

theorem back_two (bs : List UInt8) (h : (parseB bs.length [] bs).2 = 0) : bitsR (parseB bs.length [] bs).1 = bs ∧ (∀ m ∈ (parseB bs.length [] bs).1, Fit m) ∧ (parseB bs.length [] bs).1.length ≤ bs.length := by
  obtain ⟨l, h1, h2, h3, h4⟩ := there_back bs.length [] bs (Nat.le_refl _) h
  rw [h1, List.nil_append]
  refine ⟨?_, h2, h3⟩
  unfold bitsR wDone
  rw [h4]
  simp

end Go.Proofs.Ytmghmmkjcgopaaa
