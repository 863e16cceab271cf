/-
  What bytes read as maps say, as plain functions. No conditions.
-/
import Derived.Test.YtmghmmkjcgopaaaGRd2
namespace Go.Proofs.Ytmghmmkjcgopaaa
open Go.RowKit

theorem rTake_stuck (s : List UInt8 × Nat × Int) (m : Nat) (h : s.2.2 ≠ 0) : (rTake s m).2 = s := by simp [rTake, h]
theorem rTake_full (bs : List UInt8) (n m : Nat) (h : m ≤ bs.length) : rTake (bs, n, 0) m = (bs.take m, bs.drop m, n + m, 0) := by
  unfold rTake
  simp only [if_true]
  rw [if_neg (by omega)]
theorem rTake_short (bs : List UInt8) (n m : Nat) (h : bs.length < m) : rTake (bs, n, 0) m = ([], bs, n, 11) := by
  unfold rTake
  simp only [if_true]
  rw [if_pos h]

theorem bit1_stuck (t : BSt) (h : t.2.2.2 ≠ 0) : (bit1 t).2.2 = t.2 := by
  unfold bit1
  split
  · rfl
  · exact rTake_stuck _ _ h

theorem bitsN_stuck (t : BSt) (h : t.2.2.2 ≠ 0) (k : Nat) : (bitsN t k).2.2 = t.2 := by
  induction k with
  | zero => rfl
  | succ k ih =>
    show (bit1 (bitsN t k).2).2.2 = t.2
    rw [bit1_stuck _ (by rw [ih]; exact h), ih]

/-- So many bits are there: they are read. -/
theorem bitsN_ok (P : List Bool) (bs : List UInt8) (n : Nat) (hP : P.length < 8) (k : Nat) (hk : k ≤ P.length + 8 * bs.length) :
    ∃ P' j n', bitsN (P, bs, n, 0) k = ((P ++ unpack bs).take k, P', bs.drop j, n', 0) ∧ P' ++ unpack (bs.drop j) = (P ++ unpack bs).drop k ∧ P'.length < 8 ∧ j ≤ bs.length := by
  induction k with
  | zero => exact ⟨P, 0, n, by simp [bitsN], by simp, hP, Nat.zero_le _⟩
  | succ k ih =>
    obtain ⟨P', j, n', h1, h2, h3, hj⟩ := ih (by omega)
    have hlen : (P ++ unpack bs).length = P.length + 8 * bs.length := by rw [List.length_append, unpack_len]
    have hlt : k < (P ++ unpack bs).length := by omega
    have hd : (P ++ unpack bs).drop k = (P ++ unpack bs)[k] :: (P ++ unpack bs).drop (k + 1) := List.drop_eq_getElem_cons hlt
    have ht : (P ++ unpack bs).take (k + 1) = (P ++ unpack bs).take k ++ [(P ++ unpack bs)[k]] := List.take_succ_eq_append_getElem hlt
    rw [hd] at h2
    rw [ht]
    simp only [bitsN, h1]
    generalize (P ++ unpack bs)[k] = x at *
    cases P' with
    | cons b P' =>
      simp only [List.cons_append, List.cons.injEq] at h2
      refine ⟨P', j, n', ?_, h2.2, by simp at h3; omega, hj⟩
      simp only [bit1, h2.1]
    | nil =>
      have hjl : j < bs.length := by
        rcases Nat.lt_or_ge j bs.length with h | h
        · exact h
        · rw [List.drop_eq_nil_of_le h] at h2
          simp [unpack] at h2
      have hc : bs.drop j = bs[j] :: bs.drop (j + 1) := List.drop_eq_getElem_cons hjl
      generalize bs[j] = c at *
      rw [hc, List.nil_append, unpack_cons, bitsOf, List.cons_append, List.cons.injEq] at h2
      have hr : rTake (bs.drop j, n', 0) 1 = ([c], bs.drop (j + 1), n' + 1, 0) := by
        rw [rTake_full _ _ _ (by rw [hc]; simp), hc]
        rfl
      have hb : be [c] = c.toNat := by simp [be]
      refine ⟨bitsOf c.toNat 7, j + 1, n' + 1, ?_, h2.2, by rw [bitsOf_len]; omega, hjl⟩
      simp only [bit1, hr, hb]
      rw [← h2.1]

/-- They are not there: the reader has the error. -/
theorem bitsN_cut (P : List Bool) (bs : List UInt8) (n : Nat) (hP : P.length < 8) (k : Nat) (hk : P.length + 8 * bs.length < k) : (bitsN (P, bs, n, 0) k).2.2.2.2 = 11 := by
  obtain ⟨j, hj⟩ : ∃ j, k = P.length + 8 * bs.length + 1 + j := ⟨k - (P.length + 8 * bs.length + 1), by omega⟩
  subst hj
  clear hk
  induction j with
  | zero =>
    obtain ⟨P', i, n', h1, h2, h3, hi⟩ := bitsN_ok P bs n hP (P.length + 8 * bs.length) (Nat.le_refl _)
    have hlen : (P ++ unpack bs).length = P.length + 8 * bs.length := by rw [List.length_append, unpack_len]
    have hz : (P ++ unpack bs).drop (P.length + 8 * bs.length) = [] := List.drop_eq_nil_of_le (by omega)
    rw [hz] at h2
    obtain ⟨rfl, h4⟩ := List.append_eq_nil_iff.1 h2
    have hl := congrArg List.length h4
    rw [unpack_len] at hl
    have hbs : bs.drop i = [] := List.eq_nil_of_length_eq_zero (by simp at hl ⊢; omega)
    rw [hbs] at h1
    simp only [bitsN, h1, bit1, rTake_short [] n' 1 (by simp)]
  | succ j ih =>
    show (bit1 (bitsN (P, bs, n, 0) (P.length + 8 * bs.length + 1 + j)).2).2.2.2.2 = 11
    rw [bit1_stuck _ (by rw [ih]; decide)]
    exact ih

/-- The map that bytes begin with: it, its error, what is left. -/
def decM : List UInt8 → Mp × Int × List UInt8
  | a :: b :: c :: d :: r =>
    if r.length < (c.toNat + d.toNat + 7) / 8 then ((0, [], []), 11, []) else
    if ((unpack (r.take ((c.toNat + d.toNat + 7) / 8))).drop (c.toNat + d.toNat)).any id then ((0, [], []), 1, []) else
    (((be [a, b] : Int), (unpack r).take c.toNat, ((unpack r).drop c.toNat).take d.toNat), 0, r.drop ((c.toNat + d.toNat + 7) / 8))
  | _ => ((0, [], []), 11, [])

theorem nextT_stuck (s : List UInt8 × Nat × Int) (h : (rTake (rTake (rTake s 2).2 1).2 1).2.2.2 ≠ 0) : (nextT s).2.2 = (rTake (rTake (rTake s 2).2 1).2 1).2 := by
  unfold nextT
  simp only
  rw [bitsN_stuck, bitsN_stuck]
  · exact h
  · rw [bitsN_stuck]
    · exact h
    · exact h

theorem next_err (bs : List UInt8) (n : Nat) (e : Int) (he : e ≠ 0) (h : (nextT (bs, n, 0)).2.2.2.2 = e) (hd : decM bs = ((0, [], []), e, [])) : nextR (bs, n, 0) = ((decM bs).1, (decM bs).2.1) ∧ ((decM bs).2.1 = 0 → ∃ n', (nextT (bs, n, 0)).2.2 = ((decM bs).2.2, n', 0)) := by
  constructor
  · unfold nextR
    rw [if_neg (by rw [h]; exact he), hd, h]
  · rw [hd]
    exact fun q => absurd q he

theorem next_dec (bs : List UInt8) (n : Nat) : nextR (bs, n, 0) = ((decM bs).1, (decM bs).2.1) ∧ ((decM bs).2.1 = 0 → ∃ n', (nextT (bs, n, 0)).2.2 = ((decM bs).2.2, n', 0)) := by
  match bs with
  | [] => exact next_err _ _ 11 (by decide) (by rw [nextT_stuck] <;> simp [rTake]) rfl
  | [a] => exact next_err _ _ 11 (by decide) (by rw [nextT_stuck] <;> simp [rTake]) rfl
  | [a, b] => exact next_err _ _ 11 (by decide) (by rw [nextT_stuck] <;> simp [rTake]) rfl
  | [a, b, c] => exact next_err _ _ 11 (by decide) (by rw [nextT_stuck] <;> simp [rTake]) rfl
  | a :: b :: c :: d :: r =>
    have h1 : rTake (a :: b :: c :: d :: r, n, 0) 2 = ([a, b], c :: d :: r, n + 2, 0) := by simp [rTake]
    have h2 : rTake (c :: d :: r, n + 2, 0) 1 = ([c], d :: r, n + 2 + 1, 0) := by simp [rTake]
    have h3 : rTake (d :: r, n + 2 + 1, 0) 1 = ([d], r, n + 2 + 1 + 1, 0) := by simp [rTake]
    have hc : be [c] = c.toNat := by simp [be]
    have hd : be [d] = d.toNat := by simp [be]
    have hN : nextT (a :: b :: c :: d :: r, n, 0) = (((be [a, b] : Int), (bitsN ([], r, n + 2 + 1 + 1, 0) c.toNat).1, (bitsN (bitsN ([], r, n + 2 + 1 + 1, 0) c.toNat).2 d.toNat).1), (bitsN (bitsN ([], r, n + 2 + 1 + 1, 0) c.toNat).2 d.toNat).2) := by
      unfold nextT
      simp only [h1, h2, h3, hc, hd]
    have hD : decM (a :: b :: c :: d :: r) = if r.length < (c.toNat + d.toNat + 7) / 8 then ((0, [], []), 11, []) else
      if ((unpack (r.take ((c.toNat + d.toNat + 7) / 8))).drop (c.toNat + d.toNat)).any id then ((0, [], []), 1, []) else
      (((be [a, b] : Int), (unpack r).take c.toNat, ((unpack r).drop c.toNat).take d.toNat), 0, r.drop ((c.toNat + d.toNat + 7) / 8)) := rfl
    clear h1 h2 h3 hc hd
    generalize n + 2 + 1 + 1 = m at *
    generalize c.toNat = lo at *
    generalize d.toNat = st at *
    by_cases hlo : 8 * r.length < lo
    · rw [if_pos (by omega)] at hD
      refine next_err _ _ 11 (by decide) ?_ hD
      have h11 := bitsN_cut [] r m (by simp) lo (by simpa using hlo)
      rw [hN]
      simp only
      rw [bitsN_stuck _ (by rw [h11]; decide)]
      exact h11
    · obtain ⟨P1, j1, n1, e1, e2, e3, hj1⟩ := bitsN_ok [] r m (by simp) lo (by simp; omega)
      rw [List.nil_append] at e1 e2
      have l1 := congrArg List.length e2
      rw [List.length_append, unpack_len, List.length_drop, List.length_drop, unpack_len] at l1
      rw [e1] at hN
      simp only at hN
      by_cases hst : P1.length + 8 * (r.drop j1).length < st
      · rw [List.length_drop] at hst
        rw [if_pos (by omega)] at hD
        refine next_err _ _ 11 (by decide) ?_ hD
        rw [hN]
        exact bitsN_cut P1 (r.drop j1) n1 e3 st (by rw [List.length_drop]; exact hst)
      · obtain ⟨P2, j2, n2, g1, g2, g3, hj2⟩ := bitsN_ok P1 (r.drop j1) n1 e3 st (by omega)
        rw [e2, List.drop_drop] at g1 g2
        rw [List.drop_drop] at g2
        rw [List.length_drop] at hst hj2
        have l2 := congrArg List.length g2
        rw [List.length_append, unpack_len, List.length_drop, List.length_drop, unpack_len] at l2
        rw [g1] at hN
        simp only at hN
        have hj : (lo + st + 7) / 8 = j1 + j2 := by omega
        rw [hj] at hD
        rw [if_neg (by omega)] at hD
        have hP : (unpack (r.take (j1 + j2))).drop (lo + st) = P2 := by
          rw [unpack_take, List.drop_take, ← g2, show 8 * (j1 + j2) - (lo + st) = P2.length by omega]
          exact List.take_left
        rw [hP] at hD
        have hR : nextR (a :: b :: c :: d :: r, n, 0) = if P2.any id then ((0, [], []), 1) else (((be [a, b] : Int), (unpack r).take lo, ((unpack r).drop lo).take st), 0) := by
          unfold nextR
          rw [hN]
          simp
        by_cases hp : P2.any id = true
        · rw [if_pos hp] at hD hR
          rw [hD, hR]
          exact ⟨rfl, fun h => absurd h (by decide)⟩
        · rw [if_neg hp] at hD hR
          rw [hD, hR, hN]
          exact ⟨rfl, fun _ => ⟨n2, rfl⟩⟩

theorem decM_eq (a b c d : UInt8) (r : List UInt8) : decM (a :: b :: c :: d :: r) = if r.length < (c.toNat + d.toNat + 7) / 8 then ((0, [], []), 11, []) else
      if ((unpack (r.take ((c.toNat + d.toNat + 7) / 8))).drop (c.toNat + d.toNat)).any id then ((0, [], []), 1, []) else
      (((be [a, b] : Int), (unpack r).take c.toNat, ((unpack r).drop c.toNat).take d.toNat), 0, r.drop ((c.toNat + d.toNat + 7) / 8)) := rfl

/-- What is left is less. -/
theorem decM_less (bs : List UInt8) (h : (decM bs).2.1 = 0) : (decM bs).2.2.length < bs.length := by
  match bs, h with
  | a :: b :: c :: d :: r, h =>
    rw [decM_eq] at h ⊢
    by_cases q : r.length < (c.toNat + d.toNat + 7) / 8
    · rw [if_pos q] at h
      simp at h
    · rw [if_neg q] at h ⊢
      by_cases p : ((unpack (r.take ((c.toNat + d.toNat + 7) / 8))).drop (c.toNat + d.toNat)).any id = true
      · rw [if_pos p] at h
        simp at h
      · rw [if_neg p]
        simp
        omega
  | [], h => simp [decM] at h
  | [_], h => simp [decM] at h
  | [_, _], h => simp [decM] at h
  | [_, _, _], h => simp [decM] at h

/-- The maps that bytes say, behind some. -/
def parseB : Nat → List Mp → List UInt8 → List Mp × Int
  | 0, acc, _ => (acc, 0)
  | f + 1, acc, bs => if bs.length = 0 then (acc, 0) else if (decM bs).2.1 = 0 then parseB f (acc ++ [(decM bs).1]) (decM bs).2.2 else ([], (decM bs).2.1)

end Go.Proofs.Ytmghmmkjcgopaaa
