/-
  Bits of bytes, as plain functions: how they are read and written one by one. No conditions.
-/
import Derived.Test.YtmghmmkjcgopaaaGMem
namespace Go.Proofs.Ytmghmmkjcgopaaa
open Go.RowKit

/-- The lowest k bits of v, the highest first. -/
def bitsOf (v : Nat) : Nat → List Bool
  | 0 => []
  | k + 1 => decide (v / 2 ^ k % 2 = 1) :: bitsOf v k

theorem bitsOf_len (v k : Nat) : (bitsOf v k).length = k := by
  induction k with
  | zero => rfl
  | succ k ih => simp [bitsOf, ih]

/-- The bits of bytes. -/
def unpack (l : List UInt8) : List Bool := l.flatMap fun b => bitsOf b.toNat 8

theorem unpack_len (l : List UInt8) : (unpack l).length = 8 * l.length := by
  induction l with
  | nil => rfl
  | cons b l ih =>
    have : unpack (b :: l) = bitsOf b.toNat 8 ++ unpack l := rfl
    rw [this, List.length_append, bitsOf_len, ih, List.length_cons]
    omega

theorem unpack_cons (b : UInt8) (l : List UInt8) : unpack (b :: l) = bitsOf b.toNat 8 ++ unpack l := rfl
theorem unpack_append (a b : List UInt8) : unpack (a ++ b) = unpack a ++ unpack b := by simp [unpack]

theorem unpack_take (l : List UInt8) (k : Nat) : unpack (l.take k) = (unpack l).take (8 * k) := by
  induction l generalizing k with
  | nil => simp [unpack]
  | cons b l ih =>
    cases k with
    | zero => simp [unpack]
    | succ k =>
      rw [List.take_succ_cons, unpack_cons, unpack_cons, ih, List.take_append, bitsOf_len, List.take_of_length_le (l := bitsOf b.toNat 8) (by rw [bitsOf_len]; omega), show 8 * (k + 1) - 8 = 8 * k by omega]

theorem unpack_drop (l : List UInt8) (k : Nat) : unpack (l.drop k) = (unpack l).drop (8 * k) := by
  induction l generalizing k with
  | nil => simp [unpack]
  | cons b l ih =>
    cases k with
    | zero => simp
    | succ k =>
      rw [List.drop_succ_cons, unpack_cons, ih, List.drop_append, bitsOf_len, show (bitsOf b.toNat 8).drop (8 * (k + 1)) = [] from List.drop_eq_nil_of_le (by rw [bitsOf_len]; omega), List.nil_append, show 8 * (k + 1) - 8 = 8 * k by omega]

/-- The number that bits say. -/
def valB (l : List Bool) : Nat := l.foldl (fun v b => 2 * v + (if b then 1 else 0)) 0

theorem valB_snoc (l : List Bool) (b : Bool) : valB (l ++ [b]) = 2 * valB l + (if b then 1 else 0) := by simp [valB]

theorem valB_lt (l : List Bool) : valB l < 2 ^ l.length := by
  suffices h : ∀ n l', List.length l' = n → valB l' < 2 ^ n from h _ l rfl
  intro n
  induction n with
  | zero => intro l' hl; rw [List.eq_nil_of_length_eq_zero hl]; decide
  | succ n ih =>
    intro l' hl
    have hne : l' ≠ [] := by intro e; simp [e] at hl
    rw [← List.dropLast_concat_getLast hne, valB_snoc, Nat.pow_succ]
    have h1 := ih l'.dropLast (by simp [hl])
    split <;> omega

theorem bitsOf_snoc (v k : Nat) (b : Bool) : bitsOf (2 * v + (if b then 1 else 0)) (k + 1) = bitsOf v k ++ [b] := by
  induction k with
  | zero =>
    cases b <;> simp [bitsOf] <;> omega
  | succ k ih =>
    rw [bitsOf, ih, bitsOf, List.cons_append]
    congr 2
    have : (2 * v + (if b then 1 else 0)) / 2 ^ (k + 1) = v / 2 ^ k := by
      rw [show 2 ^ (k + 1) = 2 * 2 ^ k by rw [Nat.pow_succ, Nat.mul_comm], ← Nat.div_div_eq_div_mul]
      congr 1
      split <;> omega
    rw [this]

/-- The bits of the number that bits say. -/
theorem bitsOf_valB (l : List Bool) : bitsOf (valB l) l.length = l := by
  suffices h : ∀ n l', List.length l' = n → bitsOf (valB l') n = l' from h _ l rfl
  intro n
  induction n with
  | zero => intro l' hl; rw [List.eq_nil_of_length_eq_zero hl]; rfl
  | succ n ih =>
    intro l' hl
    have hne : l' ≠ [] := by intro e; simp [e] at hl
    have h1 := ih l'.dropLast (by simp [hl])
    rw [← List.dropLast_concat_getLast hne, valB_snoc, bitsOf_snoc, h1]

theorem valB_bitsOf (v k : Nat) : valB (bitsOf v k) = v % 2 ^ k := by
  have : ∀ k, bitsOf v (k + 1) = bitsOf (v / 2) k ++ [decide (v % 2 = 1)] := by
    intro k
    have h := bitsOf_snoc (v / 2) k (decide (v % 2 = 1))
    rw [← h]
    congr 1
    by_cases e : v % 2 = 1 <;> simp [e] <;> omega
  induction k generalizing v with
  | zero => simp [bitsOf, valB, Nat.mod_one]
  | succ k ih =>
    rw [this, valB_snoc, ih]
    · rw [Nat.pow_succ, Nat.mul_comm (2 ^ k) 2, Nat.mod_mul]
      by_cases e : v % 2 = 1 <;> simp [e] <;> omega
    · intro k
      have h := bitsOf_snoc (v / 2 / 2) k (decide (v / 2 % 2 = 1))
      rw [← h]
      congr 1
      by_cases e : v / 2 % 2 = 1 <;> simp [e] <;> omega

theorem byte_bits (b : UInt8) : valB (bitsOf b.toNat 8) = b.toNat := by
  rw [valB_bitsOf]
  exact Nat.mod_eq_of_lt b.toNat_lt

theorem unpack_inj : ∀ (a b : List UInt8), unpack a = unpack b → a = b := by
  intro a
  induction a with
  | nil =>
    intro b h
    have := congrArg List.length h
    rw [unpack_len, unpack_len] at this
    exact (List.eq_nil_of_length_eq_zero (by simp at this; omega)).symm
  | cons x a ih =>
    intro b h
    cases b with
    | nil =>
      have := congrArg List.length h
      rw [unpack_len, unpack_len] at this
      simp at this
    | cons y b =>
      rw [unpack_cons, unpack_cons] at h
      obtain ⟨h1, h2⟩ := List.append_inj h (by rw [bitsOf_len, bitsOf_len])
      have h3 := congrArg valB h1
      rw [byte_bits, byte_bits] at h3
      rw [ih b h2, UInt8.toNat.inj h3]

/-- All are noughts. -/
theorem none_set (l : List Bool) : l.any id = false ↔ l = List.replicate l.length false := by
  induction l with
  | nil => simp
  | cons b l ih =>
    cases b
    · simp [List.replicate_succ]
      simpa using ih
    · simp [List.replicate_succ]

theorem bitsOf_any (v k : Nat) : (bitsOf v k).any id = decide (v % 2 ^ k ≠ 0) := by
  rw [← valB_bitsOf v k]
  generalize bitsOf v k = l
  suffices h : ∀ n l', List.length l' = n → l'.any id = decide (valB l' ≠ 0) from h _ l rfl
  intro n
  induction n with
  | zero => intro l' hl; rw [List.eq_nil_of_length_eq_zero hl]; rfl
  | succ n ih =>
    intro l' hl
    have hne : l' ≠ [] := by intro e; simp [e] at hl
    rw [← List.dropLast_concat_getLast hne, valB_snoc, List.any_append, ih _ (by simp [hl])]
    cases l'.getLast hne
    · simp
      omega
    · simp

/-- A reader of bits: what is left of a byte, and of the reader. -/
abbrev BSt := List Bool × (List UInt8 × Nat × Int)
def bit1 (t : BSt) : Bool × BSt :=
  match t.1 with
  | b :: P => (b, P, t.2)
  | [] => (decide (be (rTake t.2 1).1 / 128 % 2 = 1), bitsOf (be (rTake t.2 1).1) 7, (rTake t.2 1).2)

def bitsN (t : BSt) : Nat → List Bool × BSt
  | 0 => ([], t)
  | k + 1 => ((bitsN t k).1 ++ [(bit1 (bitsN t k).2).1], (bit1 (bitsN t k).2).2)

theorem bitsN_len (t : BSt) (k : Nat) : (bitsN t k).1.length = k := by
  induction k with
  | zero => rfl
  | succ k ih => simp [bitsN, ih]

/-- A writer of bits: those that fill no byte yet, and the writer. -/
abbrev WSt := List Bool × (List UInt8 × Int)
def wBit (t : WSt) (b : Bool) : WSt := if t.1.length = 7 then ([], wPut t.2 [UInt8.ofNat (valB (t.1 ++ [b]))]) else (t.1 ++ [b], t.2)
def wBits (t : WSt) (l : List Bool) : WSt := l.foldl wBit t
def wFill (t : WSt) : WSt := if t.1.length = 0 then t else wBits t (List.replicate (8 - t.1.length) false)

theorem wBits_snoc (t : WSt) (l : List Bool) (b : Bool) : wBits t (l ++ [b]) = wBit (wBits t l) b := by simp [wBits]
theorem wBits_take_succ (t : WSt) (l : List Bool) (k : Nat) (h : k < l.length) : wBits t (l.take (k + 1)) = wBit (wBits t (l.take k)) l[k] := by
  rw [List.take_succ_eq_append_getElem h, wBits_snoc]

/-- What was written: whole bytes, and what fills none yet. -/
theorem wBits_parts (P : List Bool) (s : List UInt8 × Int) (hP : P.length < 8) (l : List Bool) : ∃ Y, (wBits (P, s) l).2 = wPut s Y ∧ unpack Y ++ (wBits (P, s) l).1 = P ++ l ∧ (wBits (P, s) l).1.length < 8 := by
  suffices h : ∀ n l', List.length l' = n → ∃ Y, (wBits (P, s) l').2 = wPut s Y ∧ unpack Y ++ (wBits (P, s) l').1 = P ++ l' ∧ (wBits (P, s) l').1.length < 8 from h _ l rfl
  intro n
  induction n with
  | zero =>
    intro l' hl
    rw [List.eq_nil_of_length_eq_zero hl]
    exact ⟨[], by rw [wPut_nil]; rfl, by simp [unpack, wBits], hP⟩
  | succ n ih =>
    intro l' hl
    have hne : l' ≠ [] := by intro e; simp [e] at hl
    obtain ⟨Y, h1, h2, h3⟩ := ih l'.dropLast (by simp [hl])
    rw [← List.dropLast_concat_getLast hne, wBits_snoc, ← List.append_assoc, ← h2]
    generalize wBits (P, s) l'.dropLast = t at h1 h3
    generalize l'.getLast hne = b
    unfold wBit
    split
    · rename_i h7
      refine ⟨Y ++ [UInt8.ofNat (valB (t.1 ++ [b]))], by rw [h1, wPut_wPut], ?_, by simp⟩
      have hv := valB_lt (t.1 ++ [b])
      have hl8 : (t.1 ++ [b]).length = 8 := by simp [h7]
      rw [hl8] at hv
      have hb := bitsOf_valB (t.1 ++ [b])
      rw [hl8] at hb
      have he : (UInt8.ofNat (valB (t.1 ++ [b]))).toNat = valB (t.1 ++ [b]) := by rw [UInt8.toNat_ofNat']; exact Nat.mod_eq_of_lt hv
      rw [unpack_append, unpack_cons, he, hb]
      simp [unpack]
    · exact ⟨Y, h1, by simp, by simp; omega⟩

/-- Filled there is nothing that fills no byte; noughts, fewer than eight, stand behind. -/
theorem wFill_parts (P : List Bool) (s : List UInt8 × Int) (hP : P.length < 8) (l : List Bool) : ∃ Y k, (wFill (wBits (P, s) l)) = ([], wPut s Y) ∧ unpack Y = P ++ l ++ List.replicate k false ∧ k < 8 := by
  obtain ⟨Y, h1, h2, h3⟩ := wBits_parts P s hP l
  generalize wBits (P, s) l = t at *
  obtain ⟨Q, u⟩ := t
  simp only at h1 h2 h3
  unfold wFill
  simp only
  split
  · rename_i h0
    have : Q = [] := List.eq_nil_of_length_eq_zero h0
    subst this
    exact ⟨Y, 0, by rw [h1], by simpa using h2, by decide⟩
  · rename_i h0
    obtain ⟨Z, g1, g2, g3⟩ := wBits_parts Q u h3 (List.replicate (8 - Q.length) false)
    generalize wBits (Q, u) (List.replicate (8 - Q.length) false) = t at *
    obtain ⟨R, x⟩ := t
    simp only at g1 g2 g3
    have hl := congrArg List.length g2
    rw [List.length_append, List.length_append, unpack_len, List.length_replicate] at hl
    have hR : R = [] := List.eq_nil_of_length_eq_zero (by omega)
    subst hR
    refine ⟨Y ++ Z, 8 - Q.length, by rw [g1, h1, wPut_wPut], ?_, by omega⟩
    rw [unpack_append, ← h2, List.append_assoc, ← g2]
    simp

end Go.Proofs.Ytmghmmkjcgopaaa
