/-
  What chapter 4 says of instructions, as plain functions. No conditions.
-/
import Derived.Test.YtemjhlhioeopnabDoorIRow
namespace Go.Proofs.YtemjhlhioeopnabDoor
open Go.RowKit

/-- The words, from 0 on. -/
def wordsI : List (List UInt8) := [[110, 111, 112], [110, 117, 109, 98, 101, 114], [110, 105, 108], [108, 111, 97, 100], [115, 116, 111, 114, 101], [112, 111, 112], [100, 117, 112], [115, 119, 97, 112], [97, 100, 100], [115, 117, 98], [109, 117, 108], [100, 105, 118], [114, 101, 109], [110, 101, 103], [97, 110, 100], [111, 114], [120, 111, 114], [115, 104, 108], [115, 104, 114], [106, 117, 109, 112], [122, 101, 114, 111], [109, 105, 110, 117, 115], [108, 101, 115, 115], [105, 115, 110, 105, 108], [115, 97, 109, 101], [110, 101, 119], [103, 101, 116], [112, 117, 116], [103, 101, 116, 115], [112, 117, 116, 115], [97, 114, 114, 97, 121], [110, 117, 109, 103, 101, 116], [110, 117, 109, 112, 117, 116], [114, 101, 102, 103, 101, 116], [114, 101, 102, 112, 117, 116], [108, 101, 110, 103, 116, 104], [99, 97, 115, 116], [105, 115], [99, 97, 108, 108], [102, 97, 99, 101], [115, 116, 97, 116, 105, 99], [105, 110, 105, 116], [114, 101, 116, 117, 114, 110], [103, 105, 118, 101], [116, 104, 114, 111, 119], [112, 114, 105, 110, 116]]
def nameI (op : Int) : List UInt8 := if op < 0 ∨ 45 < op then [] else wordsI.getD op.toNat []
def opL : List (List UInt8) → Nat → List UInt8 → Int × Bool
  | [], _, _ => (0, false)
  | x :: r, i, s => if x = s then ((i : Int), true) else opL r (i + 1) s
def opI (s : List UInt8) : Int × Bool := opL wordsI 0 s

/-- Which row of the table: 0 none, 1 no number, 2 a local, 3 a number, 4 a place, 5 a class, 6 a field, 7 a type, 8 a method. -/
def rowI (op : Int) : Int := if op < 0 ∨ 45 < op then 0 else if op = 3 ∨ op = 4 then 2 else if op = 1 then 3 else if 19 ≤ op ∧ op ≤ 24 then 4 else if op = 25 then 5 else if 26 ≤ op ∧ op ≤ 29 then 6 else if op = 30 ∨ op = 36 ∨ op = 37 then 7 else if 38 ≤ op ∧ op ≤ 41 then 8 else 1
/-- How many bytes. -/
def sizeN (op : Int) : Nat := if op < 0 ∨ 45 < op then 0 else if op = 3 ∨ op = 4 then 2 else if op = 1 ∨ (19 ≤ op ∧ op ≤ 30) ∨ (36 ≤ op ∧ op ≤ 41) then 3 else 1

theorem sizeN_le (op : Int) : sizeN op ≤ 3 := by
  unfold sizeN
  repeat' split
  all_goals omega

theorem row_cases (op : Int) : (rowI op = 0 ∧ sizeN op = 0) ∨ (rowI op = 1 ∧ sizeN op = 1) ∨ (rowI op = 2 ∧ sizeN op = 2) ∨ (3 ≤ rowI op ∧ rowI op ≤ 8 ∧ sizeN op = 3) := by
  unfold rowI sizeN
  repeat' split
  all_goals omega

/-- An instruction: its place, its operation, its number, its size. -/
abbrev In := Int × Int × Int × Int
def inV (i : In) : Value := .agg #[.int .i64 i.1, .int .i64 i.2.1, .int .i64 i.2.2.1, .int .i64 i.2.2.2]
def in0 : In := (0, 0, 0, 0)

/-- A number of bytes, the highest first. -/
def beI (l : List UInt8) : Nat := l.foldl (fun n b => n * 256 + b.toNat) 0

theorem beI_append (l : List UInt8) (b : UInt8) : beI (l ++ [b]) = beI l * 256 + b.toNat := by simp [beI]

theorem beF_lt (l : List UInt8) : ∀ n, l.foldl (fun n b => n * 256 + b.toNat) n < (n + 1) * 256 ^ l.length := by
  induction l with
  | nil => intro n; simp
  | cons b r ih =>
    intro n
    have h1 := ih (n * 256 + b.toNat)
    have h2 := b.toNat_lt
    simp only [List.foldl_cons, List.length_cons]
    refine Nat.lt_of_lt_of_le h1 ?_
    rw [Nat.pow_succ, Nat.mul_comm (256 ^ r.length) 256, ← Nat.mul_assoc]
    exact Nat.mul_le_mul_right _ (by omega)

theorem beI_lt (l : List UInt8) : beI l < 256 ^ l.length := by
  have := beF_lt l 0
  simpa [beI] using this

theorem beI_take_succ (l : List UInt8) (j : Nat) (h : j < l.length) : beI (l.take (j + 1)) = beI (l.take j) * 256 + l[j].toNat := by
  rw [List.take_succ_eq_append_getElem h, beI_append]

/-- The instruction that some bytes begin with, its place beside it. -/
def decAt (at_ : Nat) : List UInt8 → In × Int
  | [] => (in0, 11)
  | c :: r => if sizeN c.toNat = 0 then (in0, 17) else if r.length + 1 < sizeN c.toNat then (in0, 11) else (((at_ : Int), (c.toNat : Int), (beI (r.take (sizeN c.toNat - 1)) : Int), (sizeN c.toNat : Int)), 0)
def decR (code : List UInt8) (at_ : Int) : In × Int := if at_ < 0 then (in0, 11) else decAt at_.toNat (code.drop at_.toNat)

/-- Instructions ahead of what was read behind them. -/
def joinR (l : List In) (r : List In × Int × Int) : List In × Int × Int := if r.2.2 = 0 then (l ++ r.1, 0, 0) else ([], r.2.1, r.2.2)
/-- All instructions of some bytes that begin at a place. -/
def allL : Nat → Nat → List UInt8 → List In × Int × Int
  | 0, _, _ => ([], 0, 0)
  | f + 1, at_, bs => if bs = [] then ([], 0, 0) else if (decAt at_ bs).2 = 0 then joinR [(decAt at_ bs).1] (allL f (at_ + (decAt at_ bs).1.2.2.2.toNat) (bs.drop (decAt at_ bs).1.2.2.2.toNat)) else ([], (at_ : Int), (decAt at_ bs).2)
def allR (code : List UInt8) : List In × Int × Int := allL code.length 0 code

theorem joinR_joinR (a b : List In) (r : List In × Int × Int) : joinR a (joinR b r) = joinR (a ++ b) r := by
  unfold joinR
  split <;> simp_all

theorem joinR_nil (r : List In × Int × Int) (h : r.2.2 = 0 → r.2.1 = 0) (h2 : r.2.2 ≠ 0 → r.1 = []) : joinR [] r = r := by
  obtain ⟨a, b, c⟩ := r
  unfold joinR
  by_cases hc : c = 0
  · have := h hc
    simp at this
    simp [hc, this]
  · have := h2 hc
    simp at this
    simp [hc, this]

/-- What a decoded instruction is. -/
theorem decAt_ok {at_ : Nat} {bs : List UInt8} (h : (decAt at_ bs).2 = 0) : ∃ c r, bs = c :: r ∧ 0 < sizeN c.toNat ∧ sizeN c.toNat ≤ bs.length ∧ (decAt at_ bs).1 = ((at_ : Int), (c.toNat : Int), (beI (r.take (sizeN c.toNat - 1)) : Int), (sizeN c.toNat : Int)) := by
  cases bs with
  | nil => simp [decAt] at h
  | cons c r =>
    simp only [decAt] at h ⊢
    by_cases h1 : sizeN c.toNat = 0
    · simp [h1] at h
    · by_cases h2 : r.length + 1 < sizeN c.toNat
      · simp [h1, h2] at h
      · rw [if_neg h1, if_neg h2]
        exact ⟨c, r, rfl, by omega, by simp; omega, rfl⟩

theorem decAt_err {at_ : Nat} {bs : List UInt8} (h : (decAt at_ bs).2 ≠ 0) : (decAt at_ bs).1 = in0 ∧ ((decAt at_ bs).2 = 11 ∨ (decAt at_ bs).2 = 17) := by
  cases bs with
  | nil => simp [decAt]
  | cons c r =>
    simp only [decAt] at h ⊢
    by_cases h1 : sizeN c.toNat = 0
    · simp [h1]
    · by_cases h2 : r.length + 1 < sizeN c.toNat
      · simp [h1, h2]
      · rw [if_neg h1, if_neg h2] at h
        simp at h

/-- More fuel than bytes changes nothing. -/
theorem allL_fuel : ∀ (f g at_ : Nat) (bs : List UInt8), bs.length ≤ f → bs.length ≤ g → allL f at_ bs = allL g at_ bs := by
  intro f
  induction f with
  | zero =>
    intro g at_ bs hf _
    have : bs = [] := List.eq_nil_of_length_eq_zero (by omega)
    subst this
    cases g <;> simp [allL]
  | succ f ih =>
    intro g at_ bs hf hg
    cases g with
    | zero =>
      have : bs = [] := List.eq_nil_of_length_eq_zero (by omega)
      subst this
      simp [allL]
    | succ g =>
      unfold allL
      by_cases h0 : bs = []
      · simp [h0]
      · rw [if_neg h0, if_neg h0]
        by_cases h1 : (decAt at_ bs).2 = 0
        · rw [if_pos h1, if_pos h1]
          obtain ⟨c, r, rfl, hp, hl, he⟩ := decAt_ok h1
          rw [he]
          simp only [Int.toNat_natCast]
          rw [ih g _ _ (by simp at hf ⊢; omega) (by simp at hg ⊢; omega)]
        · rw [if_neg h1, if_neg h1]

theorem allL_nil (f at_ : Nat) : allL f at_ [] = ([], 0, 0) := by cases f <;> simp [allL]

theorem allL_step {f at_ : Nat} {bs : List UInt8} (h0 : bs ≠ []) (hf : bs.length ≤ f) (h1 : (decAt at_ bs).2 = 0) :
    allL f at_ bs = joinR [(decAt at_ bs).1] (allL f (at_ + (decAt at_ bs).1.2.2.2.toNat) (bs.drop (decAt at_ bs).1.2.2.2.toNat)) := by
  cases f with
  | zero => exact absurd (List.eq_nil_of_length_eq_zero (by omega)) h0
  | succ f =>
    obtain ⟨c, r, hb, hp, hl, he⟩ := decAt_ok h1
    rw [allL, if_neg h0, if_pos h1]
    rw [allL_fuel f (f + 1) _ _ (by rw [he]; simp; omega) (by rw [he]; simp; omega)]

theorem allL_stop {f at_ : Nat} {bs : List UInt8} (h0 : bs ≠ []) (hf : bs.length ≤ f) (h1 : (decAt at_ bs).2 ≠ 0) : allL f at_ bs = ([], (at_ : Int), (decAt at_ bs).2) := by
  cases f with
  | zero => exact absurd (List.eq_nil_of_length_eq_zero (by omega)) h0
  | succ f => rw [allL, if_neg h0, if_neg h1]

/-- How many bytes may be behind each other: what is written of one instruction, and its error. -/
def encErr (i : In) : Int := if sizeN i.2.1 = 0 then 17 else if i.2.2.1 < 0 ∨ ((256 ^ (sizeN i.2.1 - 1) : Nat) : Int) ≤ i.2.2.1 then 1 else 0
def encOne (i : In) : List UInt8 := UInt8.ofNat i.2.1.toNat :: ((if sizeN i.2.1 = 3 then [UInt8.ofNat (i.2.2.1.toNat / 256)] else []) ++ (if sizeN i.2.1 = 1 then [] else [UInt8.ofNat i.2.2.1.toNat]))
/-- Bytes ahead of what is written behind them. -/
def joinB (l : List UInt8) (r : List UInt8 × Int) : List UInt8 × Int := if r.2 = 0 then (l ++ r.1, 0) else ([], r.2)
def encR : List In → List UInt8 × Int
  | [] => ([], 0)
  | i :: l => if encErr i = 0 then joinB (encOne i) (encR l) else ([], encErr i)

theorem joinB_joinB (a b : List UInt8) (r : List UInt8 × Int) : joinB a (joinB b r) = joinB (a ++ b) r := by
  unfold joinB
  split <;> simp_all

/-- Where an instruction goes on. -/
def nextR (i : In) : List Int := if rowI i.2.1 = 0 ∨ (42 ≤ i.2.1 ∧ i.2.1 ≤ 44) then [] else if i.2.1 = 19 then [i.2.2.1] else if 20 ≤ i.2.1 ∧ i.2.1 ≤ 24 ∧ i.2.2.1 ≠ i.1 + i.2.2.2 then [i.1 + i.2.2.2, i.2.2.1] else [i.1 + i.2.2.2]

/-- Instructions as cells. -/
def qcs : List In → List Value
  | [] => []
  | i :: l => .int .i64 i.1 :: .int .i64 i.2.1 :: .int .i64 i.2.2.1 :: .int .i64 i.2.2.2 :: qcs l

theorem qcs_length (l : List In) : (qcs l).length = l.length * 4 := by
  induction l with
  | nil => rfl
  | cons e l ih => simp [qcs, ih]; omega

theorem qcs_append (a b : List In) : qcs (a ++ b) = qcs a ++ qcs b := by
  induction a with
  | nil => rfl
  | cons e l ih => simp [qcs, ih]

theorem qcs_one (l : List In) : ∀ u ∈ qcs l, u.oneCell' = true := by
  induction l with
  | nil => simp [qcs]
  | cons t l ih =>
    intro u hu
    simp [qcs] at hu
    rcases hu with rfl | rfl | rfl | rfl | hu
    · rfl
    · rfl
    · rfl
    · rfl
    · exact ih u hu

theorem qcs_get (l : List In) (j : Nat) (h : j < l.length) : (qcs l)[j * 4]? = some (.int .i64 l[j].1) ∧ (qcs l)[j * 4 + 1]? = some (.int .i64 l[j].2.1) ∧ (qcs l)[j * 4 + 2]? = some (.int .i64 l[j].2.2.1) ∧ (qcs l)[j * 4 + 3]? = some (.int .i64 l[j].2.2.2) := by
  induction l generalizing j with
  | nil => simp at h
  | cons t l ih =>
    cases j with
    | zero => exact ⟨rfl, rfl, rfl, rfl⟩
    | succ j =>
      have := ih j (by simpa using h)
      simp only [qcs, Nat.add_mul, Nat.one_mul, List.getElem_cons_succ]
      exact this

theorem qcs_take (l : List In) (n : Nat) : (qcs l).take (n * 4) = qcs (l.take n) := by
  induction l generalizing n with
  | nil => simp [qcs]
  | cons t l ih =>
    cases n with
    | zero => simp [qcs]
    | succ n =>
      rw [show (n + 1) * 4 = n * 4 + 4 by omega]
      simp [qcs, ih]

theorem qcs_ne {l : List In} (h : l ≠ []) : qcs l ≠ [] := by
  cases l with
  | nil => exact absurd rfl h
  | cons => simp [qcs]

/-- Bytes as cells; numbers; bools. -/
def bcs (l : List UInt8) : List Value := l.map fun b => Value.int .u8 (b.toNat : Int)
def ics (l : List Int) : List Value := l.map fun x => Value.int .i64 x
def lcs (l : List Bool) : List Value := l.map fun x => Value.bool x

theorem bcs_length (l : List UInt8) : (bcs l).length = l.length * 1 := by simp [bcs]
theorem bcs_append (a b : List UInt8) : bcs (a ++ b) = bcs a ++ bcs b := by simp [bcs]
theorem bcs_one (l : List UInt8) : ∀ u ∈ bcs l, u.oneCell' = true := by
  intro u hu
  simp [bcs] at hu
  obtain ⟨b, _, rfl⟩ := hu
  rfl
theorem bcs_get (l : List UInt8) (j : Nat) (h : j < l.length) : (bcs l)[j]? = some (.int .u8 (l[j].toNat : Int)) := by simp [bcs, h]
theorem bcs_take (l : List UInt8) (n : Nat) : (bcs l).take n = bcs (l.take n) := by simp [bcs, List.map_take]
theorem ics_length (l : List Int) : (ics l).length = l.length * 1 := by simp [ics]
theorem ics_append (a b : List Int) : ics (a ++ b) = ics a ++ ics b := by simp [ics]
theorem ics_one (l : List Int) : ∀ u ∈ ics l, u.oneCell' = true := by
  intro u hu
  simp [ics] at hu
  obtain ⟨b, _, rfl⟩ := hu
  rfl
theorem ics_get (l : List Int) (j : Nat) (h : j < l.length) : (ics l)[j]? = some (.int .i64 l[j]) := by simp [ics, h]
theorem lcs_length (l : List Bool) : (lcs l).length = l.length * 1 := by simp [lcs]
theorem lcs_get (l : List Bool) (j : Nat) (h : j < l.length) : (lcs l)[j]? = some (.bool l[j]) := by simp [lcs, h]

end Go.Proofs.YtemjhlhioeopnabDoor
