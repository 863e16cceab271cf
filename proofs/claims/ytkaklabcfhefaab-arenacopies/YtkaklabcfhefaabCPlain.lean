/-
  Plain facts on numbers of several bytes. No conditions.
-/
import Derived.WalkKit
import Derived.Laws.BitsAllLaws
import Derived.Laws.Bits64
namespace Go.Proofs.Ytkaklabcfhefaab

/-- The number that bytes say, the highest first. -/
def be (l : List UInt8) : Nat := l.foldl (fun n c => n * 256 + c.toNat) 0

theorem be_nil : be [] = 0 := rfl
theorem be_snoc (l : List UInt8) (c : UInt8) : be (l ++ [c]) = be l * 256 + c.toNat := by simp [be, List.foldl_append]
theorem be_lt (l : List UInt8) : be l < 256 ^ l.length := by
  suffices h : ∀ n l', List.length l' = n → be l' < 256 ^ n from h _ l rfl
  intro n
  induction n with
  | zero => intro l' hl; rw [List.eq_nil_of_length_eq_zero hl]; decide
  | succ n ih =>
    intro l' hl
    have hne : l' ≠ [] := by intro e; simp [e] at hl
    rw [← List.dropLast_concat_getLast hne, be_snoc, Nat.pow_succ]
    have h1 := ih l'.dropLast (by simp [hl])
    have h2 := (l'.getLast hne).toNat_lt
    omega

theorem be_take_succ (l : List UInt8) (k : Nat) (h : k < l.length) : be (l.take (k + 1)) = be (l.take k) * 256 + l[k].toNat := by
  rw [List.take_succ_eq_append_getElem h, be_snoc]

theorem ret_int {k : IntKind} {a b : Int} (h : a = b) : Ending.returned (.int k a) = .returned (.int k b) := by rw [h]

/-- A number moved by a byte, and a byte. -/
theorem or_shl8c (x c : Nat) (hx : x < 72057594037927936) (hc : c < 256) : bits .or .u64 (IntKind.u64.wrap ((x : Int) * 256)) (IntKind.u64.wrap (c : Int)) = ((x * 256 + c : Nat) : Int) := by
  have e1 : IntKind.u64.wrap ((x : Int) * 256) = ((x * 256 : Nat) : Int) := by rw [IntKind.wrap_u64]; omega
  have e2 : IntKind.u64.wrap (c : Int) = (c : Int) := by rw [IntKind.wrap_u64]; omega
  rw [e1, e2, u64_or_nat _ _ (by omega) (by omega), nat_join 8 _ _ (by omega) (by omega)]

/-- A number moved by two bytes, and two bytes. -/
theorem or_shl16 (x c : Nat) (hx : x < 281474976710656) (hc : c < 65536) : bits .or .u64 (IntKind.u64.wrap ((x : Int) * 65536)) (IntKind.u64.wrap (c : Int)) = ((x * 65536 + c : Nat) : Int) := by
  have e1 : IntKind.u64.wrap ((x : Int) * 65536) = ((x * 65536 : Nat) : Int) := by rw [IntKind.wrap_u64]; omega
  have e2 : IntKind.u64.wrap (c : Int) = (c : Int) := by rw [IntKind.wrap_u64]; omega
  rw [e1, e2, u64_or_nat _ _ (by omega) (by omega), nat_join 16 _ _ (by omega) (by omega)]

theorem or_bare16 (x c : Nat) (hx : x < 281474976710656) (hc : c < 65536) : bits .or .u64 ((x : Int) * 65536) (c : Int) = ((x * 65536 + c : Nat) : Int) := by
  have e1 : ((x : Int) * 65536) = ((x * 65536 : Nat) : Int) := by omega
  rw [e1, u64_or_nat _ _ (by omega) (by omega), nat_join 16 _ _ (by omega) (by omega)]

/-- What a reader's take does to its bytes that are left, how many were read, and its error: what it answers, and what is then. -/
def rTake (s : List UInt8 × Nat × Int) (m : Nat) : List UInt8 × (List UInt8 × Nat × Int) :=
  if s.2.2 = 0 then (if s.1.length < m then ([], s.1, s.2.1, 11) else (s.1.take m, s.1.drop m, s.2.1 + m, 0)) else ([], s)

theorem rTake_le (s : List UInt8 × Nat × Int) (m : Nat) : (rTake s m).1.length ≤ m := by
  unfold rTake
  split
  · split <;> simp; omega
  · simp

theorem be_lt8 (l : List UInt8) (k : Nat) (h : k < 8) : be (l.take k) < 72057594037927936 := by
  have h1 := be_lt (l.take k)
  have h2 : (l.take k).length ≤ 7 := by simp; omega
  have h3 : 256 ^ (l.take k).length ≤ 256 ^ 7 := Nat.pow_le_pow_right (by decide) h2
  have h4 : (256 : Nat) ^ 7 = 72057594037927936 := by decide
  omega

theorem be_lt_of (l : List UInt8) (k : Nat) (h : l.length ≤ k) : be l < 256 ^ k := Nat.lt_of_lt_of_le (be_lt l) (Nat.pow_le_pow_right (by decide) h)

end Go.Proofs.Ytkaklabcfhefaab
