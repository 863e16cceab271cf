/-
  Plain facts: what items are as bytes, and that reading gives them back. No conditions.
-/
import Derived.Test.YtgnbimoebaagfabItems
namespace Go.Proofs.Ytgnbimoebaagfab
open Go.RowKit

theorem be_cons (c : UInt8) (l : List UInt8) : be (c :: l) = c.toNat * 256 ^ l.length + be l := by
  suffices h : ∀ (l : List UInt8) (n : Nat), l.foldl (fun n c => n * 256 + c.toNat) n = n * 256 ^ l.length + be l by
    show (c :: l).foldl (fun n c => n * 256 + c.toNat) 0 = _
    rw [List.foldl_cons, h]
    simp
  intro l
  induction l with
  | nil => intro n; simp [be]
  | cons d l ih =>
    intro n
    rw [List.foldl_cons, ih, List.length_cons, Nat.pow_succ]
    have h2 : be (d :: l) = d.toNat * 256 ^ l.length + be l := by
      show (d :: l).foldl (fun n c => n * 256 + c.toNat) 0 = _
      rw [List.foldl_cons, ih]
      simp
    rw [h2, Nat.add_mul, Nat.mul_assoc, Nat.mul_comm 256]
    omega

theorem be_toBE (x k : Nat) : be (toBE x k) = x % 256 ^ k := by
  induction k with
  | zero => simp [toBE, be, Nat.mod_one]
  | succ k ih =>
    have h1 := Nat.mod_mul (x := x) (a := 256 ^ k) (b := 256)
    have e : (256 : Nat) ^ (k + 1) = 256 ^ k * 256 := Nat.pow_succ _ _
    have e2 : (2 : Nat) ^ 8 = 256 := by decide
    rw [toBE, be_cons, ih, toBE_length, UInt8.toNat_ofNat', e, h1, e2, Nat.mul_comm]
    omega

theorem rTake_app (a rest : List UInt8) (n m : Nat) (h : m = a.length) : rTake (a ++ rest, n, 0) m = (a, rest, n + m, 0) := by
  subst h
  unfold rTake
  rw [if_pos rfl, if_neg (by simp)]
  simp

theorem rBytes_app (a rest : List UInt8) (n : Nat) (m : Int) (h : m = (a.length : Int)) : rBytes (a ++ rest, n, 0) m = (a, rest, n + a.length, 0) := by
  subst h
  unfold rBytes
  rw [if_neg (by omega), Int.toNat_natCast, rTake_app a rest n _ rfl]

theorem rText_app (a rest : List UInt8) (n : Nat) (h : a.length < 256) : rText ((UInt8.ofNat a.length :: a) ++ rest, n, 0) = (a, rest, n + (1 + a.length), 0) := by
  have e : textLen ((UInt8.ofNat a.length :: a) ++ rest) = (UInt8.ofNat a.length :: a).length := by
    show 1 + (UInt8.ofNat a.length).toNat = _
    rw [UInt8.toNat_ofNat', List.length_cons]
    omega
  unfold rText
  simp only
  rw [e, rTake_app _ rest n _ rfl]
  simp [Nat.add_comm]

/-- May an item be written? -/
def rightB (it : Itm) : Bool :=
  if it.kind = 1 then decide (0 ≤ it.n ∧ it.n < 256) else if it.kind = 2 then decide (0 ≤ it.n ∧ it.n < 65536) else if it.kind = 5 then decide (it.bs.length < 256) else decide (it.kind = 3 ∨ it.kind = 4)

/-- An item as bytes. -/
def encI (it : Itm) : List UInt8 :=
  if it.kind = 1 then toBE it.n.toNat 1 else if it.kind = 2 then toBE it.n.toNat 2 else if it.kind = 3 then toBE (toU64 it.n) 8 else if it.kind = 4 then it.bs else UInt8.ofNat it.bs.length :: it.bs

theorem encI_len (it : Itm) : (encI it).length ≤ it.bs.length + 9 := by
  unfold encI
  split
  · simp [toBE_length]
  split
  · simp [toBE_length]
  split
  · simp [toBE_length]
  split
  · omega
  · simp

/-- Items as bytes. -/
def encL (l : List Itm) : List UInt8 := l.flatMap encI

theorem encL_take_succ (l : List Itm) (j : Nat) (h : j < l.length) : encL (l.take (j + 1)) = encL (l.take j) ++ encI l[j] := by
  unfold encL
  rw [List.take_succ_eq_append_getElem h]
  simp only [List.flatMap_append, List.flatMap_cons, List.flatMap_nil, List.append_nil]

theorem encL_drop (l : List Itm) (j : Nat) (h : j < l.length) : encL (l.drop j) = encI l[j] ++ encL (l.drop (j + 1)) := by
  unfold encL
  rw [List.drop_eq_getElem_cons h]
  simp only [List.flatMap_cons]

theorem encL_drop_le (l : List Itm) (j : Nat) : (encL (l.drop j)).length ≤ (encL l).length := by
  have h : encL l = encL (l.take j) ++ encL (l.drop j) := by
    unfold encL
    rw [← List.flatMap_append, List.take_append_drop]
  rw [h, List.length_append]
  omega

theorem back_u64 (n : Int) (h : (Lit.int .i64 n).wf = true) : wrap64 ((be (toBE (toU64 n) 8) : Nat) : Int) = n := by
  have hb := bounds_i64 h
  rw [be_toBE]
  have e : (256 : Nat) ^ 8 = 18446744073709551616 := by decide
  rw [e]
  unfold toU64
  simp only [wrap64]
  omega

end Go.Proofs.Ytgnbimoebaagfab
