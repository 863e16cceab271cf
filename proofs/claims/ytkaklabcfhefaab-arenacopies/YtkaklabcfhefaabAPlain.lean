/-
  Plain facts: numbers as eight bytes; objects as numbers. No conditions.
-/
import Derived.Test.YtkaklabcfhefaabCPlain
import Derived.Test.YtkaklabcfhefaabGPlain
namespace Go.Proofs.Ytkaklabcfhefaab
open Go.RowKit

/-- A number of 64 bits with a sign. -/
def i64 (v : Int) : Prop := -9223372036854775808 ≤ v ∧ v ≤ 9223372036854775807

/-- A number's bytes, the highest first. -/
def byteW (v : Int) (i : Nat) : UInt8 := UInt8.ofNat ((v / 2 ^ (56 - 8 * i)) % 256).toNat
def encW (v : Int) : List UInt8 := [byteW v 0, byteW v 1, byteW v 2, byteW v 3, byteW v 4, byteW v 5, byteW v 6, byteW v 7]
def encWs (l : List Int) : List UInt8 := l.flatMap encW

theorem byteW_toNat (v : Int) (i : Nat) : (((byteW v i).toNat : Nat) : Int) = (v / 2 ^ (56 - 8 * i)) % 256 := by
  have h0 := Int.emod_nonneg (v / 2 ^ (56 - 8 * i)) (show (256 : Int) ≠ 0 by decide)
  have h1 := Int.emod_lt_of_pos (v / 2 ^ (56 - 8 * i)) (show (0 : Int) < 256 by decide)
  unfold byteW
  generalize (v / 2 ^ (56 - 8 * i)) % 256 = x at *
  rw [UInt8.toNat_ofNat']
  omega

theorem encW_length (v : Int) : (encW v).length = 8 := rfl
theorem encW_get (v : Int) (i : Nat) (h : i < 8) : (encW v)[i]? = some (byteW v i) := by
  match i, h with
  | 0, _ => rfl
  | 1, _ => rfl
  | 2, _ => rfl
  | 3, _ => rfl
  | 4, _ => rfl
  | 5, _ => rfl
  | 6, _ => rfl
  | 7, _ => rfl

theorem encWs_nil : encWs [] = [] := rfl
theorem encWs_cons (v : Int) (l : List Int) : encWs (v :: l) = encW v ++ encWs l := rfl
theorem encWs_append (a b : List Int) : encWs (a ++ b) = encWs a ++ encWs b := by simp [encWs]
theorem encWs_length (l : List Int) : (encWs l).length = 8 * l.length := by
  induction l with
  | nil => rfl
  | cons v l ih => rw [encWs_cons, List.length_append, encW_length, ih, List.length_cons]; omega

theorem encWs_zeros (n : Nat) : encWs (List.replicate n 0) = List.replicate (8 * n) 0 := by
  induction n with
  | zero => rfl
  | succ n ih =>
    rw [List.replicate_succ, encWs_cons, ih, show 8 * (n + 1) = 8 + 8 * n by omega, ← List.replicate_append_replicate]
    rfl

theorem encWs_take (l : List Int) (n : Nat) : (encWs l).take (8 * n) = encWs (l.take n) := by
  induction n generalizing l with
  | zero => simp [encWs]
  | succ n ih =>
    cases l with
    | nil => simp [encWs]
    | cons v l => rw [List.take_succ_cons, encWs_cons, encWs_cons, ← ih l, List.take_append, encW_length, List.take_of_length_le (by rw [encW_length]; omega), show 8 * (n + 1) - 8 = 8 * n by omega]

theorem encWs_drop (l : List Int) (n : Nat) : (encWs l).drop (8 * n) = encWs (l.drop n) := by
  induction n generalizing l with
  | zero => simp [encWs]
  | succ n ih =>
    cases l with
    | nil => simp [encWs]
    | cons v l => rw [List.drop_succ_cons, encWs_cons, ← ih l, List.drop_append, encW_length, List.drop_of_length_le (by rw [encW_length]; omega), show 8 * (n + 1) - 8 = 8 * n by omega, List.nil_append]

theorem encWs_get (l : List Int) (i k : Nat) (hi : i < l.length) (hk : k < 8) : (encWs l)[8 * i + k]? = some (byteW l[i] k) := by
  have h : ((encWs l).drop (8 * i))[k]? = some (byteW l[i] k) := by
    rw [encWs_drop, List.drop_eq_getElem_cons hi, encWs_cons, List.getElem?_append_left (by rw [encW_length]; exact hk), encW_get _ _ hk]
  rw [List.getElem?_drop] at h
  exact h

/-- A number put in its place, byte by byte. -/
def putB (bs : List UInt8) (p : Nat) (v : Int) : Nat → List UInt8
  | 0 => bs
  | k + 1 => (putB bs p v k).set (p + k) (byteW v k)

theorem putB_length (bs : List UInt8) (p : Nat) (v : Int) (k : Nat) : (putB bs p v k).length = bs.length := by
  induction k with
  | zero => rfl
  | succ k ih => rw [putB, List.length_set, ih]

theorem putB_get (bs : List UInt8) (p : Nat) (v : Int) (k j : Nat) (hp : p + k ≤ bs.length) : (putB bs p v k)[j]? = if p ≤ j ∧ j < p + k then some (byteW v (j - p)) else bs[j]? := by
  induction k with
  | zero => rw [putB, if_neg (by omega)]
  | succ k ih =>
    rw [putB, List.getElem?_set, ih (by omega)]
    by_cases h : p + k = j
    · subst h
      rw [if_pos rfl, if_pos (by rw [putB_length]; omega), if_pos (by omega), show p + k - p = k by omega]
    · rw [if_neg h]
      by_cases h2 : p ≤ j ∧ j < p + k
      · rw [if_pos h2, if_pos (by omega)]
      · rw [if_neg h2, if_neg (by omega)]

theorem putB_word (l : List Int) (i : Nat) (v : Int) (hi : i < l.length) : putB (encWs l) (8 * i) v 8 = encWs (l.set i v) := by
  apply List.ext_getElem?
  intro j
  rw [putB_get _ _ _ _ _ (by rw [encWs_length]; omega)]
  by_cases hj : j < 8 * l.length
  · have h1 : 8 * (j / 8) + j % 8 = j := by omega
    have h2 : j / 8 < l.length := by omega
    have a1 := encWs_get l (j / 8) (j % 8) h2 (by omega)
    have a2 := encWs_get (l.set i v) (j / 8) (j % 8) (by rw [List.length_set]; exact h2) (by omega)
    rw [h1] at a1 a2
    rw [a1, a2, List.getElem_set]
    by_cases he : i = j / 8
    · rw [if_pos (by omega), if_pos he]
      congr 2
      omega
    · rw [if_neg (by omega), if_neg he]
  · rw [if_neg (by omega), List.getElem?_eq_none (by rw [encWs_length]; omega), List.getElem?_eq_none (by rw [encWs_length, List.length_set]; omega)]

/-- What eight bytes say. -/
def joinW (b : Nat → UInt8) : Nat := (b 0).toNat * 72057594037927936 + (b 1).toNat * 281474976710656 + (b 2).toNat * 1099511627776 + (b 3).toNat * 4294967296 + (b 4).toNat * 16777216 + (b 5).toNat * 65536 + (b 6).toNat * 256 + (b 7).toNat

theorem join_byte (v : Int) (h : i64 v) : IntKind.i64.wrap ((joinW (byteW v) : Nat) : Int) = v := by
  obtain ⟨h1, h2⟩ := h
  have b0 := byteW_toNat v 0
  have b1 := byteW_toNat v 1
  have b2 := byteW_toNat v 2
  have b3 := byteW_toNat v 3
  have b4 := byteW_toNat v 4
  have b5 := byteW_toNat v 5
  have b6 := byteW_toNat v 6
  have b7 := byteW_toNat v 7
  rw [show (2 : Int) ^ (56 - 8 * 0) = 72057594037927936 by decide] at b0
  rw [show (2 : Int) ^ (56 - 8 * 1) = 281474976710656 by decide] at b1
  rw [show (2 : Int) ^ (56 - 8 * 2) = 1099511627776 by decide] at b2
  rw [show (2 : Int) ^ (56 - 8 * 3) = 4294967296 by decide] at b3
  rw [show (2 : Int) ^ (56 - 8 * 4) = 16777216 by decide] at b4
  rw [show (2 : Int) ^ (56 - 8 * 5) = 65536 by decide] at b5
  rw [show (2 : Int) ^ (56 - 8 * 6) = 256 by decide] at b6
  rw [show (2 : Int) ^ (56 - 8 * 7) = 1 by decide, Int.ediv_one] at b7
  rw [IntKind.wrap_i64]
  unfold joinW
  omega

/-- What the eight are put together to. -/
theorem or_put (k A c : Nat) (hA : A % 2 ^ k = 0) (hc : c < 2 ^ k) (h1 : A < 18446744073709551616) (h2 : c < 18446744073709551616) : bits .or .u64 (A : Int) (c : Int) = ((A + c : Nat) : Int) := by
  rw [u64_or_nat _ _ h1 h2, nat_join k _ _ hA hc]

theorem or_eight (f : Nat → UInt8) : wrap64 (bits BinOp.or IntKind.u64 (bits BinOp.or IntKind.u64 (bits BinOp.or IntKind.u64 (bits BinOp.or IntKind.u64 (IntKind.u64.wrap (IntKind.u64.wrap ((f 0).toNat : Int) * 72057594037927936)) (IntKind.u64.wrap (IntKind.u64.wrap ((f 1).toNat : Int) * 281474976710656))) (IntKind.u64.wrap (IntKind.u64.wrap ((f 2).toNat : Int) * 1099511627776))) (IntKind.u64.wrap (IntKind.u64.wrap ((f 3).toNat : Int) * 4294967296)))
    (bits BinOp.or IntKind.u64 (bits BinOp.or IntKind.u64 (bits BinOp.or IntKind.u64 (IntKind.u64.wrap (IntKind.u64.wrap ((f 4).toNat : Int) * 16777216)) (IntKind.u64.wrap (IntKind.u64.wrap ((f 5).toNat : Int) * 65536))) (IntKind.u64.wrap (IntKind.u64.wrap ((f 6).toNat : Int) * 256))) (IntKind.u64.wrap ((f 7).toNat : Int)))) = IntKind.i64.wrap ((joinW f : Nat) : Int) := by
  have h0 := (f 0).toNat_lt
  have h1 := (f 1).toNat_lt
  have h2 := (f 2).toNat_lt
  have h3 := (f 3).toNat_lt
  have h4 := (f 4).toNat_lt
  have h5 := (f 5).toNat_lt
  have h6 := (f 6).toNat_lt
  have h7 := (f 7).toNat_lt
  unfold joinW
  generalize (f 0).toNat = b0 at *
  generalize (f 1).toNat = b1 at *
  generalize (f 2).toNat = b2 at *
  generalize (f 3).toNat = b3 at *
  generalize (f 4).toNat = b4 at *
  generalize (f 5).toNat = b5 at *
  generalize (f 6).toNat = b6 at *
  generalize (f 7).toNat = b7 at *
  have e0 : IntKind.u64.wrap (IntKind.u64.wrap (b0 : Int) * 72057594037927936) = ((b0 * 72057594037927936 : Nat) : Int) := by rw [IntKind.wrap_u64, IntKind.wrap_u64]; omega
  have e1 : IntKind.u64.wrap (IntKind.u64.wrap (b1 : Int) * 281474976710656) = ((b1 * 281474976710656 : Nat) : Int) := by rw [IntKind.wrap_u64, IntKind.wrap_u64]; omega
  have e2 : IntKind.u64.wrap (IntKind.u64.wrap (b2 : Int) * 1099511627776) = ((b2 * 1099511627776 : Nat) : Int) := by rw [IntKind.wrap_u64, IntKind.wrap_u64]; omega
  have e3 : IntKind.u64.wrap (IntKind.u64.wrap (b3 : Int) * 4294967296) = ((b3 * 4294967296 : Nat) : Int) := by rw [IntKind.wrap_u64, IntKind.wrap_u64]; omega
  have e4 : IntKind.u64.wrap (IntKind.u64.wrap (b4 : Int) * 16777216) = ((b4 * 16777216 : Nat) : Int) := by rw [IntKind.wrap_u64, IntKind.wrap_u64]; omega
  have e5 : IntKind.u64.wrap (IntKind.u64.wrap (b5 : Int) * 65536) = ((b5 * 65536 : Nat) : Int) := by rw [IntKind.wrap_u64, IntKind.wrap_u64]; omega
  have e6 : IntKind.u64.wrap (IntKind.u64.wrap (b6 : Int) * 256) = ((b6 * 256 : Nat) : Int) := by rw [IntKind.wrap_u64, IntKind.wrap_u64]; omega
  have e7 : IntKind.u64.wrap (b7 : Int) = (b7 : Int) := by rw [IntKind.wrap_u64]; omega
  rw [e0, e1, e2, e3, e4, e5, e6, e7]
  rw [or_put 56 (b0 * 72057594037927936) (b1 * 281474976710656) (by omega) (by omega) (by omega) (by omega)]
  rw [or_put 48 (b0 * 72057594037927936 + b1 * 281474976710656) (b2 * 1099511627776) (by omega) (by omega) (by omega) (by omega)]
  rw [or_put 40 (b0 * 72057594037927936 + b1 * 281474976710656 + b2 * 1099511627776) (b3 * 4294967296) (by omega) (by omega) (by omega) (by omega)]
  rw [or_put 24 (b4 * 16777216) (b5 * 65536) (by omega) (by omega) (by omega) (by omega)]
  rw [or_put 16 (b4 * 16777216 + b5 * 65536) (b6 * 256) (by omega) (by omega) (by omega) (by omega)]
  rw [or_put 8 (b4 * 16777216 + b5 * 65536 + b6 * 256) b7 (by omega) (by omega) (by omega) (by omega)]
  rw [or_put 32 (b0 * 72057594037927936 + b1 * 281474976710656 + b2 * 1099511627776 + b3 * 4294967296) (b4 * 16777216 + b5 * 65536 + b6 * 256 + b7) (by omega) (by omega) (by omega) (by omega)]
  rw [← Nat.add_assoc, ← Nat.add_assoc, ← Nat.add_assoc, IntKind.wrap_i64]
  unfold wrap64
  rfl

/-- An object: its kind, its slots; its numbers; where one begins. -/
abbrev Ob := Int × List Int
def obW (o : Ob) : List Int := o.1 :: (o.2.length : Int) :: o.2
def obH (o : Ob) : List Bool := true :: List.replicate (o.2.length + 1) false
def flW (l : List Ob) : List Int := l.flatMap obW
def flH (l : List Ob) : List Bool := l.flatMap obH

theorem obW_length (o : Ob) : (obW o).length = o.2.length + 2 := rfl
theorem obH_length (o : Ob) : (obH o).length = o.2.length + 2 := by simp [obH]
theorem flW_cons (o : Ob) (l : List Ob) : flW (o :: l) = obW o ++ flW l := rfl
theorem flH_cons (o : Ob) (l : List Ob) : flH (o :: l) = obH o ++ flH l := rfl
theorem flW_append (a b : List Ob) : flW (a ++ b) = flW a ++ flW b := by simp [flW]
theorem flH_append (a b : List Ob) : flH (a ++ b) = flH a ++ flH b := by simp [flH]
theorem flH_length (l : List Ob) : (flH l).length = (flW l).length := by
  induction l with
  | nil => rfl
  | cons o l ih => rw [flH_cons, flW_cons, List.length_append, List.length_append, obH_length, obW_length, ih]

/-- How many numbers lie ahead of the j-th object. -/
def ofs (l : List Ob) (j : Nat) : Nat := (flW (l.take j)).length

theorem ofs_zero (l : List Ob) : ofs l 0 = 0 := by simp [ofs, flW]
theorem ofs_cons (o : Ob) (l : List Ob) (j : Nat) : ofs (o :: l) (j + 1) = o.2.length + 2 + ofs l j := by
  unfold ofs
  rw [List.take_succ_cons, flW_cons, List.length_append, obW_length]
theorem ofs_succ (l : List Ob) (j : Nat) (h : j < l.length) : ofs l (j + 1) = ofs l j + l[j].2.length + 2 := by
  unfold ofs
  rw [List.take_succ_eq_append_getElem h, flW_append, List.length_append, flW_cons, List.length_append, obW_length]
  simp [flW]
  omega
theorem ofs_all (l : List Ob) : ofs l l.length = (flW l).length := by rw [ofs, List.take_length]
theorem ofs_mono (l : List Ob) {i j : Nat} (h : i ≤ j) : ofs l i ≤ ofs l j := by
  have e : flW (l.take j) = flW (l.take i) ++ flW ((l.take j).drop i) := by
    rw [← flW_append]
    congr 1
    have := List.take_append_drop i (l.take j)
    rw [List.take_take, Nat.min_eq_left h] at this
    exact this.symm
  unfold ofs
  rw [e, List.length_append]
  omega
theorem ofs_lt (l : List Ob) {i j : Nat} (h : i < j) (hj : j ≤ l.length) : ofs l i + 2 ≤ ofs l j := by
  have h1 := ofs_succ l i (by omega)
  have h2 := ofs_mono l (show i + 1 ≤ j by omega)
  omega
theorem ofs_end (l : List Ob) (j : Nat) (h : j < l.length) : ofs l j + l[j].2.length + 2 ≤ (flW l).length := by
  rw [← ofs_succ l j h, ← ofs_all]
  exact ofs_mono l h
theorem ofs_snoc (l : List Ob) (o : Ob) (j : Nat) (h : j ≤ l.length) : ofs (l ++ [o]) j = ofs l j := by
  unfold ofs
  rw [List.take_append_of_le_length h]

theorem flW_split (l : List Ob) (j : Nat) (h : j < l.length) : flW l = flW (l.take j) ++ (obW l[j] ++ flW (l.drop (j + 1))) := by
  rw [← flW_cons, ← flW_append]
  congr 1
  rw [← List.drop_eq_getElem_cons h, List.take_append_drop]
theorem flH_split (l : List Ob) (j : Nat) (h : j < l.length) : flH l = flH (l.take j) ++ (obH l[j] ++ flH (l.drop (j + 1))) := by
  rw [← flH_cons, ← flH_append]
  congr 1
  rw [← List.drop_eq_getElem_cons h, List.take_append_drop]

theorem flW_at (l : List Ob) (j k : Nat) (h : j < l.length) (hk : k < l[j].2.length + 2) : (flW l)[ofs l j + k]? = (obW l[j])[k]? := by
  rw [flW_split l j h, List.getElem?_append_right (by unfold ofs; omega), show ofs l j + k - (flW (l.take j)).length = k by unfold ofs; omega, List.getElem?_append_left (by rw [obW_length]; exact hk)]
theorem flH_at (l : List Ob) (j k : Nat) (h : j < l.length) (hk : k < l[j].2.length + 2) : (flH l)[ofs l j + k]? = (obH l[j])[k]? := by
  have hl : (flH (l.take j)).length = ofs l j := by rw [flH_length]; rfl
  rw [flH_split l j h, List.getElem?_append_right (by omega), show ofs l j + k - (flH (l.take j)).length = k by omega, List.getElem?_append_left (by rw [obH_length]; exact hk)]

theorem flW_kind (l : List Ob) (j : Nat) (h : j < l.length) : (flW l)[ofs l j]? = some l[j].1 := by
  have := flW_at l j 0 h (by omega)
  exact this
theorem flW_slots (l : List Ob) (j : Nat) (h : j < l.length) : (flW l)[ofs l j + 1]? = some (l[j].2.length : Int) := by
  have := flW_at l j 1 h (by omega)
  exact this
theorem flW_slot (l : List Ob) (j k : Nat) (h : j < l.length) (hk : k < l[j].2.length) : (flW l)[ofs l j + 2 + k]? = some (l[j].2[k]) := by
  have := flW_at l j (k + 2) h (by omega)
  rw [show ofs l j + 2 + k = ofs l j + (k + 2) by omega, this]
  show (l[j].2)[k]? = _
  exact List.getElem?_eq_getElem hk

/-- Which object begins at a number's place. -/
def idx (l : List Ob) (n : Nat) : Option Nat := (List.range l.length).find? fun j => ofs l j == n

theorem idx_some {l : List Ob} {n j : Nat} (h : idx l n = some j) : j < l.length ∧ ofs l j = n := by
  unfold idx at h
  have h1 := List.find?_some h
  have h2 := List.mem_of_find?_eq_some h
  simp at h1 h2
  exact ⟨h2, h1⟩
theorem ofs_inj {l : List Ob} {i j : Nat} (hi : i < l.length) (hj : j < l.length) (h : ofs l i = ofs l j) : i = j := by
  rcases Nat.lt_trichotomy i j with c | c | c
  · have := ofs_lt l c (by omega); omega
  · exact c
  · have := ofs_lt l c (by omega); omega
theorem idx_ofs {l : List Ob} {j : Nat} (h : j < l.length) : idx l (ofs l j) = some j := by
  cases hc : idx l (ofs l j) with
  | some i =>
    obtain ⟨h1, h2⟩ := idx_some hc
    rw [ofs_inj h1 h h2]
  | none =>
    unfold idx at hc
    rw [List.find?_eq_none] at hc
    have := hc j (by simp [h])
    simp at this
theorem idx_none {l : List Ob} {n : Nat} (h : idx l n = none) (j : Nat) (hj : j < l.length) : ofs l j ≠ n := by
  intro e
  rw [← e, idx_ofs hj] at h
  cases h

/-- The object in which a number's place lies. -/
theorem ofs_in (l : List Ob) (n : Nat) (h : n < (flW l).length) : ∃ j k, ∃ hj : j < l.length, n = ofs l j + k ∧ k < l[j].2.length + 2 := by
  induction l generalizing n with
  | nil => simp [flW] at h
  | cons o l ih =>
    rw [flW_cons, List.length_append, obW_length] at h
    by_cases hn : n < o.2.length + 2
    · exact ⟨0, n, by simp, by rw [ofs_zero]; omega, hn⟩
    · obtain ⟨j, k, hj, h1, h2⟩ := ih (n - (o.2.length + 2)) (by omega)
      exact ⟨j + 1, k, by simpa using hj, by rw [ofs_cons]; omega, h2⟩

theorem head_iff (l : List Ob) (n : Nat) (h : n < (flH l).length) : (flH l)[n] = (idx l n).isSome := by
  obtain ⟨j, k, hj, h1, h2⟩ := ofs_in l n (by rw [← flH_length]; exact h)
  subst h1
  have h3 := flH_at l j k hj h2
  rw [List.getElem?_eq_getElem h] at h3
  cases k with
  | zero =>
    have e : idx l (ofs l j + 0) = some j := idx_ofs hj
    rw [e]
    simpa [obH] using h3
  | succ k =>
    have h4 : (flH l)[ofs l j + (k + 1)] = false := by
      have : (obH l[j])[k + 1]? = some false := by
        show (List.replicate (l[j].2.length + 1) false)[k]? = some false
        rw [List.getElem?_replicate, if_pos (by omega)]
      rw [this] at h3
      simpa using h3
    rw [h4]
    cases hc : idx l (ofs l j + (k + 1)) with
    | none => rfl
    | some i =>
      obtain ⟨c1, c2⟩ := idx_some hc
      exfalso
      rcases Nat.lt_trichotomy i j with c | c | c
      · have := ofs_mono l (show i ≤ j by omega); have := ofs_lt l c (by omega); omega
      · subst c; omega
      · have := ofs_succ l j hj; have := ofs_mono l (show j + 1 ≤ i by omega); omega

end Go.Proofs.Ytkaklabcfhefaab
