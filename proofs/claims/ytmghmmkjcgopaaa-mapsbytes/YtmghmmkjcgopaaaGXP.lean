/-
  The second program's Parse: what its reads come to, as plain laws. No conditions.
-/
import Derived.Test.YtmghmmkjcgopaaaGXB
namespace Go.Proofs.Ytmghmmkjcgopaaa
open Go.RowKit

/-- The reader's state behind the two numbers of a map. -/
def xS3 (bs : List UInt8) (n : Nat) : List UInt8 × Nat × Int := (rTake (rTake (rTake (bs, n, 0) 2).2 1).2 1).2
def xLo (bs : List UInt8) (n : Nat) : Nat := be (rTake (rTake (bs, n, 0) 2).2 1).1
def xSt (bs : List UInt8) (n : Nat) : Nat := be (rTake (rTake (rTake (bs, n, 0) 2).2 1).2 1).1

/-- What the second reader reads of a map: it has an error just where the map is cut; else this is the map, if no bit that fills is set. -/
theorem x_dec (bs : List UInt8) (n : Nat) :
    ((rBytes (xS3 bs n) ((((xLo bs n + xSt bs n + 7) / 8 : Nat)) : Int)).2.2.2 ≠ 0 → (decM bs).2.1 = 11) ∧
    ((rBytes (xS3 bs n) ((((xLo bs n + xSt bs n + 7) / 8 : Nat)) : Int)).2.2.2 = 0 → ∃ Y r n', (rBytes (xS3 bs n) ((((xLo bs n + xSt bs n + 7) / 8 : Nat)) : Int)) = (Y, r, n', 0) ∧ Y.length = (xLo bs n + xSt bs n + 7) / 8 ∧
      decM bs = if ((unpack Y).drop (xLo bs n + xSt bs n)).any id then ((0, [], []), 1, []) else (((be (rTake (bs, n, 0) 2).1 : Int), (unpack Y).take (xLo bs n), ((unpack Y).drop (xLo bs n)).take (xSt bs n)), 0, r)) := by
  have hrb : ∀ (s : List UInt8 × Nat × Int) (k : Nat), rBytes s (k : Int) = rTake s k := by
    intro s k
    unfold rBytes
    rw [if_neg (by omega), Int.toNat_natCast]
  rw [hrb]
  match bs with
  | [] => exact ⟨fun _ => rfl, fun h => by simp [xS3, rTake] at h⟩
  | [a] => exact ⟨fun _ => rfl, fun h => by simp [xS3, rTake] at h⟩
  | [a, b] => exact ⟨fun _ => rfl, fun h => by simp [xS3, rTake] at h⟩
  | [a, b, c] => exact ⟨fun _ => rfl, fun h => by simp [xS3, rTake] at h⟩
  | a :: b :: c :: d :: r =>
    have h1 : rTake (a :: b :: c :: d :: r, n, 0) 2 = ([a, b], c :: d :: r, n + 2, 0) := by simp [rTake]
    have h2 : rTake (c :: d :: r, n + 2, 0) 1 = ([c], d :: r, n + 2 + 1, 0) := by simp [rTake]
    have h3 : rTake (d :: r, n + 2 + 1, 0) 1 = ([d], r, n + 2 + 1 + 1, 0) := by simp [rTake]
    have e1 : xLo (a :: b :: c :: d :: r) n = c.toNat := by unfold xLo; rw [h1]; simp only; rw [h2]; simp [be]
    have e2 : xSt (a :: b :: c :: d :: r) n = d.toNat := by unfold xSt; rw [h1]; simp only; rw [h2]; simp only; rw [h3]; simp [be]
    have e3 : xS3 (a :: b :: c :: d :: r) n = (r, n + 2 + 1 + 1, 0) := by unfold xS3; rw [h1]; simp only; rw [h2]; simp only; rw [h3]
    rw [e1, e2, e3, h1, decM_eq]
    by_cases q : r.length < (c.toNat + d.toNat + 7) / 8
    · rw [if_pos q, rTake_short _ _ _ q]
      exact ⟨fun _ => rfl, fun h => by simp at h⟩
    · rw [if_neg q, rTake_full _ _ _ (by omega)]
      refine ⟨fun h => absurd rfl h, fun _ => ⟨_, _, _, rfl, by rw [List.length_take]; omega, ?_⟩⟩
      have g1 : (unpack (r.take ((c.toNat + d.toNat + 7) / 8))).take c.toNat = (unpack r).take c.toNat := by rw [unpack_take, List.take_take, Nat.min_eq_left (by omega)]
      have g2 : ((unpack (r.take ((c.toNat + d.toNat + 7) / 8))).drop c.toNat).take d.toNat = ((unpack r).drop c.toNat).take d.toNat := by rw [unpack_take, List.drop_take, List.take_take, Nat.min_eq_left (by omega)]
      rw [g1, g2]

/-- The k-th bit of bytes. -/
theorem unpack_get (Y : List UInt8) (k : Nat) (h : k < 8 * Y.length) : (unpack Y)[k]? = some (decide ((Y[k / 8]'(by omega)).toNat / 2 ^ (7 - k % 8) % 2 = 1)) := by
  induction Y generalizing k with
  | nil => simp at h
  | cons c Y ih =>
    rw [unpack_cons]
    by_cases hk : k < 8
    · rw [List.getElem?_append_left (by rw [bitsOf_len]; exact hk)]
      have h0 : k / 8 = 0 := by omega
      have hm : k % 8 = k := by omega
      simp only [h0, hm, List.getElem_cons_zero]
      have hall : ∀ (v : Nat) (k : Nat), k < 8 → (bitsOf v 8)[k]? = some (decide (v / 2 ^ (7 - k) % 2 = 1)) := by
        intro v k hk
        match k, hk with
        | 0, _ => rfl
        | 1, _ => rfl
        | 2, _ => rfl
        | 3, _ => rfl
        | 4, _ => rfl
        | 5, _ => rfl
        | 6, _ => rfl
        | 7, _ => rfl
      exact hall c.toNat k hk
    · rw [List.getElem?_append_right (by rw [bitsOf_len]; omega), bitsOf_len, ih (k - 8) (by simp at h; omega)]
      have h1 : k / 8 = (k - 8) / 8 + 1 := by omega
      have h2 : (k - 8) % 8 = k % 8 := by omega
      simp only [h1, h2, List.getElem_cons_succ]

end Go.Proofs.Ytmghmmkjcgopaaa
