/-
  The contracts of a writer's number, counts, U1, U2, N8, Bytes, Text, Len, Done, and of NewWriter. All that is written is at most 1.5 times 2 to the power of 47 bytes.
-/
import Derived.Test.YtmghmmkjcgopaaaCWPut
namespace Go.Proofs.Ytmghmmkjcgopaaa
open Go.RowKit

/-- A number in k bytes, the highest first. -/
def toBE (n : Nat) : Nat → List UInt8
  | 0 => []
  | k + 1 => UInt8.ofNat (n / 256 ^ k) :: toBE n k

theorem toBE_length (n k : Nat) : (toBE n k).length = k := by
  induction k with
  | zero => rfl
  | succ k ih => simp [toBE, ih]

theorem wPut_nil (s : List UInt8 × Int) : wPut s [] = s := by
  obtain ⟨a, b⟩ := s
  unfold wPut
  split
  · rename_i h; simp at h; simp [h]
  · rfl

theorem wPut_wPut (s : List UInt8 × Int) (a b : List UInt8) : wPut (wPut s a) b = wPut s (a ++ b) := by
  unfold wPut
  by_cases h : s.2 = 0 <;> simp [h]

theorem wPut_len (s : List UInt8 × Int) (a : List UInt8) : (wPut s a).1.length ≤ s.1.length + a.length := by
  unfold wPut
  split <;> simp

theorem toBE_get (x m k : Nat) (h0 : 0 < k) (h : k ≤ m) : (toBE x m)[m - k]? = some (UInt8.ofNat (x / 256 ^ (k - 1))) := by
  induction m with
  | zero => omega
  | succ m ih =>
    by_cases e : k = m + 1
    · subst e
      simp [toBE]
    · rw [show m + 1 - k = (m - k) + 1 by omega]
      simp only [toBE, List.getElem?_cons_succ]
      exact ih (by omega)

theorem toBE_take (x m k : Nat) (h0 : 0 < k) (h : k ≤ m) : (toBE x m).take (m - k) ++ [UInt8.ofNat (x / 256 ^ (k - 1))] = (toBE x m).take (m - (k - 1)) := by
  have hg := toBE_get x m k h0 h
  have hl : m - k < (toBE x m).length := by rw [toBE_length]; omega
  rw [show m - (k - 1) = (m - k) + 1 by omega, List.take_succ_eq_append_getElem hl]
  rw [List.getElem?_eq_getElem hl] at hg
  rw [Option.some.inj hg]

theorem byte_at (x k : Nat) (h0 : 0 < k) : (x : Int) / 2 ^ (8 * k - 8) % 256 = ((UInt8.ofNat (x / 256 ^ (k - 1))).toNat : Int) := by
  have e : (2 : Nat) ^ (8 * k - 8) = 256 ^ (k - 1) := by
    rw [show (256 : Nat) = 2 ^ 8 by decide, ← Nat.pow_mul]
    congr 1
    omega
  have e2 : (x : Int) / 2 ^ (8 * k - 8) = ((x / 256 ^ (k - 1) : Nat) : Int) := by
    rw [← e]
    simp
  rw [e2, UInt8.toNat_ofNat']
  simp

theorem bs_one (w : World) (b : UInt8) (v : Int) (h : v = (b.toNat : Int)) : BS (w.alloc (.cells #[.int .u8 v] 5)) (some ⟨w.heap.size, 0, none⟩) [b] w.heap.size := by
  subst h
  refine .inr ⟨0, rfl, fun j hj => ?_⟩
  have : j = 0 := by simpa using hj
  subst this
  rw [cell_new]
  rfl

set_option maxHeartbeats 400000 in
theorem wnumber_any {w : World} {B p g : Nat} {s : List UInt8 × Int} (h : WrE w B p g s) (x : Nat) (_hx : x < 18446744073709551616) (m : Nat) (hm : m ≤ 8) (mi : Int) (hmi : mi = (m : Int)) (hsz : s.1.length + m ≤ 211106232532992) :
    Calls Try.prog 44 #[.pointer (some ⟨p, 0, none⟩), .int .u64 (x : Int), .int .i64 mi] w fun e w' => e = .returned (.tuple #[]) ∧ WTo w B p g w' (wPut s (toBE x m)) := by
  subst hmi
  go_enter Try.func44, Try.ntmps44
  go_wp2
  go_loopw [6] (fun i wr => ∃ k : Nat, k ≤ m ∧ i = .int .i64 (8 * (k : Int) - 8) ∧ WTo w B p g wr (wPut s ((toBE x m).take (m - k)))) (fun i _ => (intOf i + 8).toNat)
  case atStart => exact ⟨m, by omega, by go_num, by simpa [wPut_nil] using WTo.refl h⟩
  case round =>
    obtain ⟨k, hk, rfl, g', hw, hg', ho⟩ := hrel
    by_cases hlt : 0 < k
    · have hb := byte_at x k hlt
      have HB := hid (bs_one wr (UInt8.ofNat (x / 256 ^ (k - 1))) _ hb)
      have hw' := hid (hw.only ((Only.refl [] wr).alloc (.cells #[.int .u8 ((x : Int) / 2 ^ (8 * k - 8) % 256)] 5)) (by simp) (by simp))
      have hl := wPut_len s ((toBE x m).take (m - k))
      have hl2 : ((toBE x m).take (m - k)).length ≤ m - k := List.length_take_le _ _
      have HP := hid (put_any hw'.out HB.out (lcap := 1) (by simp) (by simp only [List.length_singleton]; omega))
      clear hb
      have h8 : (8 : Int) ≤ 8 * (k : Int) := by omega
      go_wp2_with (go_at_call 45; refine HP.out.mono ?_; rintro e w2 ⟨rfl, hto⟩)
      refine ⟨⟨k - 1, by omega, ?_, ?_⟩, ?_⟩
      · congr 1
        omega
      · rw [wPut_wPut, toBE_take x m k hlt hk] at hto
        exact wto_trans (ho.alloc _) hg' hto
      · simp [intOf]
        omega
    · have : k = 0 := by omega
      subst this
      go_wp2
      go_end0
      refine ⟨rfl, g', ?_, hg', ho⟩
      rw [List.take_of_length_le (by rw [toBE_length]; omega)] at hw
      exact hw

end Go.Proofs.Ytmghmmkjcgopaaa
