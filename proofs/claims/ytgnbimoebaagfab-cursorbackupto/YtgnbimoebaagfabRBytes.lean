/-
  The contracts of a reader's Bytes and Text. The bytes that are left are at most 1.5 times 2 to the power of 47.
-/
import Derived.Test.YtgnbimoebaagfabClone
namespace Go.Proofs.Ytgnbimoebaagfab
open Go.RowKit

/-- What Bytes(n) does to a reader. -/
def rBytes (s : List UInt8 × Nat × Int) (n : Int) : List UInt8 × (List UInt8 × Nat × Int) :=
  if n < 0 then ([], s.1, s.2.1, if s.2.2 = 0 then 1 else s.2.2) else rTake s n.toNat

theorem rTake_fst_le (s : List UInt8 × Nat × Int) (m : Nat) : (rTake s m).1.length ≤ s.1.length := by
  unfold rTake
  split
  · split <;> simp; omega
  · simp

set_option maxHeartbeats 400000 in
theorem bytes_any {r d : Nat} {s : List UInt8 × Nat × Int} {w : World} (h : RdE w r d s) (n : Int) (hsz : s.1.length ≤ 211106232532992) :
    Calls Try.prog 20 #[.pointer (some ⟨r, 0, none⟩), .int .i64 n] w fun e w' => ∃ ao cap, e = .returned (.slice ao (rBytes s n).1.length cap) ∧ w'.ownsRow w.heap.size 5 1 (.slice ao (rBytes s n).1.length cap) (rBytes s n).1.length (bcs (rBytes s n).1) ∧ RdE w' r d (rBytes s n).2 ∧ Only [r] w w' := by
  by_cases hn : n < 0
  · have e : rBytes s n = ([], s.1, s.2.1, if s.2.2 = 0 then 1 else s.2.2) := by simp [rBytes, hn]
    rw [e]
    obtain ⟨ao, cap, h⟩ := h
    have H := hid h
    obtain ⟨c0, c1, c2, f0, f1, f2, _, capLe, capMax, _, fit, _⟩ := h
    by_cases he : s.2.2 = 0
    · rw [if_pos he]
      rw [he] at c1
      clear he
      go_enter Try.func20, Try.ntmps20
      go_wp2_with (go_at_call 28; refine (fail_new r 1 _ (by assumption) (by assumption)).mono ?_; rintro e w' ⟨rfl, hw⟩)
      go_ret
      obtain ⟨q1, q2⟩ := H.out.failed 1 _ hw
      exact ⟨none, 0, rfl, World.ownsRow_nil _ _ _ _, ⟨ao, cap, q1⟩, q2⟩
    · rw [if_neg he]
      have he' : (s.2.2 == 0) = false := by simpa using he
      clear he
      go_enter Try.func20, Try.ntmps20
      go_wp2_with (go_at_call 28; refine (fail_old r 1 s.2.2 _ (by assumption) (by assumption)).mono ?_; rintro e w' ⟨rfl, rfl⟩)
      go_ret
      exact ⟨none, 0, rfl, World.ownsRow_nil _ _ _ _, ⟨ao, cap, H.out⟩, Only.refl _ _⟩
  · obtain ⟨m, rfl⟩ := Int.eq_ofNat_of_zero_le (by omega : 0 ≤ n)
    have e : rBytes s (m : Int) = rTake s m := by simp [rBytes, hn]
    rw [e]
    have hl := rTake_fst_le s m
    have ht := take_any h m
    generalize (rTake s m).1 = L at *
    generalize (rTake s m).2 = s' at *
    clear e
    have HT := hid ht
    clear ht
    go_enter Try.func20, Try.ntmps20
    go_wp2_with (first | (go_at_call 32; refine HT.out.mono ?_; rintro e w' ⟨ao, cap, rfl, hbs, hcap, hcm, hcn, hrd, ho⟩) | (go_at_call 30; refine (clone_any hbs hcn (by omega)).mono ?_; rintro e w'' ⟨ao', cap', rfl, hown, ho'⟩))
    go_ret
    exact ⟨ao', cap', rfl, own_mono hown ho.size, hrd.only ho' (by simp) (by simp), ho.trans ho' (by simp)⟩

end Go.Proofs.Ytgnbimoebaagfab
