/-
  The contract of a reader's number, and of U1, U2, N8, At, Left, Err. No conditions beyond the receiver's own shape and at most eight bytes.
-/
import Derived.Test.YtmghmmkjcgopaaaCTake
namespace Go.Proofs.Ytmghmmkjcgopaaa
open Go.RowKit

set_option maxHeartbeats 400000 in
theorem rnumber_any {r d : Nat} {s : List UInt8 × Nat × Int} {w : World} (h : RdE w r d s) (m : Nat) (h8 : m ≤ 8) (mi : Int) (hmi : mi = (m : Int)) :
    Calls Try.prog 38 #[.pointer (some ⟨r, 0, none⟩), .int .i64 mi] w fun e w' => e = .returned (.int .u64 (be (rTake s m).1 : Int)) ∧ RdE w' r d (rTake s m).2 ∧ Only [r] w w' := by
  subst hmi
  have hl := rTake_le s m
  have ht := take_any h m
  generalize (rTake s m).1 = L at *
  generalize (rTake s m).2 = s' at *
  have HT := hid ht
  clear ht
  go_enter Try.func38, Try.ntmps38
  go_wp2_with (go_at_call 42; refine HT.out.mono ?_; rintro e w' ⟨ao, cap, rfl, hbs, hcap, hcm, hcn, hrd, ho⟩)
  go_loop [5, 12] (fun x i => ∃ k : Nat, k ≤ L.length ∧ i = .int .i64 k ∧ x = .int .u64 (be (L.take k) : Int)) (fun _ i => L.length - (intOf i).toNat)
  case atStart => exact ⟨0, Nat.zero_le _, rfl, rfl⟩
  case round =>
    obtain ⟨k, hk, rfl, rfl⟩ := hrel
    by_cases hlt : k < L.length
    · rcases hbs with hbs | ⟨off, ha, hc⟩
      · exfalso
        rw [hbs] at hlt
        simp at hlt
      · have hck := hc k hlt
        subst ha
        clear hc
        go_wp2
        refine ⟨⟨k + 1, by omega, by go_num, ?_⟩, by simp [intOf]; omega⟩
        rw [be_take_succ L k hlt, or_shl8c _ _ (be_lt8 L k (by omega)) (L[k]).toNat_lt]
    · go_wp2
      go_ret
      exact ⟨ret_int (by rw [List.take_of_length_le (by omega)]), hrd, ho⟩

theorem err_any {r d : Nat} {s : List UInt8 × Nat × Int} {w : World} (h : RdE w r d s) :
    Calls Try.prog 29 #[.pointer (some ⟨r, 0, none⟩)] w fun e w' => e = .returned (.int .i64 s.2.2) ∧ w = w' := by
  obtain ⟨ao, cap, c0, c1, c2, f0, f1, f2, _, capLe, capMax, _, fit, _⟩ := h
  go_enter Try.func29, Try.ntmps29
  go_wp2
  go_ret
  exact ⟨rfl, rfl⟩

theorem left_any {r d : Nat} {s : List UInt8 × Nat × Int} {w : World} (h : RdE w r d s) :
    Calls Try.prog 12 #[.pointer (some ⟨r, 0, none⟩)] w fun e w' => e = .returned (.int .i64 (s.1.length : Int)) ∧ w = w' := by
  obtain ⟨ao, cap, c0, c1, c2, f0, f1, f2, _, capLe, capMax, _, fit, _⟩ := h
  go_enter Try.func12, Try.ntmps12
  go_wp2
  go_ret
  exact ⟨rfl, rfl⟩

theorem u1_any {r d : Nat} {s : List UInt8 × Nat × Int} {w : World} (h : RdE w r d s) :
    Calls Try.prog 26 #[.pointer (some ⟨r, 0, none⟩)] w fun e w' => e = .returned (.int .i64 (be (rTake s 1).1 : Int)) ∧ RdE w' r d (rTake s 1).2 ∧ Only [r] w w' := by
  have hb : be (rTake s 1).1 < 256 ^ 1 := be_lt_of _ 1 (rTake_le s 1)
  have ht := rnumber_any h 1 (by decide) 1 rfl
  generalize be (rTake s 1).1 = L at *
  generalize (rTake s 1).2 = s' at *
  have HT := hid ht
  clear ht
  go_enter Try.func26, Try.ntmps26
  go_wp2_with (go_at_call 38; refine HT.out.mono ?_; rintro e w' ⟨rfl, hrd, ho⟩)
  go_ret
  exact ⟨rfl, hrd, ho⟩

theorem u2_any {r d : Nat} {s : List UInt8 × Nat × Int} {w : World} (h : RdE w r d s) :
    Calls Try.prog 25 #[.pointer (some ⟨r, 0, none⟩)] w fun e w' => e = .returned (.int .i64 (be (rTake s 2).1 : Int)) ∧ RdE w' r d (rTake s 2).2 ∧ Only [r] w w' := by
  have hb : be (rTake s 2).1 < 256 ^ 2 := be_lt_of _ 2 (rTake_le s 2)
  have ht := rnumber_any h 2 (by decide) 2 rfl
  generalize be (rTake s 2).1 = L at *
  generalize (rTake s 2).2 = s' at *
  have HT := hid ht
  clear ht
  go_enter Try.func25, Try.ntmps25
  go_wp2_with (go_at_call 38; refine HT.out.mono ?_; rintro e w' ⟨rfl, hrd, ho⟩)
  go_ret
  exact ⟨rfl, hrd, ho⟩

end Go.Proofs.Ytmghmmkjcgopaaa