/-
  The contract of a reader's number, and of U1, U2, N8, At, Left, Err. No conditions beyond the receiver's own shape and at most eight bytes.
-/
import Derived.Test.YtgnbimoebaagfabTake
namespace Go.Proofs.Ytgnbimoebaagfab
open Go.RowKit

set_option maxHeartbeats 400000 in
theorem number_any {r d : Nat} {s : List UInt8 × Nat × Int} {w : World} (h : RdE w r d s) (m : Nat) (h8 : m ≤ 8) (mi : Int) (hmi : mi = (m : Int)) :
    Calls Try.prog 31 #[.pointer (some ⟨r, 0, none⟩), .int .i64 mi] w fun e w' => e = .returned (.int .u64 (be (rTake s m).1 : Int)) ∧ RdE w' r d (rTake s m).2 ∧ Only [r] w w' := by
  subst hmi
  have hl := rTake_le s m
  have ht := take_any h m
  generalize (rTake s m).1 = L at *
  generalize (rTake s m).2 = s' at *
  have HT := hid ht
  clear ht
  go_enter Try.func31, Try.ntmps31
  go_wp2_with (go_at_call 32; refine HT.out.mono ?_; rintro e w' ⟨ao, cap, rfl, hbs, hcap, hcm, hcn, hrd, ho⟩)
  go_loop [5, 12] (fun x i => ∃ k : Nat, k ≤ L.length ∧ i = .int .i64 k ∧ x = .int .u64 (be (L.take k) : Int)) (fun _ i => L.length - (intOf i).toNat)
  case atStart => exact ⟨0, Nat.zero_le _, rfl, rfl⟩
  case round =>
    obtain ⟨k, hk, rfl, rfl⟩ := hrel
    by_cases hlt : k < L.length
    · rcases hbs with hbs | ⟨off, ha, hc⟩
      · exfalso
        rw [hbs] at hlt
        simp at hlt
      · have hck := hc k hlt
        subst ha
        clear hc
        go_wp2
        refine ⟨⟨k + 1, by omega, by go_num, ?_⟩, by simp [intOf]; omega⟩
        rw [be_take_succ L k hlt, or_shl8 _ _ (be_lt8 L k (by omega)) (L[k]).toNat_lt]
    · go_wp2
      go_ret
      exact ⟨ret_int (by rw [List.take_of_length_le (by omega)]), hrd, ho⟩

theorem at_any {r d : Nat} {s : List UInt8 × Nat × Int} {w : World} (h : RdE w r d s) :
    Calls Try.prog 23 #[.pointer (some ⟨r, 0, none⟩)] w fun e w' => e = .returned (.int .i64 (s.2.1 : Int)) ∧ w = w' := by
  obtain ⟨ao, cap, c0, c1, c2, f0, f1, f2, _, capLe, capMax, _, fit, _⟩ := h
  go_enter Try.func23, Try.ntmps23
  go_wp2
  go_ret
  exact ⟨rfl, rfl⟩

theorem err_any {r d : Nat} {s : List UInt8 × Nat × Int} {w : World} (h : RdE w r d s) :
    Calls Try.prog 24 #[.pointer (some ⟨r, 0, none⟩)] w fun e w' => e = .returned (.int .i64 s.2.2) ∧ w = w' := by
  obtain ⟨ao, cap, c0, c1, c2, f0, f1, f2, _, capLe, capMax, _, fit, _⟩ := h
  go_enter Try.func24, Try.ntmps24
  go_wp2
  go_ret
  exact ⟨rfl, rfl⟩

theorem left_any {r d : Nat} {s : List UInt8 × Nat × Int} {w : World} (h : RdE w r d s) :
    Calls Try.prog 22 #[.pointer (some ⟨r, 0, none⟩)] w fun e w' => e = .returned (.int .i64 (s.1.length : Int)) ∧ w = w' := by
  obtain ⟨ao, cap, c0, c1, c2, f0, f1, f2, _, capLe, capMax, _, fit, _⟩ := h
  go_enter Try.func22, Try.ntmps22
  go_wp2
  go_ret
  exact ⟨rfl, rfl⟩

theorem u1_any {r d : Nat} {s : List UInt8 × Nat × Int} {w : World} (h : RdE w r d s) :
    Calls Try.prog 17 #[.pointer (some ⟨r, 0, none⟩)] w fun e w' => e = .returned (.int .i64 (be (rTake s 1).1 : Int)) ∧ RdE w' r d (rTake s 1).2 ∧ Only [r] w w' := by
  have hb : be (rTake s 1).1 < 256 ^ 1 := be_lt_of _ 1 (rTake_le s 1)
  have ht := number_any h 1 (by decide) 1 rfl
  generalize be (rTake s 1).1 = L at *
  generalize (rTake s 1).2 = s' at *
  have HT := hid ht
  clear ht
  go_enter Try.func17, Try.ntmps17
  go_wp2_with (go_at_call 31; refine HT.out.mono ?_; rintro e w' ⟨rfl, hrd, ho⟩)
  go_ret
  exact ⟨rfl, hrd, ho⟩

theorem u2_any {r d : Nat} {s : List UInt8 × Nat × Int} {w : World} (h : RdE w r d s) :
    Calls Try.prog 18 #[.pointer (some ⟨r, 0, none⟩)] w fun e w' => e = .returned (.int .i64 (be (rTake s 2).1 : Int)) ∧ RdE w' r d (rTake s 2).2 ∧ Only [r] w w' := by
  have hb : be (rTake s 2).1 < 256 ^ 2 := be_lt_of _ 2 (rTake_le s 2)
  have ht := number_any h 2 (by decide) 2 rfl
  generalize be (rTake s 2).1 = L at *
  generalize (rTake s 2).2 = s' at *
  have HT := hid ht
  clear ht
  go_enter Try.func18, Try.ntmps18
  go_wp2_with (go_at_call 31; refine HT.out.mono ?_; rintro e w' ⟨rfl, hrd, ho⟩)
  go_ret
  exact ⟨rfl, hrd, ho⟩

theorem n8_any {r d : Nat} {s : List UInt8 × Nat × Int} {w : World} (h : RdE w r d s) :
    Calls Try.prog 19 #[.pointer (some ⟨r, 0, none⟩)] w fun e w' => e = .returned (.int .i64 (wrap64 (be (rTake s 8).1 : Int))) ∧ RdE w' r d (rTake s 8).2 ∧ Only [r] w w' := by
  have ht := number_any h 8 (by decide) 8 rfl
  generalize be (rTake s 8).1 = L at *
  generalize (rTake s 8).2 = s' at *
  have HT := hid ht
  clear ht
  go_enter Try.func19, Try.ntmps19
  go_wp2_with (go_at_call 31; refine HT.out.mono ?_; rintro e w' ⟨rfl, hrd, ho⟩)
  go_ret
  exact ⟨rfl, hrd, ho⟩

end Go.Proofs.Ytgnbimoebaagfab
