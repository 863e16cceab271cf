/-
  The contracts of the second writer's U1, U2 and Text. All that is written is at most 1.5 times 2 to the power of 47 bytes.
-/
import Derived.Test.YtmghmmkjcgopaaaCXWrite
namespace Go.Proofs.Ytmghmmkjcgopaaa
open Go.RowKit

set_option maxHeartbeats 1000000 in
theorem xuns1 {w : World} {B y g : Nat} {s : List UInt8 × Int} (h : XWE w B y g s) (v : Int) (hsz : s.1.length + 1 ≤ 211106232532992) :
    Calls Try.prog 37 #[.pointer (some ⟨y, 0, none⟩), .int .i64 v, .int .i64 1] w fun e w' => e = .returned (.tuple #[]) ∧ XTo w B y g w' (wOne 1 s v) := by
  obtain ⟨out, err⟩ := s
  simp only at hsz
  have h' := h
  obtain ⟨ao, cap, ⟨c0, c1, f0, f1, own, ne, ge⟩, _⟩ := h'
  simp only at c1 c0
  by_cases he : err = 0
  · subst he
    by_cases hbad : v < 0 ∨ (256 : Int) ^ 1 ≤ v
    · have e : wOne 1 (out, 0) v = (out, 1) := by
        unfold wOne
        rw [if_pos rfl, if_pos hbad]
      rw [e]
      clear e
      have hu : IntKind.u64.wrap v = (toU64 v : Int) := by rw [IntKind.wrap_u64]; unfold toU64; omega
      obtain ⟨g1, hx1, hg1, ho1⟩ := h.failed 1
      have HP := hid (xput_err hx1 (by simp) (toU64 v) 1)
      have HO := hid ho1
      clear ho1
      by_cases hneg : v < 0
      · clear hbad
        go_enter Try.func37, Try.ntmps37
        go_wp2_with fail
        refine HP.out.mono ?_
        rintro e w' ⟨rfl, rfl⟩
        go_wp2
        go_end0
        exact ⟨rfl, g1, hx1, hg1, HO.out⟩
      · have hbig : (256 : Int) ≤ v := hbad.resolve_left hneg
        clear hbad
        go_enter Try.func37, Try.ntmps37
        go_wp2_with fail
        refine HP.out.mono ?_
        rintro e w' ⟨rfl, rfl⟩
        go_wp2
        go_end0
        exact ⟨rfl, g1, hx1, hg1, HO.out⟩
    · have e : wOne 1 (out, 0) v = (out ++ toBE v.toNat 1, 0) := by
        unfold wOne
        rw [if_pos rfl, if_neg hbad]
      rw [e]
      clear e
      have hneg : ¬ v < 0 := fun e => hbad (.inl e)
      have hbig : ¬ (256 : Int) ≤ v := fun e => hbad (.inr e)
      obtain ⟨k, rfl⟩ := Int.eq_ofNat_of_zero_le (by omega : 0 ≤ v)
      have hk : k < 256 := by omega
      have HP := xput_ok h k (by omega) 1 (by decide) 1 rfl hsz
      rw [Int.toNat_natCast]
      have HP := hid HP
      clear hbad
      go_enter Try.func37, Try.ntmps37
      go_wp2_with fail
      refine HP.out.mono ?_
      rintro e w' ⟨rfl, hto⟩
      go_wp2
      go_end0
      exact ⟨rfl, hto⟩
  · have e : wOne 1 (out, err) v = (out, err) := by
      unfold wOne
      rw [if_neg he]
    rw [e]
    clear e
    have hu : IntKind.u64.wrap v = (toU64 v : Int) := by rw [IntKind.wrap_u64]; unfold toU64; omega
    have HP := hid (xput_err h (by simpa using he) (toU64 v) 1)
    have he' : (err == 0) = false := by simpa using he
    clear he
    go_enter Try.func37, Try.ntmps37
    go_wp2_with fail
    refine HP.out.mono ?_
    rintro e w' ⟨rfl, rfl⟩
    go_wp2
    go_end0
    exact ⟨rfl, XTo.refl h⟩

theorem xwu1_any {w : World} {B y g : Nat} {s : List UInt8 × Int} (h : XWE w B y g s) (v : Int) (hsz : s.1.length + 1 ≤ 211106232532992) :
    Calls Try.prog 22 #[.pointer (some ⟨y, 0, none⟩), .int .i64 v] w fun e w' => e = .returned (.tuple #[]) ∧ XTo w B y g w' (wOne 1 s v) := by
  have HP := hid (xuns1 h v hsz)
  go_enter Try.func22, Try.ntmps22
  go_wp2_with fail
  refine HP.out.mono ?_
  rintro e w' ⟨rfl, hto⟩
  go_wp2
  go_end0
  exact ⟨rfl, hto⟩

set_option maxHeartbeats 1000000 in
theorem xuns2 {w : World} {B y g : Nat} {s : List UInt8 × Int} (h : XWE w B y g s) (v : Int) (hsz : s.1.length + 2 ≤ 211106232532992) :
    Calls Try.prog 37 #[.pointer (some ⟨y, 0, none⟩), .int .i64 v, .int .i64 2] w fun e w' => e = .returned (.tuple #[]) ∧ XTo w B y g w' (wOne 2 s v) := by
  obtain ⟨out, err⟩ := s
  simp only at hsz
  have h' := h
  obtain ⟨ao, cap, ⟨c0, c1, f0, f1, own, ne, ge⟩, _⟩ := h'
  simp only at c1 c0
  by_cases he : err = 0
  · subst he
    by_cases hbad : v < 0 ∨ (256 : Int) ^ 2 ≤ v
    · have e : wOne 2 (out, 0) v = (out, 1) := by
        unfold wOne
        rw [if_pos rfl, if_pos hbad]
      rw [e]
      clear e
      have hu : IntKind.u64.wrap v = (toU64 v : Int) := by rw [IntKind.wrap_u64]; unfold toU64; omega
      obtain ⟨g1, hx1, hg1, ho1⟩ := h.failed 1
      have HP := hid (xput_err hx1 (by simp) (toU64 v) 2)
      have HO := hid ho1
      clear ho1
      by_cases hneg : v < 0
      · clear hbad
        go_enter Try.func37, Try.ntmps37
        go_wp2_with fail
        refine HP.out.mono ?_
        rintro e w' ⟨rfl, rfl⟩
        go_wp2
        go_end0
        exact ⟨rfl, g1, hx1, hg1, HO.out⟩
      · have hbig : (65536 : Int) ≤ v := hbad.resolve_left hneg
        clear hbad
        go_enter Try.func37, Try.ntmps37
        go_wp2_with fail
        refine HP.out.mono ?_
        rintro e w' ⟨rfl, rfl⟩
        go_wp2
        go_end0
        exact ⟨rfl, g1, hx1, hg1, HO.out⟩
    · have e : wOne 2 (out, 0) v = (out ++ toBE v.toNat 2, 0) := by
        unfold wOne
        rw [if_pos rfl, if_neg hbad]
      rw [e]
      clear e
      have hneg : ¬ v < 0 := fun e => hbad (.inl e)
      have hbig : ¬ (65536 : Int) ≤ v := fun e => hbad (.inr e)
      obtain ⟨k, rfl⟩ := Int.eq_ofNat_of_zero_le (by omega : 0 ≤ v)
      have hk : k < 65536 := by omega
      have HP := xput_ok h k (by omega) 2 (by decide) 2 rfl hsz
      rw [Int.toNat_natCast]
      have HP := hid HP
      clear hbad
      go_enter Try.func37, Try.ntmps37
      go_wp2_with fail
      refine HP.out.mono ?_
      rintro e w' ⟨rfl, hto⟩
      go_wp2
      go_end0
      exact ⟨rfl, hto⟩
  · have e : wOne 2 (out, err) v = (out, err) := by
      unfold wOne
      rw [if_neg he]
    rw [e]
    clear e
    have hu : IntKind.u64.wrap v = (toU64 v : Int) := by rw [IntKind.wrap_u64]; unfold toU64; omega
    have HP := hid (xput_err h (by simpa using he) (toU64 v) 2)
    have he' : (err == 0) = false := by simpa using he
    clear he
    go_enter Try.func37, Try.ntmps37
    go_wp2_with fail
    refine HP.out.mono ?_
    rintro e w' ⟨rfl, rfl⟩
    go_wp2
    go_end0
    exact ⟨rfl, XTo.refl h⟩

theorem xwu2_any {w : World} {B y g : Nat} {s : List UInt8 × Int} (h : XWE w B y g s) (v : Int) (hsz : s.1.length + 2 ≤ 211106232532992) :
    Calls Try.prog 21 #[.pointer (some ⟨y, 0, none⟩), .int .i64 v] w fun e w' => e = .returned (.tuple #[]) ∧ XTo w B y g w' (wOne 2 s v) := by
  have HP := hid (xuns2 h v hsz)
  go_enter Try.func21, Try.ntmps21
  go_wp2_with fail
  refine HP.out.mono ?_
  rintro e w' ⟨rfl, hto⟩
  go_wp2
  go_end0
  exact ⟨rfl, hto⟩

end Go.Proofs.Ytmghmmkjcgopaaa