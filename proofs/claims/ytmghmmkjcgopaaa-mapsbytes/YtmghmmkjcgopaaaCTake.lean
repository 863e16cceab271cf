/-
  The contract of a reader's take: what each call answers and what it leaves in memory. No conditions beyond the receiver's own shape.
-/
import Derived.Test.YtmghmmkjcgopaaaCPlace
namespace Go.Proofs.Ytmghmmkjcgopaaa
open Go.RowKit

theorem info5 : (Try.prog.info? 5).map (fun i => (i.zero, i.size, i.bytes)) = some (some (.int .u8 0), 1, 1) := by kernel_rfl

theorem slice_hi (ao : Option Addr) (len cap m : Nat) (hm : m ≤ cap) (w : World) :
    (Instr.slice 23 (.slice ao len cap) none (some (.int .i64 (m : Int))) none).run Try.prog w = .ok (.slice ao m cap) w := by
  obtain ⟨i0, hi, hz0, hz1, hz2⟩ := info_parts info5
  simp [Instr.slice, run_underlying Try.underlying23, Instr.sliceBounds, run_sliceBound, sizeOf, typeInfo, hi, hm]
  cases ao <;> simp [Addr.add]

theorem slice_lo (ao : Option Addr) (len cap m : Nat) (hm : m ≤ len) (w : World) :
    (Instr.slice 23 (.slice ao len cap) (some (.int .i64 (m : Int))) none none).run Try.prog w = .ok (.slice (cutAt ao cap m) (len - m) (cap - m)) w := by
  obtain ⟨i0, hi, hz0, hz1, hz2⟩ := info_parts info5
  simp [Instr.slice, run_underlying Try.underlying23, Instr.sliceBounds, run_sliceBound, sizeOf, typeInfo, hi, hz1, hm, cutAt]

set_option maxHeartbeats 400000 in
theorem take_ok {r d : Nat} {ao : Option Addr} {cap : Nat} {bs : List UInt8} {n : Nat} {w : World} (h : Rd w r d ao cap bs n 0) (m : Nat) (hm : m ≤ bs.length) :
    Calls Try.prog 42 #[.pointer (some ⟨r, 0, none⟩), .int .i64 (m : Int)] w fun e w' => e = .returned (.slice ao m cap) ∧ BS w' ao (bs.take m) d ∧ Rd w' r d (cutAt ao cap m) (cap - m) (bs.drop m) (n + m) 0 ∧ Only [r] w w' := by
  have H : Hid (Rd w r d ao cap bs n 0) := h
  obtain ⟨c0, c1, c2, f0, f1, f2, _, capLe, capMax, _, fit, _⟩ := h
  have k1 := slice_hi ao bs.length cap m (by omega)
  have k2 := slice_lo ao bs.length cap m hm
  have hgt : ¬ ((bs.length : Int) < (m : Int)) := by omega
  go_enter Try.func42, Try.ntmps42
  go_wp2_with (first | (go_at_call 36; refine (fine_any r 0 _ (by assumption)).mono ?_; rintro e w' ⟨rfl, rfl⟩) | (go_at_call 46; refine (move_any r n m _ (by go_simp) (by go_simp) (by omega)).mono ?_; rintro e w' ⟨rfl, hw⟩))
  go_ret
  exact ⟨rfl, H.out.taken m hm _ hw⟩

set_option maxHeartbeats 400000 in
theorem take_cut {r d : Nat} {ao : Option Addr} {cap : Nat} {bs : List UInt8} {n : Nat} {w : World} (h : Rd w r d ao cap bs n 0) (m : Nat) (hm : bs.length < m) :
    Calls Try.prog 42 #[.pointer (some ⟨r, 0, none⟩), .int .i64 (m : Int)] w fun e w' => e = .returned (.slice none 0 0) ∧ Rd w' r d ao cap bs n 11 ∧ Only [r] w w' := by
  have H : Hid (Rd w r d ao cap bs n 0) := h
  obtain ⟨c0, c1, c2, f0, f1, f2, _, capLe, capMax, _, fit, _⟩ := h
  have hgt : ((bs.length : Int) < (m : Int)) := by omega
  go_enter Try.func42, Try.ntmps42
  go_wp2_with (first | (go_at_call 43; refine (fail_new r 11 _ (by assumption) (by assumption)).mono ?_; rintro e w' ⟨rfl, hw⟩) | (go_at_call 36; refine (fine_any r 11 _ (by rw [← hw]; exact cell_setCell_same _ _ c1)).mono ?_; rintro e w' ⟨rfl, rfl⟩))
  go_ret
  exact ⟨rfl, H.out.failed 11 _ hw⟩

set_option maxHeartbeats 400000 in
theorem take_err {r d : Nat} {ao : Option Addr} {cap : Nat} {bs : List UInt8} {n : Nat} {err : Int} {w : World} (h : Rd w r d ao cap bs n err) (he : (err == 0) = false) (m : Int) :
    Calls Try.prog 42 #[.pointer (some ⟨r, 0, none⟩), .int .i64 m] w fun e w' => e = .returned (.slice none 0 0) ∧ w = w' := by
  obtain ⟨c0, c1, c2, f0, f1, f2, _, capLe, capMax, _, fit, _⟩ := h
  by_cases hgt : ((bs.length : Int) < (m : Int))
  all_goals
    go_enter Try.func42, Try.ntmps42
    go_wp2_with (first | (go_at_call 43; refine (fail_old r 11 err _ (by assumption) (by assumption)).mono ?_; rintro e w' ⟨rfl, rfl⟩) | (go_at_call 36; refine (fine_any r err _ (by assumption)).mono ?_; rintro e w' ⟨rfl, rfl⟩))
    go_ret
    exact ⟨rfl, rfl⟩

/-- Whatever the reader: take. -/
theorem take_any {r d : Nat} {s : List UInt8 × Nat × Int} {w : World} (h : RdE w r d s) (m : Nat) :
    Calls Try.prog 42 #[.pointer (some ⟨r, 0, none⟩), .int .i64 (m : Int)] w fun e w' => ∃ ao cap, e = .returned (.slice ao (rTake s m).1.length cap) ∧ BS w' ao (rTake s m).1 d ∧ (rTake s m).1.length ≤ cap ∧ cap ≤ 9223372036854775807 ∧ (ao = none → cap = 0) ∧ RdE w' r d (rTake s m).2 ∧ Only [r] w w' := by
  obtain ⟨ao, cap, h⟩ := h
  obtain ⟨bs, n, err⟩ := s
  simp only at h
  by_cases he : err = 0
  · subst he
    by_cases hm : bs.length < m
    · have e : rTake (bs, n, 0) m = ([], bs, n, 11) := by simp [rTake, hm]
      rw [e]
      refine (take_cut h m hm).mono ?_
      rintro e w' ⟨rfl, hr, ho⟩
      exact ⟨none, 0, rfl, BS.nil _ _ _, Nat.le_refl _, by decide, fun _ => rfl, ⟨ao, cap, hr⟩, ho⟩
    · have e : rTake (bs, n, 0) m = (bs.take m, bs.drop m, n + m, 0) := by simp [rTake, hm]
      rw [e]
      refine (take_ok h m (by omega)).mono ?_
      rintro e w' ⟨rfl, hb, hr, ho⟩
      have hl : (bs.take m).length = m := by simp; omega
      have hc := h.capLe
      exact ⟨ao, cap, by rw [hl], hb, by rw [hl]; omega, h.capMax, h.capNone, ⟨_, _, hr⟩, ho⟩
  · have e : rTake (bs, n, err) m = ([], bs, n, err) := by simp [rTake, he]
    rw [e]
    refine (take_err h (by simpa using he) _).mono ?_
    rintro e w' ⟨rfl, rfl⟩
    exact ⟨none, 0, rfl, BS.nil _ _ _, Nat.le_refl _, by decide, fun _ => rfl, ⟨ao, cap, h⟩, Only.refl _ _⟩

theorem take_at {r d : Nat} {s : List UInt8 × Nat × Int} {w : World} (h : RdE w r d s) (m : Nat) (mi : Int) (hmi : mi = (m : Int)) :
    Calls Try.prog 42 #[.pointer (some ⟨r, 0, none⟩), .int .i64 mi] w fun e w' => ∃ ao cap, e = .returned (.slice ao (rTake s m).1.length cap) ∧ BS w' ao (rTake s m).1 d ∧ (rTake s m).1.length ≤ cap ∧ cap ≤ 9223372036854775807 ∧ (ao = none → cap = 0) ∧ RdE w' r d (rTake s m).2 ∧ Only [r] w w' := by
  subst hmi
  exact take_any h m

theorem slice_lo_at (ao : Option Addr) (len cap m : Nat) (mi : Int) (hmi : mi = (m : Int)) (hm : m ≤ len) (w : World) :
    (Instr.slice 23 (.slice ao len cap) (some (.int .i64 mi)) none none).run Try.prog w = .ok (.slice (cutAt ao cap m) (len - m) (cap - m)) w := by
  subst hmi
  exact slice_lo ao len cap m hm w

end Go.Proofs.Ytmghmmkjcgopaaa
