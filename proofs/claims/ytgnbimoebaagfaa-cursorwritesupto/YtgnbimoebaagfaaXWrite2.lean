/-
  The contracts of the second writer's U1, U2 and Text. All that is written is at most 1.5 times 2 to the power of 47 bytes.
-/
import Derived.Test.YtgnbimoebaagfaaXWrite
namespace Go.Proofs.Ytgnbimoebaagfaa
open Go.RowKit

set_option maxHeartbeats 1000000 in
theorem xuns1 {w : World} {B y g : Nat} {s : List UInt8 × Int} (h : XWE w B y g s) (v : Int) (hsz : s.1.length + 1 ≤ 211106232532992) :
    Calls Try.prog 50 #[.pointer (some ⟨y, 0, none⟩), .int .i64 v, .int .i64 1] w fun e w' => e = .returned (.tuple #[]) ∧ XTo w B y g w' (wOne 1 s v) := by
  obtain ⟨out, err⟩ := s
  simp only at hsz
  have h' := h
  obtain ⟨ao, cap, ⟨c0, c1, f0, f1, own, ne, ge⟩, _⟩ := h'
  simp only at c1 c0
  by_cases he : err = 0
  · subst he
    by_cases hbad : v < 0 ∨ (256 : Int) ^ 1 ≤ v
    · have e : wOne 1 (out, 0) v = (out, 1) := by
        unfold wOne
        rw [if_pos rfl, if_pos hbad]
      rw [e]
      clear e
      have hu : IntKind.u64.wrap v = (toU64 v : Int) := by rw [IntKind.wrap_u64]; unfold toU64; omega
      obtain ⟨g1, hx1, hg1, ho1⟩ := h.failed 1
      have HP := hid (xput_err hx1 (by simp) (toU64 v) 1)
      have HO := hid ho1
      clear ho1
      by_cases hneg : v < 0
      · clear hbad
        go_enter Try.func50, Try.ntmps50
        go_wp2_with fail
        refine HP.out.mono ?_
        rintro e w' ⟨rfl, rfl⟩
        go_wp2
        go_end0
        exact ⟨rfl, g1, hx1, hg1, HO.out⟩
      · have hbig : (256 : Int) ≤ v := hbad.resolve_left hneg
        clear hbad
        go_enter Try.func50, Try.ntmps50
        go_wp2_with fail
        refine HP.out.mono ?_
        rintro e w' ⟨rfl, rfl⟩
        go_wp2
        go_end0
        exact ⟨rfl, g1, hx1, hg1, HO.out⟩
    · have e : wOne 1 (out, 0) v = (out ++ toBE v.toNat 1, 0) := by
        unfold wOne
        rw [if_pos rfl, if_neg hbad]
      rw [e]
      clear e
      have hneg : ¬ v < 0 := fun e => hbad (.inl e)
      have hbig : ¬ (256 : Int) ≤ v := fun e => hbad (.inr e)
      obtain ⟨k, rfl⟩ := Int.eq_ofNat_of_zero_le (by omega : 0 ≤ v)
      have hk : k < 256 := by omega
      have HP := xput_ok h k (by omega) 1 (by decide) 1 rfl hsz
      rw [Int.toNat_natCast]
      have HP := hid HP
      clear hbad
      go_enter Try.func50, Try.ntmps50
      go_wp2_with fail
      refine HP.out.mono ?_
      rintro e w' ⟨rfl, hto⟩
      go_wp2
      go_end0
      exact ⟨rfl, hto⟩
  · have e : wOne 1 (out, err) v = (out, err) := by
      unfold wOne
      rw [if_neg he]
    rw [e]
    clear e
    have hu : IntKind.u64.wrap v = (toU64 v : Int) := by rw [IntKind.wrap_u64]; unfold toU64; omega
    have HP := hid (xput_err h (by simpa using he) (toU64 v) 1)
    have he' : (err == 0) = false := by simpa using he
    clear he
    go_enter Try.func50, Try.ntmps50
    go_wp2_with fail
    refine HP.out.mono ?_
    rintro e w' ⟨rfl, rfl⟩
    go_wp2
    go_end0
    exact ⟨rfl, XTo.refl h⟩

theorem xwu1_any {w : World} {B y g : Nat} {s : List UInt8 × Int} (h : XWE w B y g s) (v : Int) (hsz : s.1.length + 1 ≤ 211106232532992) :
    Calls Try.prog 36 #[.pointer (some ⟨y, 0, none⟩), .int .i64 v] w fun e w' => e = .returned (.tuple #[]) ∧ XTo w B y g w' (wOne 1 s v) := by
  have HP := hid (xuns1 h v hsz)
  go_enter Try.func36, Try.ntmps36
  go_wp2_with fail
  refine HP.out.mono ?_
  rintro e w' ⟨rfl, hto⟩
  go_wp2
  go_end0
  exact ⟨rfl, hto⟩

set_option maxHeartbeats 1000000 in
theorem xuns2 {w : World} {B y g : Nat} {s : List UInt8 × Int} (h : XWE w B y g s) (v : Int) (hsz : s.1.length + 2 ≤ 211106232532992) :
    Calls Try.prog 50 #[.pointer (some ⟨y, 0, none⟩), .int .i64 v, .int .i64 2] w fun e w' => e = .returned (.tuple #[]) ∧ XTo w B y g w' (wOne 2 s v) := by
  obtain ⟨out, err⟩ := s
  simp only at hsz
  have h' := h
  obtain ⟨ao, cap, ⟨c0, c1, f0, f1, own, ne, ge⟩, _⟩ := h'
  simp only at c1 c0
  by_cases he : err = 0
  · subst he
    by_cases hbad : v < 0 ∨ (256 : Int) ^ 2 ≤ v
    · have e : wOne 2 (out, 0) v = (out, 1) := by
        unfold wOne
        rw [if_pos rfl, if_pos hbad]
      rw [e]
      clear e
      have hu : IntKind.u64.wrap v = (toU64 v : Int) := by rw [IntKind.wrap_u64]; unfold toU64; omega
      obtain ⟨g1, hx1, hg1, ho1⟩ := h.failed 1
      have HP := hid (xput_err hx1 (by simp) (toU64 v) 2)
      have HO := hid ho1
      clear ho1
      by_cases hneg : v < 0
      · clear hbad
        go_enter Try.func50, Try.ntmps50
        go_wp2_with fail
        refine HP.out.mono ?_
        rintro e w' ⟨rfl, rfl⟩
        go_wp2
        go_end0
        exact ⟨rfl, g1, hx1, hg1, HO.out⟩
      · have hbig : (65536 : Int) ≤ v := hbad.resolve_left hneg
        clear hbad
        go_enter Try.func50, Try.ntmps50
        go_wp2_with fail
        refine HP.out.mono ?_
        rintro e w' ⟨rfl, rfl⟩
        go_wp2
        go_end0
        exact ⟨rfl, g1, hx1, hg1, HO.out⟩
    · have e : wOne 2 (out, 0) v = (out ++ toBE v.toNat 2, 0) := by
        unfold wOne
        rw [if_pos rfl, if_neg hbad]
      rw [e]
      clear e
      have hneg : ¬ v < 0 := fun e => hbad (.inl e)
      have hbig : ¬ (65536 : Int) ≤ v := fun e => hbad (.inr e)
      obtain ⟨k, rfl⟩ := Int.eq_ofNat_of_zero_le (by omega : 0 ≤ v)
      have hk : k < 65536 := by omega
      have HP := xput_ok h k (by omega) 2 (by decide) 2 rfl hsz
      rw [Int.toNat_natCast]
      have HP := hid HP
      clear hbad
      go_enter Try.func50, Try.ntmps50
      go_wp2_with fail
      refine HP.out.mono ?_
      rintro e w' ⟨rfl, hto⟩
      go_wp2
      go_end0
      exact ⟨rfl, hto⟩
  · have e : wOne 2 (out, err) v = (out, err) := by
      unfold wOne
      rw [if_neg he]
    rw [e]
    clear e
    have hu : IntKind.u64.wrap v = (toU64 v : Int) := by rw [IntKind.wrap_u64]; unfold toU64; omega
    have HP := hid (xput_err h (by simpa using he) (toU64 v) 2)
    have he' : (err == 0) = false := by simpa using he
    clear he
    go_enter Try.func50, Try.ntmps50
    go_wp2_with fail
    refine HP.out.mono ?_
    rintro e w' ⟨rfl, rfl⟩
    go_wp2
    go_end0
    exact ⟨rfl, XTo.refl h⟩

theorem xwu2_any {w : World} {B y g : Nat} {s : List UInt8 × Int} (h : XWE w B y g s) (v : Int) (hsz : s.1.length + 2 ≤ 211106232532992) :
    Calls Try.prog 37 #[.pointer (some ⟨y, 0, none⟩), .int .i64 v] w fun e w' => e = .returned (.tuple #[]) ∧ XTo w B y g w' (wOne 2 s v) := by
  have HP := hid (xuns2 h v hsz)
  go_enter Try.func37, Try.ntmps37
  go_wp2_with fail
  refine HP.out.mono ?_
  rintro e w' ⟨rfl, hto⟩
  go_wp2
  go_end0
  exact ⟨rfl, hto⟩

set_option maxHeartbeats 1000000 in
theorem xtextw_any {w : World} {B y g : Nat} {s : List UInt8 × Int} (h : XWE w B y g s) (b : ByteArray) (hb : b.size ≤ 9223372036854775807) (hsz : s.1.length + 256 ≤ 211106232532992) :
    Calls Try.prog 40 #[.pointer (some ⟨y, 0, none⟩), .string b] w fun e w' => e = .returned (.tuple #[]) ∧ XTo w B y g w' (wText1 s b) := by
  obtain ⟨out, err⟩ := s
  simp only at hsz
  have h' := h
  obtain ⟨ao, cap, ⟨c0, c1, f0, f1, own, ne, ge⟩, _⟩ := h'
  simp only at c1 c0
  have kc := fun w => Lib.run_convert_string_bytes (P := Try.prog) w 9 22 5 b Try.underlying9 Try.underlying22 Try.underlying5
  have hl4 : b.data.toList.length = b.size := rfl
  -- from a state in which the length was put: the bytes
  have tail : ∀ (w1 : World) (g1 : Nat) (t : List UInt8 × Int), XWE w1 B y g1 t → (t.1.length + b.size ≤ 211106232532992 ∨ t.2 ≠ 0) → Calls Try.prog 39 #[.pointer (some ⟨y, 0, none⟩), .slice (some ⟨w1.heap.size, 0, none⟩) b.size (grownCap w1 b.size 0 5)] (Lib.bytesWorld w1 5 b) fun e w' => e = .returned (.tuple #[]) ∧ XTo w1 B y g1 w' (wPut t b.data.toList) := by
    intro w1 g1 t ht hs
    obtain ⟨ob, hbs⟩ := bytes_world w1 b
    have ht' := ht.only ob (by simp) (by simp)
    rcases hs with hs | hs
    · have q := xbytesw_any ht' hbs (lcap := grownCap w1 b.size 0 5) (by simp) (by rw [hl4]; exact hs)
      rw [hl4] at q
      refine q.mono ?_
      rintro e w' ⟨rfl, hto⟩
      exact ⟨rfl, xto_trans (ob.mono (by simp)) (.inl rfl) hto⟩
    · have q := xbytesw_err ht' hs (lao := some ⟨w1.heap.size, 0, none⟩) (n := b.size) (lcap := grownCap w1 b.size 0 5)
      refine q.mono ?_
      rintro e w' ⟨rfl, rfl⟩
      have e : wPut t b.data.toList = t := by simp [wPut, hs]
      rw [e]
      exact ⟨rfl, xto_trans (ob.mono (by simp)) (.inl rfl) (XTo.refl ht')⟩
  have HT := hid tail
  clear tail hl4
  by_cases he : err = 0
  · subst he
    by_cases hbad : 255 < b.size
    · have e : wText1 (out, 0) b = (out, 5) := by
        unfold wText1
        rw [if_pos rfl, if_pos hbad]
      rw [e]
      clear e
      have hbig : (255 : Int) < (b.size : Int) := by omega
      obtain ⟨g1, hx1, hg1, ho1⟩ := h.failed 5
      have HP := hid (xput_err hx1 (by simp) b.size 1)
      have HQ := HT.out _ g1 _ hx1 (.inr (by simp))
      have e2 : wPut (out, 5) b.data.toList = (out, 5) := by simp [wPut]
      rw [e2] at HQ
      have e3 : (w.setCell ⟨y, 1, none⟩ (.int .i64 5)).heap.size = w.heap.size := by simp [World.setCell]
      rw [e3] at HQ
      have HQ := hid HQ
      have HO := hid ho1
      clear ho1 hbad e2 e3
      go_enter Try.func40, Try.ntmps40
      go_wp2_with fail
      refine HP.out.mono ?_
      rintro e w' ⟨rfl, rfl⟩
      go_wp2_with fail
      refine HQ.out.mono ?_
      rintro e w' ⟨rfl, hto⟩
      go_wp2
      go_end0
      exact ⟨rfl, xto_trans HO.out hg1 hto⟩
    · have e : wText1 (out, 0) b = wPut (wPut (out, 0) [UInt8.ofNat b.size]) b.data.toList := wText1_ok (out, 0) b hbad
      rw [e]
      clear e
      have hsm : ¬ (255 : Int) < (b.size : Int) := by omega
      have HP := xput_any h b.size (by omega) 1 (by decide) 1 rfl (by show out.length + 1 ≤ _; omega)
      have e1 : toBE b.size 1 = [UInt8.ofNat b.size] := by simp [toBE]
      have hlw := wPut_len (out, 0) [UInt8.ofNat b.size]
      rw [e1] at HP
      have HP := hid HP
      clear e1
      go_enter Try.func40, Try.ntmps40
      go_wp2_with fail
      refine HP.out.mono ?_
      rintro e w1 ⟨rfl, g1, hx1, hg1, ho1⟩
      have HQ := hid (HT.out w1 g1 _ hx1 (.inl (by simp only [List.length_singleton] at hlw; omega)))
      go_wp2_with fail
      refine HQ.out.mono ?_
      rintro e w' ⟨rfl, hto⟩
      go_wp2
      go_end0
      exact ⟨rfl, xto_trans ho1 hg1 hto⟩
  · have e : wText1 (out, err) b = (out, err) := by
      unfold wText1
      rw [if_neg he]
    rw [e]
    clear e
    have HP := hid (xput_err h (by simpa using he) (b.size % 18446744073709551616) 1)
    have HQ := HT.out w g _ h (.inr he)
    have e2 : wPut (out, err) b.data.toList = (out, err) := by simp [wPut, he]
    rw [e2] at HQ
    have HQ := hid HQ
    have he' : (err == 0) = false := by simpa using he
    have hu : IntKind.u64.wrap (b.size : Int) = ((b.size % 18446744073709551616 : Nat) : Int) := by rw [IntKind.wrap_u64]; omega
    clear he e2
    have e5 : b.size % 18446744073709551616 = b.size := by omega
    rw [e5] at HP
    clear hu e5
    go_enter Try.func40, Try.ntmps40
    go_wp2_with fail
    refine HP.out.mono ?_
    rintro e w' ⟨rfl, rfl⟩
    go_wp2_with fail
    refine HQ.out.mono ?_
    rintro e w' ⟨rfl, hto⟩
    go_wp2
    go_end0
    exact ⟨rfl, hto⟩

end Go.Proofs.Ytgnbimoebaagfaa
