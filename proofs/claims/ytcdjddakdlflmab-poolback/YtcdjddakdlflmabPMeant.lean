/-
  The contract of meant: does the entry of a number say what a call handed in? Here it does. No conditions.
-/
import Derived.Test.YtcdjddakdlflmabPBackQ
import Derived.Test.YtcdjddakdlflmabPField
import Derived.Test.YtcdjddakdlflmabXSame
namespace Go.Proofs.Ytcdjddakdlflmab
open Go.RowKit

theorem eq_type1 (t : Ty) (w : World) : (binOp .eql 31 (tyV t) (tyV t)).run Try.prog w = .ok (.bool true) w := by
  rw [eq_type]
  simp

set_option maxHeartbeats 1000000 in
set_option maxRecDepth 100000 in
theorem meant_any {w : World} {bo : Option Addr} {l : List En} {e bap : Nat} (hE : ES w bo l e) (hl : l.length ≤ 9223372036854775807) (hA : ∀ e ∈ l, e.2.1.length ≤ 9223372036854775807) (hG : Good l) {x : Cal} (hx : CalOK w x) {i : Int} (hS : SaidIs l x i) :
    Calls Try.prog 10 #[.slice bo l.length bap, .int .i64 i, clV x] w fun r w' => r = .returned (.bool true) ∧ Only [] w w' := by
  have hv := said_vals hG hS
  have o0 := (Only.refl [] w).alloc (.cells #[.int .i64 x.k, .int .i64 x.n, .string (str x.c), .string (str x.m), .int .i64 x.t.1, .string (str x.t.2), .slice x.ao x.ps.length x.cap, .bool x.v, .int .i64 x.r.1, .string (str x.r.2)] 36)
  have C0 := calAt_new w x 36
  have X0 := hx.only o0 (by simp)
  have hE0 := hE.only o0 (by simp)
  obtain ⟨k, n, c, m, ⟨td, tn⟩, ao, cap, d, ps, v, ⟨rd, rn⟩⟩ := x
  simp only [clV] at *
  have s1 := str_toList c
  have s2 := str_toList m
  have hq := eq_type1 (td, tn)
  simp only [tyV] at hq
  have hts := hid X0.ts
  have hlp := X0.lp
  simp only at hlp
  replace C0 := hid C0
  clear hx hG hS X0 hE
  rcases hv with ⟨hk, hv⟩ | ⟨hk, hv⟩ | ⟨hk, hv⟩ | ⟨hk, hv⟩ | ⟨hk, hv⟩ | ⟨hk, hv⟩
  · subst hk
    have HB := ptext_any (cap := bap) hE0 hl hA i
    rw [hv] at HB
    replace HB := hid HB
    clear hv hE0 hA
    go_enter Try.func10, Try.ntmps10
    go_wp2_with fail
    refine HB.out.mono ?_
    rintro e w1 ⟨rfl, ho1⟩
    obtain ⟨c0, c1, c2, c3, c4, c5, c6, c7, c8, c9⟩ := C0.out.only ho1 (by simp)
    simp only [Nat.zero_add] at c0 c1 c2 c3 c4 c5 c6 c7 c8 c9
    go_wp2
    go_ret
    exact ⟨by simp, o0.next ho1 (by simp)⟩
  · subst hk
    have HB := pnumber_any (cap := bap) hE0 hl hA i
    rw [hv] at HB
    replace HB := hid HB
    clear hv hE0 hA
    go_enter Try.func10, Try.ntmps10
    go_wp2_with fail
    refine HB.out.mono ?_
    rintro e w1 ⟨rfl, ho1⟩
    obtain ⟨c0, c1, c2, c3, c4, c5, c6, c7, c8, c9⟩ := C0.out.only ho1 (by simp)
    simp only [Nat.zero_add] at c0 c1 c2 c3 c4 c5 c6 c7 c8 c9
    go_wp2
    go_ret
    exact ⟨by simp, o0.next ho1 (by simp)⟩
  · subst hk
    have HB := pclass_any (cap := bap) hE0 hl hA i
    rw [hv] at HB
    replace HB := hid HB
    clear hv hE0 hA
    go_enter Try.func10, Try.ntmps10
    go_wp2_with fail
    refine HB.out.mono ?_
    rintro e w1 ⟨rfl, ho1⟩
    obtain ⟨c0, c1, c2, c3, c4, c5, c6, c7, c8, c9⟩ := C0.out.only ho1 (by simp)
    simp only [Nat.zero_add] at c0 c1 c2 c3 c4 c5 c6 c7 c8 c9
    go_wp2
    go_ret
    exact ⟨by simp, o0.next ho1 (by simp)⟩
  · subst hk
    have HB := ptype_any (cap := bap) hE0 hl hA i
    rw [hv] at HB
    simp only [tyV] at HB
    replace HB := hid HB
    clear hv hE0 hA
    go_enter Try.func10, Try.ntmps10
    go_wp2_with fail
    refine HB.out.mono ?_
    rintro e w1 ⟨rfl, ho1⟩
    have q1 := ho1.alloc (.cells #[.int .i64 td, .string (str tn)] 31)
    obtain ⟨c0, c1, c2, c3, c4, c5, c6, c7, c8, c9⟩ := C0.out.only q1 (by simp)
    simp only [Nat.zero_add] at c0 c1 c2 c3 c4 c5 c6 c7 c8 c9
    go_wp2
    go_ret
    exact ⟨by simp, o0.next q1 (by simp)⟩
  · subst hk
    have HB := pfield_any (cap := bap) hE0 hl hA i
    rw [hv] at HB
    simp only [tyV] at HB
    replace HB := hid HB
    clear hv hE0 hA
    go_enter Try.func10, Try.ntmps10
    go_wp2_with fail
    refine HB.out.mono ?_
    rintro e w1 ⟨rfl, ho1⟩
    have q1 := ho1.alloc (.cells #[.int .i64 td, .string (str tn)] 31)
    obtain ⟨c0, c1, c2, c3, c4, c5, c6, c7, c8, c9⟩ := C0.out.only q1 (by simp)
    simp only [Nat.zero_add] at c0 c1 c2 c3 c4 c5 c6 c7 c8 c9
    go_wp2
    go_ret
    exact ⟨by simp, o0.next q1 (by simp)⟩
  · subst hk
    have HB := pmethod_any (cap := bap) hE0 hl hA i
    rw [hv] at HB
    simp only [sigV] at HB
    replace HB := hid HB
    clear hv hE0 hA
    go_enter Try.func10, Try.ntmps10
    go_wp2_with fail
    refine HB.out.mono ?_
    rintro e w1 ⟨vo, vc, rfl, hown, ho1⟩
    have q1 := ho1.alloc (.cells #[.slice vo ps.length vc, .bool v, .int .i64 rd, .string (str rn)] 34)
    obtain ⟨c0, c1, c2, c3, c4, c5, c6, c7, c8, c9⟩ := C0.out.only q1 (by simp)
    simp only [Nat.zero_add] at c0 c1 c2 c3 c4 c5 c6 c7 c8 c9
    obtain ⟨b0, b1, b2, b3, _, _, _, _⟩ := sig_new w1 (.slice vo ps.length vc) v rd rn
    have HS := rsame_any (cap := vc) (bap := cap) ((TS.of_owns hown).1.only ((Only.refl [] w1).alloc (.cells #[.slice vo ps.length vc, .bool v, .int .i64 rd, .string (str rn)] 34)) (by simp)) (hts.out.only q1 (by simp)) hlp v v (rd, rn) (rd, rn)
    rw [same_self] at HS
    simp only [sigV] at HS
    replace HS := hid HS
    clear hown HB
    go_wp2_with (go_at_call 27; with_reducible refine HS.out.mono ?_; rintro e w2 ⟨rfl, ho2⟩)
    go_ret
    exact ⟨by simp, (o0.next q1 (by simp)).next ho2 (by simp)⟩

end Go.Proofs.Ytcdjddakdlflmab
