/-
  The contracts of a builder's Type, Field, Method. What is begun with has less than 10000 entries.
-/
import Derived.Test.YtcdjddakdlflmabPBuild
namespace Go.Proofs.Ytcdjddakdlflmab
open Go.RowKit

theorem sigText_len {l : List Ty} {void : Bool} {t : Ty} (h : sigCheck l void t = 0) : (sigText l void t).length ≤ 1000 := by
  obtain ⟨h1, h2, h3, _⟩ := sigCheck_ok h
  have k1 := fits_len l fun x hx => check_fit (h2 x hx)
  have k2 := fit_len (check_fit h3)
  unfold sigText
  cases void <;> simp <;> omega

set_option maxHeartbeats 400000 in
set_option maxRecDepth 100000 in
theorem btype_any {w : World} {b : Nat} {R : Option Nat} {l : List En} (hB : Bd w b R l) (hl : l.length < 10000) (t : Ty) (ht : t.2.length ≤ 9223372036854775807) :
    Calls Try.prog 17 #[.pointer (some ⟨b, 0, none⟩), tyV t] w fun r w' => BPost (typeB l t) w b R r w' := by
  have o0 := (Only.refl [] w).alloc (.cells #[.int .i64 t.1, .string (str t.2)] 31)
  have HL := typeText_any t ht (w.alloc (.cells #[.int .i64 t.1, .string (str t.2)] 31))
  have hlen := putE_len l (txE (ttR t))
  have HP := fun W (hW : Only [] w W) => putText_any (hB.only hW (by simp) (by simp)) (by omega) (ttR t)
  have hx : typeB l t = if tyCheck t = 0 then fitE l.length (putE (putE l (txE (ttR t))).1 (4, [], 0, (putE l (txE (ttR t))).2, 0, 0)) else (l, 0, tyCheck t) := rfl
  have hM := fun W (hW : Only [] w W) => hB.only hW (by simp) (by simp)
  obtain ⟨td, tn⟩ := t
  simp only [tyV] at *
  generalize putE l (txE (ttR (td, tn))) = X at *
  generalize ttR (td, tn) = tx at *
  obtain ⟨xl, xi⟩ := X
  simp only at *
  generalize typeB l (td, tn) = Y at *
  generalize tyCheck (td, tn) = c at *
  have hlen2 := putE_len xl (4, [], 0, xi, 0, 0)
  replace HP := hid HP
  replace HL := hid HL
  replace hM := hid hM
  clear hB
  by_cases h : c = 0
  · subst h
    simp only [if_true] at hx
    subst hx
    go_enter Try.func17, Try.ntmps17
    go_wp2_with fail
    refine HL.out.mono ?_
    rintro e w1 ⟨rfl, ho1⟩
    have o1 := o0.next ho1 (by simp)
    obtain ⟨ao, cap, hc, _, _⟩ := (hM.out w1 o1).ex
    replace HP := hid (HP.out w1.drew o1.drew)
    go_wp2_with fail
    go_region_with (first | (go_at_call 34; with_reducible refine HP.out.mono ?_; rintro e w2 ⟨rfl, R2, hb2⟩; have HQ := put_any hb2.bd (by omega) (4, [], 0, xi, 0, 0); simp only [enV, str_nil] at HQ; replace HQ := hid HQ) | (go_at_call 35; with_reducible refine HQ.out.mono ?_; rintro e w3 ⟨rfl, R3, hb3⟩; have HF := hid (fit_any hb3.bd l.length (by omega) (by omega) (putE xl (4, [], 0, xi, 0, 0)).2)) | (go_at_call 29; with_reducible refine HF.out.mono ?_; rintro e w4 ⟨rfl, R4, hb4⟩))
    all_goals
      go_wp2
      go_ret2
      exact ⟨rfl, R4, Bt.first o1.drew (hb2.trans (hb3.trans hb4))⟩
  · simp only [h, if_false] at hx
    have g3 : (c == 0) = false := by simpa using h
    subst hx
    clear h
    go_enter Try.func17, Try.ntmps17
    go_wp2_with (go_at_call 31; refine HL.out.mono ?_; rintro e w1 ⟨rfl, ho1⟩)
    go_ret2
    exact ⟨rfl, R, Bt.first (o0.next ho1 (by simp)) (Bt.refl (hM.out _ (o0.next ho1 (by simp))))⟩

set_option maxHeartbeats 400000 in
set_option maxRecDepth 100000 in
theorem bfield_any {w : World} {b : Nat} {R : Option Nat} {l : List En} (hB : Bd w b R l) (hl : l.length < 10000) (c n : List UInt8) (hcl : c.length ≤ 9223372036854775807) (hnl : n.length ≤ 9223372036854775807) (t : Ty) (ht : t.2.length ≤ 9223372036854775807) :
    Calls Try.prog 13 #[.pointer (some ⟨b, 0, none⟩), .string (str c), .string (str n), tyV t] w fun r w' => BPost (fieldB l c n t) w b R r w' := by
  have o0 := (Only.refl [] w).alloc (.cells #[.int .i64 t.1, .string (str t.2)] 31)
  have T0 := tyAt_new' w t.1 t.2
  have HL := typeText_any t ht (w.alloc (.cells #[.int .i64 t.1, .string (str t.2)] 31))
  have HC := name_any c hcl (w.alloc (.cells #[.int .i64 t.1, .string (str t.2)] 31))
  have HN := name_any n hnl (w.alloc (.cells #[.int .i64 t.1, .string (str t.2)] 31))
  have hlen := pMember_len l 5 c n (ttR t)
  have HP := fun W (hW : Only [] w W) => putMember_any (hB.only hW (by simp) (by simp)) (by omega) 5 c n (ttR t)
  have hx : fieldB l c n t = if nameOK c = true ∧ nameOK n = true then (if tyCheck t = 0 then fitE l.length (pMember l 5 c n (ttR t)) else (l, 0, tyCheck t)) else (l, 0, 14) := rfl
  have hM := fun W (hW : Only [] w W) => hB.only hW (by simp) (by simp)
  obtain ⟨td, tn⟩ := t
  simp only [tyV] at *
  generalize pMember l 5 c n (ttR (td, tn)) = X at *
  generalize ttR (td, tn) = tx at *
  obtain ⟨xl, xi⟩ := X
  simp only at *
  generalize fieldB l c n (td, tn) = Y at *
  generalize tyCheck (td, tn) = ch at *
  replace HP := hid HP
  replace HL := hid HL
  replace hM := hid hM
  replace T0 := hid T0
  clear hB
  cases h1 : nameOK c with
  | false =>
    rw [h1] at HC hx
    simp only [Bool.false_eq_true, false_and, if_false] at hx
    subst hx
    clear h1
    replace HC := hid HC
    replace HN := hid HN
    go_enter Try.func13, Try.ntmps13
    go_wp2_with (go_at_call 28; refine HC.out.mono ?_; rintro e w' ⟨rfl, rfl⟩)
    go_ret2
    exact ⟨rfl, R, Bt.first o0 (Bt.refl (hM.out _ o0))⟩
  | true =>
    rw [h1] at HC hx
    clear h1
    cases h2 : nameOK n with
    | false =>
      rw [h2] at HN hx
      simp only [Bool.false_eq_true, and_false, if_false] at hx
      subst hx
      clear h2
      replace HC := hid HC
      replace HN := hid HN
      go_enter Try.func13, Try.ntmps13
      go_wp2_with (first | (go_at_call 28; with_reducible refine HC.out.mono ?_; rintro e w' ⟨rfl, rfl⟩) | (go_at_call 28; with_reducible refine HN.out.mono ?_; rintro e w' ⟨rfl, rfl⟩))
      go_ret2
      exact ⟨rfl, R, Bt.first o0 (Bt.refl (hM.out _ o0))⟩
    | true =>
      rw [h2] at HN hx
      simp only [and_self, if_true] at hx
      clear h2
      replace HC := hid HC
      replace HN := hid HN
      by_cases h : ch = 0
      · subst h
        simp only [if_true] at hx
        subst hx
        go_enter Try.func13, Try.ntmps13
        go_wp2_with (first | (go_at_call 28; with_reducible refine HC.out.mono ?_; rintro e w' ⟨rfl, rfl⟩) | (go_at_call 28; with_reducible refine HN.out.mono ?_; rintro e w' ⟨rfl, rfl⟩) | fail)
        refine HL.out.mono ?_
        rintro e w1 ⟨rfl, ho1⟩
        have o1 := o0.next ho1 (by simp)
        obtain ⟨ao, cap, hc, _, _⟩ := (hM.out w1 o1).ex
        replace HP := hid (HP.out w1.drew o1.drew)
        go_wp2_with fail
        go_region_with (first | (go_at_call 32; with_reducible refine HP.out.mono ?_; rintro e w2 ⟨rfl, R2, hb2⟩; have HF := hid (fit_any hb2.bd l.length (by omega) (by omega) xi)) | (go_at_call 29; with_reducible refine HF.out.mono ?_; rintro e w3 ⟨rfl, R3, hb3⟩))
        all_goals
          go_wp2
          go_ret2
          exact ⟨rfl, R3, Bt.first o1.drew (hb2.trans hb3)⟩
      · simp only [h, if_false] at hx
        have g3 : (ch == 0) = false := by simpa using h
        subst hx
        clear h
        go_enter Try.func13, Try.ntmps13
        go_wp2_with (first | (go_at_call 28; with_reducible refine HC.out.mono ?_; rintro e w' ⟨rfl, rfl⟩) | (go_at_call 28; with_reducible refine HN.out.mono ?_; rintro e w' ⟨rfl, rfl⟩) | fail)
        refine HL.out.mono ?_
        rintro e w1 ⟨rfl, ho1⟩
        go_wp2
        go_ret2
        exact ⟨rfl, R, Bt.first (o0.next ho1 (by simp)) (Bt.refl (hM.out _ (o0.next ho1 (by simp))))⟩

set_option maxHeartbeats 400000 in
set_option maxRecDepth 100000 in
theorem bmethod_any {w : World} {b : Nat} {R : Option Nat} {l : List En} (hB : Bd w b R l) (hl : l.length < 10000) (c n : List UInt8) (hcl : c.length ≤ 9223372036854775807) (hnl : n.length ≤ 9223372036854775807)
    {ao0 : Option Addr} {ps : List Ty} {d0 cap0 : Nat} (hT : TS w ao0 ps d0) (hpl : ps.length ≤ 9223372036854775807) (hpA : ∀ t ∈ ps, t.2.length ≤ 9223372036854775807) (v : Bool) (t : Ty) (ht : t.2.length ≤ 9223372036854775807) :
    Calls Try.prog 18 #[.pointer (some ⟨b, 0, none⟩), .string (str c), .string (str n), sigV (.slice ao0 ps.length cap0) v t] w fun r w' => BPost (methodB l c n (ps, v, t)) w b R r w' := by
  have o0 := (Only.refl [] w).alloc (.cells #[.slice ao0 ps.length cap0, .bool v, .int .i64 t.1, .string (str t.2)] 34)
  have HL := sigText_any (cap := cap0) (hT.only o0 (by simp)) hpl hpA v t ht
  have HC := name_any c hcl (w.alloc (.cells #[.slice ao0 ps.length cap0, .bool v, .int .i64 t.1, .string (str t.2)] 34))
  have HN := method_any n hnl (w.alloc (.cells #[.slice ao0 ps.length cap0, .bool v, .int .i64 t.1, .string (str t.2)] 34))
  have hlen := pMember_len l 6 c n (stR ps v t)
  have HP := fun W (hW : Only [] w W) => putMember_any (hB.only hW (by simp) (by simp)) (by omega) 6 c n (stR ps v t)
  have hsl : (stR ps v t).length ≤ 9223372036854775807 := by
    unfold stR
    split
    · rename_i h
      have := sigText_len h
      omega
    · simp
  have HTL := fun W => tooLong_any (stR ps v t) hsl W
  have hx : methodB l c n (ps, v, t) = if nameOK c = true ∧ methodOK n = true then
    (if sigCheck ps v t = 0 then (if longE (stR ps v t) = 0 then fitE l.length (pMember l 6 c n (stR ps v t)) else (l, 0, longE (stR ps v t))) else (l, 0, sigCheck ps v t))
  else (l, 0, 14) := rfl
  have hM := fun W (hW : Only [] w W) => hB.only hW (by simp) (by simp)
  obtain ⟨td, tn⟩ := t
  simp only [sigV] at *
  generalize pMember l 6 c n (stR ps v (td, tn)) = X at *
  generalize longE (stR ps v (td, tn)) = lo at *
  generalize stR ps v (td, tn) = tx at *
  obtain ⟨xl, xi⟩ := X
  simp only at *
  generalize methodB l c n (ps, v, (td, tn)) = Y at *
  generalize sigCheck ps v (td, tn) = ch at *
  replace HP := hid HP
  replace HL := hid HL
  replace hM := hid hM
  replace HTL := hid HTL
  clear hB hT hpA
  cases h1 : nameOK c with
  | false =>
    rw [h1] at HC hx
    simp only [Bool.false_eq_true, false_and, if_false] at hx
    subst hx
    clear h1
    replace HC := hid HC
    replace HN := hid HN
    go_enter Try.func18, Try.ntmps18
    go_wp2_with (go_at_call 28; refine HC.out.mono ?_; rintro e w' ⟨rfl, rfl⟩)
    go_ret2
    exact ⟨rfl, R, Bt.first o0 (Bt.refl (hM.out _ o0))⟩
  | true =>
    rw [h1] at HC hx
    clear h1
    cases h2 : methodOK n with
    | false =>
      rw [h2] at HN hx
      simp only [Bool.false_eq_true, and_false, if_false] at hx
      subst hx
      clear h2
      replace HC := hid HC
      replace HN := hid HN
      go_enter Try.func18, Try.ntmps18
      go_wp2_with (first | (go_at_call 28; with_reducible refine HC.out.mono ?_; rintro e w' ⟨rfl, rfl⟩) | (go_at_call 36; with_reducible refine HN.out.mono ?_; rintro e w' ⟨rfl, rfl⟩))
      go_ret2
      exact ⟨rfl, R, Bt.first o0 (Bt.refl (hM.out _ o0))⟩
    | true =>
      rw [h2] at HN hx
      simp only [and_self, if_true] at hx
      clear h2
      replace HC := hid HC
      replace HN := hid HN
      by_cases h : ch = 0
      · subst h
        simp only [if_true] at hx
        by_cases hlo : lo = 0
        · subst hlo
          simp only [if_true] at hx
          subst hx
          go_enter Try.func18, Try.ntmps18
          go_wp2_with (first | (go_at_call 28; with_reducible refine HC.out.mono ?_; rintro e w' ⟨rfl, rfl⟩) | (go_at_call 36; with_reducible refine HN.out.mono ?_; rintro e w' ⟨rfl, rfl⟩) | fail)
          refine HL.out.mono ?_
          rintro e w1 ⟨rfl, ho1⟩
          have o1 := o0.next ho1 (by simp)
          obtain ⟨ao, cap, hc, _, _⟩ := (hM.out w1 o1).ex
          replace HP := hid (HP.out w1.drew o1.drew)
          go_wp2_with (first | (go_at_call 33; refine (HTL.out _).mono ?_; rintro e w' ⟨rfl, rfl⟩) | fail)
          go_region_with (first | (go_at_call 32; with_reducible refine HP.out.mono ?_; rintro e w2 ⟨rfl, R2, hb2⟩; have HF := hid (fit_any hb2.bd l.length (by omega) (by omega) xi)) | (go_at_call 29; with_reducible refine HF.out.mono ?_; rintro e w3 ⟨rfl, R3, hb3⟩))
          all_goals
            go_wp2
            go_ret2
            exact ⟨rfl, R3, Bt.first o1.drew (hb2.trans hb3)⟩
        · simp only [hlo, if_false] at hx
          have g3 : (lo == 0) = false := by simpa using hlo
          subst hx
          clear hlo
          go_enter Try.func18, Try.ntmps18
          go_wp2_with (first | (go_at_call 28; with_reducible refine HC.out.mono ?_; rintro e w' ⟨rfl, rfl⟩) | (go_at_call 36; with_reducible refine HN.out.mono ?_; rintro e w' ⟨rfl, rfl⟩) | fail)
          refine HL.out.mono ?_
          rintro e w1 ⟨rfl, ho1⟩
          go_wp2_with (go_at_call 33; refine (HTL.out _).mono ?_; rintro e w' ⟨rfl, rfl⟩)
          go_ret2
          exact ⟨rfl, R, Bt.first (o0.next ho1 (by simp)) (Bt.refl (hM.out _ (o0.next ho1 (by simp))))⟩
      · simp only [h, if_false] at hx
        have g3 : (ch == 0) = false := by simpa using h
        subst hx
        clear h
        go_enter Try.func18, Try.ntmps18
        go_wp2_with (first | (go_at_call 28; with_reducible refine HC.out.mono ?_; rintro e w' ⟨rfl, rfl⟩) | (go_at_call 36; with_reducible refine HN.out.mono ?_; rintro e w' ⟨rfl, rfl⟩) | fail)
        refine HL.out.mono ?_
        rintro e w1 ⟨rfl, ho1⟩
        go_wp2
        go_ret2
        exact ⟨rfl, R, Bt.first (o0.next ho1 (by simp)) (Bt.refl (hM.out _ (o0.next ho1 (by simp))))⟩

end Go.Proofs.Ytcdjddakdlflmab
