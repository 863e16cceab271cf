/-
  The contracts of the second builder's calls. What is begun with has less than 10000 entries.
-/
import Derived.Test.YtcdjddakdlflmaaYEnd
import Derived.Test.YtcdjddakdlflmaaPBuild2
namespace Go.Proofs.Ytcdjddakdlflmaa
open Go.RowKit

/-- A store into a block that is not the builder's. -/
theorem Rb.set {w w' : World} {b : Nat} {ao : Option Addr} {cap : Nat} {l l' : List En} {R' : Option Nat} (hB : Bd w b (ao.map (·.block)) l) (h : Rb w w' b ao cap l R' l') {p : Addr} (hp : w.heap.size ≤ p.block) (hn : p.block ∉ b :: R'.toList) (u : Value) : Rb w (w'.setCell p u) b ao cap l R' l' := by
  have hb : p.block ≠ b := by simp at hn; exact hn.1
  refine ⟨h.bt.set hp hn u, ?_, ?_, h.pre⟩
  · refine owe_only (S := [p.block]) h.old ((Only.refl _ _).setCell (.inl (by simp)) _) ?_
    intro k hk
    cases ao with
    | none => cases hk
    | some a =>
      simp [Value.ownBlock] at hk
      subst hk
      have := hB.row_lt a.block rfl
      simp
      omega
  · rcases h.st with ⟨n, hn'⟩ | q
    · left
      refine ⟨n, ?_⟩
      rw [cell_setCell_ne _ _ (by intro e; exact hb (by rw [e]))]
      exact hn'
    · exact .inr q

set_option maxHeartbeats 400000 in
set_option maxRecDepth 100000 in
theorem rbtext_any {w : World} {b : Nat} {R : Option Nat} {l : List En} (hB : Bd w b R l) (hl : l.length < 10000) (s : List UInt8) (hs : s.length ≤ 9223372036854775807) :
    Calls Try.prog 37 #[.pointer (some ⟨b, 0, none⟩), .string (str s)] w fun r w' => BPost (textB l s) w b R r w' := by
  obtain ⟨ao, cap, hc, hR⟩ := hB.slice
  subst hR
  have hz := str_size s
  have hlen := putE_len l (txE s)
  have HP := rword_any hB (by omega) hc s
  have hx : textB l s = if longE s = 0 then fitE l.length (putE l (txE s)) else (l, 0, longE s) := rfl
  generalize putE l (txE s) = X at *
  obtain ⟨xl, xi⟩ := X
  simp only at *
  generalize textB l s = Y at *
  replace HP := hid HP
  replace hB := hid hB
  by_cases h : 255 < s.length
  · have g1 : (255 < (s.length : Int)) := by omega
    have e1 : Y = (l, 0, 5) := by rw [hx]; simp [longE, h]
    subst e1
    clear hx h
    go_enter Try.func37, Try.ntmps37
    go_wp2
    go_ret2
    exact ⟨rfl, _, Bt.refl hB.out⟩
  · have g1 : ¬ (255 < (s.length : Int)) := by omega
    have e1 : Y = fitE l.length (xl, xi) := by rw [hx]; simp [longE, h]
    subst e1
    clear hx h
    go_enter Try.func37, Try.ntmps37
    go_wp2_with fail
    refine HP.out.mono ?_
    rintro e w1 ⟨rfl, R1, hb1⟩
    have HE := hid (rended_any hB.out hb1 (by omega) xi)
    go_wp2_with (go_at_call 70; refine HE.out.mono ?_; rintro e w2 ⟨rfl, R2, hb2⟩)
    go_ret2
    exact ⟨rfl, R2, hb2⟩

set_option maxHeartbeats 400000 in
set_option maxRecDepth 100000 in
theorem rbnumber_any {w : World} {b : Nat} {R : Option Nat} {l : List En} (hB : Bd w b R l) (hl : l.length < 10000) (n : Int) :
    Calls Try.prog 39 #[.pointer (some ⟨b, 0, none⟩), .int .i64 n] w fun r w' => BPost (numberB l n) w b R r w' := by
  obtain ⟨ao, cap, hc, hR⟩ := hB.slice
  subst hR
  have hlen := putE_len l (2, [], n, 0, 0, 0)
  have HP := rput_any hB (by omega) hc (2, [], n, 0, 0, 0)
  have hx : numberB l n = fitE l.length (putE l (2, [], n, 0, 0, 0)) := rfl
  generalize putE l (2, [], n, 0, 0, 0) = X at *
  obtain ⟨xl, xi⟩ := X
  simp only [enV, str_nil] at *
  generalize numberB l n = Y at *
  subst hx
  replace HP := hid HP
  replace hB := hid hB
  go_enter Try.func39, Try.ntmps39
  go_wp2_with fail
  refine HP.out.mono ?_
  rintro e w1 ⟨rfl, R1, hb1⟩
  have HE := hid (rended_any hB.out hb1 (by omega) xi)
  go_wp2_with (go_at_call 70; refine HE.out.mono ?_; rintro e w2 ⟨rfl, R2, hb2⟩)
  go_ret2
  exact ⟨rfl, R2, hb2⟩

set_option maxHeartbeats 400000 in
set_option maxRecDepth 100000 in
theorem rbclass_any {w : World} {b : Nat} {R : Option Nat} {l : List En} (hB : Bd w b R l) (hl : l.length < 10000) (s : List UInt8) (hs : s.length ≤ 9223372036854775807) :
    Calls Try.prog 40 #[.pointer (some ⟨b, 0, none⟩), .string (str s)] w fun r w' => BPost (classB l s) w b R r w' := by
  obtain ⟨ao, cap, hc, hR⟩ := hB.slice
  subst hR
  have HL := rname_any s hs w
  have hlen := pClass_len l s
  have HP := rclass_any hB (by omega) hc s
  have hx : classB l s = if nameOK s = true then fitE l.length (pClass l s) else (l, 0, 14) := rfl
  generalize pClass l s = X at *
  obtain ⟨xl, xi⟩ := X
  simp only at *
  generalize classB l s = Y at *
  replace HP := hid HP
  replace hB := hid hB
  cases h : nameOK s with
  | true =>
    rw [h] at HL hx
    simp only [if_true] at hx
    subst hx
    clear h
    replace HL := hid HL
    go_enter Try.func40, Try.ntmps40
    go_wp2_with (first | (go_at_call 74; refine HL.out.mono ?_; rintro e w' ⟨rfl, rfl⟩) | fail)
    refine HP.out.mono ?_
    rintro e w1 ⟨rfl, R1, hb1⟩
    have HE := hid (rended_any hB.out hb1 (by omega) xi)
    go_wp2_with (go_at_call 70; refine HE.out.mono ?_; rintro e w2 ⟨rfl, R2, hb2⟩)
    go_ret2
    exact ⟨rfl, R2, hb2⟩
  | false =>
    rw [h] at HL hx
    simp only [Bool.false_eq_true, if_false] at hx
    subst hx
    clear h
    replace HL := hid HL
    go_enter Try.func40, Try.ntmps40
    go_wp2_with (go_at_call 74; refine HL.out.mono ?_; rintro e w' ⟨rfl, rfl⟩)
    go_ret2
    exact ⟨rfl, _, Bt.refl hB.out⟩

set_option maxHeartbeats 400000 in
set_option maxRecDepth 100000 in
theorem rbtype_any {w : World} {b : Nat} {R : Option Nat} {l : List En} (hB : Bd w b R l) (hl : l.length < 10000) (t : Ty) (ht : t.2.length ≤ 9223372036854775807) :
    Calls Try.prog 42 #[.pointer (some ⟨b, 0, none⟩), tyV t] w fun r w' => BPost (typeB l t) w b R r w' := by
  obtain ⟨ao, cap, hc, hR⟩ := hB.slice
  subst hR
  have o0 := (Only.refl [] w).alloc (.cells #[.int .i64 t.1, .string (str t.2)] 41)
  have HL := rtypeText_any t ht (w.alloc (.cells #[.int .i64 t.1, .string (str t.2)] 41))
  have hlen := putE_len l (txE (ttR t))
  have HP := fun W (hW : Only [] w W) => rword_any (hB.only hW (by simp) (by simp)) (by omega) ((hW.cell (p := ⟨b, 0, none⟩) hB.lt (by simp)).trans hc) (ttR t)
  have hcW := fun W (hW : Only [] w W) => (hW.cell (p := ⟨b, 0, none⟩) hB.lt (by simp)).trans hc
  have hx : typeB l t = if tyCheck t = 0 then fitE l.length (putE (putE l (txE (ttR t))).1 (4, [], 0, (putE l (txE (ttR t))).2, 0, 0)) else (l, 0, tyCheck t) := rfl
  have hM := fun W (hW : Only [] w W) => hB.only hW (by simp) (by simp)
  obtain ⟨td, tn⟩ := t
  simp only [tyV] at *
  generalize putE l (txE (ttR (td, tn))) = X at *
  generalize ttR (td, tn) = tx at *
  obtain ⟨xl, xi⟩ := X
  simp only at *
  generalize typeB l (td, tn) = Y at *
  generalize tyCheck (td, tn) = c at *
  have hlen2 := putE_len xl (4, [], 0, xi, 0, 0)
  replace HP := hid HP
  replace HL := hid HL
  replace hM := hid hM
  replace hcW := hid hcW
  clear hB hc
  by_cases h : c = 0
  · subst h
    simp only [if_true] at hx
    subst hx
    go_enter Try.func42, Try.ntmps42
    go_wp2_with fail
    refine HL.out.mono ?_
    rintro e w1 ⟨rfl, ho1⟩
    have o1 := o0.next ho1 (by simp)
    have hc1 := hcW.out w1 o1
    have B1 := hid (hM.out w1 o1)
    replace HP := hid (HP.out w1 o1)
    go_wp2_with fail
    refine HP.out.mono ?_
    rintro e w2 ⟨rfl, R2, hb2⟩
    obtain ⟨ao2, cap2, hc2, hR2⟩ := hb2.bt.bd.slice
    have HQ := rput_any hb2.bt.bd (by omega) hc2 (4, [], 0, xi, 0, 0)
    simp only [enV] at HQ
    replace HQ := hid HQ
    replace hb2 := hid hb2
    replace hc2 := hid hc2
    replace hR2 := hid hR2
    clear hc1
    go_wp2_with fail
    refine HQ.out.mono ?_
    rintro e w3 ⟨rfl, R3, hb3⟩
    have HE := hid (rended_any B1.out (hb2.out.trans B1.out hc2.out hR2.out hb3) (by omega) (putE xl (4, [], 0, xi, 0, 0)).2)
    go_wp2_with (go_at_call 70; refine HE.out.mono ?_; rintro e w4 ⟨rfl, R4, hb4⟩)
    go_ret2
    exact ⟨rfl, R4, Bt.first o1 hb4⟩
  · simp only [h, if_false] at hx
    have g3 : (c == 0) = false := by simpa using h
    subst hx
    clear h
    go_enter Try.func42, Try.ntmps42
    go_wp2_with (go_at_call 76; refine HL.out.mono ?_; rintro e w1 ⟨rfl, ho1⟩)
    go_ret2
    exact ⟨rfl, _, Bt.first (o0.next ho1 (by simp)) (Bt.refl (hM.out _ (o0.next ho1 (by simp))))⟩

set_option maxHeartbeats 400000 in
set_option maxRecDepth 100000 in
theorem rbfield_any {w : World} {b : Nat} {R : Option Nat} {l : List En} (hB : Bd w b R l) (hl : l.length < 10000) (c n : List UInt8) (hcl : c.length ≤ 9223372036854775807) (hnl : n.length ≤ 9223372036854775807) (t : Ty) (ht : t.2.length ≤ 9223372036854775807) :
    Calls Try.prog 43 #[.pointer (some ⟨b, 0, none⟩), .string (str c), .string (str n), tyV t] w fun r w' => BPost (fieldB l c n t) w b R r w' := by
  obtain ⟨ao, cap, hc, hR⟩ := hB.slice
  subst hR
  have o0 := (Only.refl [] w).alloc (.cells #[.int .i64 t.1, .string (str t.2)] 41)
  have HL := rtypeText_any t ht (w.alloc (.cells #[.int .i64 t.1, .string (str t.2)] 41))
  have HC := rname_any c hcl (w.alloc (.cells #[.int .i64 t.1, .string (str t.2)] 41))
  have HN := rname_any n hnl (w.alloc (.cells #[.int .i64 t.1, .string (str t.2)] 41))
  have l1 := pClass_len l c
  have l2 := pMem3_len l c n
  have l3 := pMem4_len l c n (ttR t)
  have l4 := pMember_len l 5 c n (ttR t)
  have HP := fun W (hW : Only [] w W) => rclass_any (hB.only hW (by simp) (by simp)) (by omega) ((hW.cell (p := ⟨b, 0, none⟩) hB.lt (by simp)).trans hc) c
  have hcW := fun W (hW : Only [] w W) => (hW.cell (p := ⟨b, 0, none⟩) hB.lt (by simp)).trans hc
  have e3 : pMem3 l c n = putE (pClass l c).1 (txE n) := rfl
  have e4 : pMem4 l c n (ttR t) = putE (pMem3 l c n).1 (txE (ttR t)) := rfl
  have e5 : pMember l 5 c n (ttR t) = putE (pMem4 l c n (ttR t)).1 (5, [], 0, (pClass l c).2, (pMem3 l c n).2, (pMem4 l c n (ttR t)).2) := rfl
  have hM := fun W (hW : Only [] w W) => hB.only hW (by simp) (by simp)
  have hx : fieldB l c n t = if nameOK c = true ∧ nameOK n = true then (if tyCheck t = 0 then fitE l.length (pMember l 5 c n (ttR t)) else (l, 0, tyCheck t)) else (l, 0, 14) := rfl
  obtain ⟨td, tn⟩ := t
  simp only [tyV] at *
  generalize pMember l 5 c n (ttR (td, tn)) = X5 at *
  generalize pMem4 l c n (ttR (td, tn)) = X4 at *
  generalize pMem3 l c n = X3 at *
  generalize pClass l c = X2 at *
  obtain ⟨x2, i2⟩ := X2
  obtain ⟨x3, i3⟩ := X3
  obtain ⟨x4, i4⟩ := X4
  obtain ⟨x5, i5⟩ := X5
  generalize ttR (td, tn) = tx at *
  simp only at *
  generalize fieldB l c n (td, tn) = Y at *
  generalize tyCheck (td, tn) = ch at *
  replace e3 := hid e3
  replace e4 := hid e4
  replace e5 := hid e5
  replace HP := hid HP
  replace HL := hid HL
  replace hM := hid hM
  replace hcW := hid hcW
  clear hB hc
  cases h1 : nameOK c with
  | false =>
    rw [h1] at HC hx
    simp only [Bool.false_eq_true, false_and, if_false] at hx
    subst hx
    clear h1
    replace HC := hid HC
    replace HN := hid HN
    go_enter Try.func43, Try.ntmps43
    go_wp2_with (go_at_call 74; refine HC.out.mono ?_; rintro e w' ⟨rfl, rfl⟩)
    go_ret2
    exact ⟨rfl, _, Bt.first o0 (Bt.refl (hM.out _ o0))⟩
  | true =>
    rw [h1] at HC hx
    clear h1
    cases h2 : nameOK n with
    | false =>
      rw [h2] at HN hx
      simp only [Bool.false_eq_true, and_false, if_false] at hx
      subst hx
      clear h2
      replace HC := hid HC
      replace HN := hid HN
      go_enter Try.func43, Try.ntmps43
      go_wp2_with (first | (go_at_call 74; with_reducible refine HC.out.mono ?_; rintro e w' ⟨rfl, rfl⟩) | (go_at_call 74; with_reducible refine HN.out.mono ?_; rintro e w' ⟨rfl, rfl⟩))
      go_ret2
      exact ⟨rfl, _, Bt.first o0 (Bt.refl (hM.out _ o0))⟩
    | true =>
      rw [h2] at HN hx
      simp only [and_self, if_true] at hx
      clear h2
      replace HC := hid HC
      replace HN := hid HN
      by_cases h : ch = 0
      · subst h
        simp only [if_true] at hx
        subst hx
        go_enter Try.func43, Try.ntmps43
        go_wp2_with (first | (go_at_call 74; with_reducible refine HC.out.mono ?_; rintro e w' ⟨rfl, rfl⟩) | (go_at_call 74; with_reducible refine HN.out.mono ?_; rintro e w' ⟨rfl, rfl⟩) | fail)
        refine HL.out.mono ?_
        rintro e w1 ⟨rfl, ho1⟩
        have o1 := o0.next ho1 (by simp)
        have hc1 := hcW.out w1 o1
        have B1 := hid (hM.out w1 o1)
        replace HP := hid (HP.out w1 o1)
        go_wp2_with fail
        refine HP.out.mono ?_
        rintro e w2 ⟨rfl, R2, hb2⟩
        have hbl2 := hb2.bt.bd.lt
        have hrl2 := hb2.bt.bd.row_lt
        have hs12 := hb2.bt.only.size
        have p2 := (Only.refl [] w2).alloc (.cells #[.int .i64 5, .string (str []), .int .i64 0, .int .i64 i2, .int .i64 0, .int .i64 0] 38)
        have hq2 := hb2.next p2
        have E2 := hid (enW_new w2 (5, [], 0, i2, 0, 0) 38)
        have hp2 : w2.heap.size ∉ b :: R2.toList := by
          simp
          refine ⟨by omega, fun h => ?_⟩
          have := hrl2 _ h
          omega
        obtain ⟨ao2, cap2, hc2, hR2⟩ := hq2.bt.bd.slice
        have HT := rword_any hq2.bt.bd (by omega) hc2 n
        rw [← e3.out] at HT
        replace HT := hid HT
        replace hq2 := hid hq2
        replace hc2 := hid hc2
        replace hR2 := hid hR2
        clear hc1 hb2
        go_wp2_with fail
        refine HT.out.mono ?_
        rintro e w3 ⟨rfl, R3, hb3⟩
        have hs3 := hb3.bt.only.size
        simp only [World.size_alloc] at hs3
        have k3 := hq2.out.trans B1.out hc2.out hR2.out hb3
        have E3 := hid (E2.out.only hb3.bt.only (by rw [← hR2.out]; exact hp2))
        have hp3 := hb3.bt.safe (p := w2.heap.size) (by simp) (by rw [← hR2.out]; exact hp2)
        have f4 := E3.out.f 4 (by omega)
        have y4 := E3.out.c.c4
        simp only [Nat.zero_add] at y4
        have k3' := k3.set B1.out (p := ⟨w2.heap.size, 4, none⟩) hs12 hp3 (.int .i64 i3)
        have E3' := hid (E3.out.put4 i3)
        obtain ⟨ao3, cap3, hc3, hR3⟩ := k3'.bt.bd.slice
        have HT2 := rword_any k3'.bt.bd (by omega) hc3 tx
        rw [← e4.out] at HT2
        replace HT2 := hid HT2
        replace k3' := hid k3'
        replace hc3 := hid hc3
        replace hR3 := hid hR3
        clear k3 hb3
        go_wp2_with fail
        refine HT2.out.mono ?_
        rintro e w4 ⟨rfl, R4, hb4⟩
        have hs4 := hb4.bt.only.size
        have k4 := k3'.out.trans B1.out hc3.out hR3.out hb4
        have E4 := hid (E3'.out.only hb4.bt.only (by rw [← hR3.out]; exact hp3))
        have hp4 := hb4.bt.safe (p := w2.heap.size) (by simp [World.setCell]; omega) (by rw [← hR3.out]; exact hp3)
        have f5 := E4.out.f 5 (by omega)
        clear f4 y4
        obtain ⟨y0, y1, y2, y3, y4, y5⟩ := E4.out.c
        simp only [Nat.zero_add] at y0 y1 y2 y3 y4 y5
        have k4' := k4.set B1.out (p := ⟨w2.heap.size, 5, none⟩) hs12 hp4 (.int .i64 i4)
        obtain ⟨ao4, cap4, hc4, hR4⟩ := k4'.bt.bd.slice
        have HQ := rput_any k4'.bt.bd (by omega) hc4 (5, [], 0, i2, i3, i4)
        rw [← e5.out] at HQ
        simp only [enV] at HQ
        replace HQ := hid HQ
        replace k4' := hid k4'
        replace hc4 := hid hc4
        replace hR4 := hid hR4
        clear k4 hb4
        go_wp2_with fail
        refine HQ.out.mono ?_
        rintro e w5 ⟨rfl, R5, hb5⟩
        have k5 := k4'.out.trans B1.out hc4.out hR4.out hb5
        have HE := hid (rended_any B1.out k5 (by omega) i5)
        go_wp2_with (go_at_call 70; refine HE.out.mono ?_; rintro e w6 ⟨rfl, R6, hb6⟩)
        go_ret2
        exact ⟨rfl, R6, Bt.first o1 hb6⟩
      · simp only [h, if_false] at hx
        have g3 : (ch == 0) = false := by simpa using h
        subst hx
        clear h
        go_enter Try.func43, Try.ntmps43
        go_wp2_with (first | (go_at_call 74; with_reducible refine HC.out.mono ?_; rintro e w' ⟨rfl, rfl⟩) | (go_at_call 74; with_reducible refine HN.out.mono ?_; rintro e w' ⟨rfl, rfl⟩) | fail)
        refine HL.out.mono ?_
        rintro e w1 ⟨rfl, ho1⟩
        go_wp2
        go_ret2
        exact ⟨rfl, _, Bt.first (o0.next ho1 (by simp)) (Bt.refl (hM.out _ (o0.next ho1 (by simp))))⟩

set_option maxHeartbeats 400000 in
set_option maxRecDepth 100000 in
theorem rbmethod_any {w : World} {b : Nat} {R : Option Nat} {l : List En} (hB : Bd w b R l) (hl : l.length < 10000) (c n : List UInt8) (hcl : c.length ≤ 9223372036854775807) (hnl : n.length ≤ 9223372036854775807)
    {ao0 : Option Addr} {ps : List Ty} {d0 cap0 : Nat} (hT : TS w ao0 ps d0) (hpl : ps.length ≤ 9223372036854775807) (hpA : ∀ t ∈ ps, t.2.length ≤ 9223372036854775807) (v : Bool) (t : Ty) (ht : t.2.length ≤ 9223372036854775807) :
    Calls Try.prog 45 #[.pointer (some ⟨b, 0, none⟩), .string (str c), .string (str n), sigV (.slice ao0 ps.length cap0) v t] w fun r w' => BPost (methodB l c n (ps, v, t)) w b R r w' := by
  obtain ⟨ao, cap, hc, hR⟩ := hB.slice
  subst hR
  have o0 := (Only.refl [] w).alloc (.cells #[.slice ao0 ps.length cap0, .bool v, .int .i64 t.1, .string (str t.2)] 43)
  have HL := rsigText_any (cap := cap0) (hT.only o0 (by simp)) hpl hpA v t ht
  have HC := rname_any c hcl (w.alloc (.cells #[.slice ao0 ps.length cap0, .bool v, .int .i64 t.1, .string (str t.2)] 43))
  have HN := rmethod_any n hnl (w.alloc (.cells #[.slice ao0 ps.length cap0, .bool v, .int .i64 t.1, .string (str t.2)] 43))
  have hsz := str_size (stR ps v t)
  have l1 := pClass_len l c
  have l2 := pMem3_len l c n
  have l3 := pMem4_len l c n (stR ps v t)
  have l4 := pMember_len l 6 c n (stR ps v t)
  have HP := fun W (hW : Only [] w W) => rclass_any (hB.only hW (by simp) (by simp)) (by omega) ((hW.cell (p := ⟨b, 0, none⟩) hB.lt (by simp)).trans hc) c
  have hcW := fun W (hW : Only [] w W) => (hW.cell (p := ⟨b, 0, none⟩) hB.lt (by simp)).trans hc
  have e3 : pMem3 l c n = putE (pClass l c).1 (txE n) := rfl
  have e4 : pMem4 l c n (stR ps v t) = putE (pMem3 l c n).1 (txE (stR ps v t)) := rfl
  have e5 : pMember l 6 c n (stR ps v t) = putE (pMem4 l c n (stR ps v t)).1 (6, [], 0, (pClass l c).2, (pMem3 l c n).2, (pMem4 l c n (stR ps v t)).2) := rfl
  have hM := fun W (hW : Only [] w W) => hB.only hW (by simp) (by simp)
  have hx : methodB l c n (ps, v, t) = if nameOK c = true ∧ methodOK n = true then
    (if sigCheck ps v t = 0 then (if longE (stR ps v t) = 0 then fitE l.length (pMember l 6 c n (stR ps v t)) else (l, 0, longE (stR ps v t))) else (l, 0, sigCheck ps v t))
  else (l, 0, 14) := rfl
  obtain ⟨td, tn⟩ := t
  simp only [sigV] at *
  generalize pMember l 6 c n (stR ps v (td, tn)) = X5 at *
  generalize pMem4 l c n (stR ps v (td, tn)) = X4 at *
  generalize pMem3 l c n = X3 at *
  generalize pClass l c = X2 at *
  obtain ⟨x2, i2⟩ := X2
  obtain ⟨x3, i3⟩ := X3
  obtain ⟨x4, i4⟩ := X4
  obtain ⟨x5, i5⟩ := X5
  generalize stR ps v (td, tn) = tx at *
  simp only at *
  generalize methodB l c n (ps, v, (td, tn)) = Y at *
  generalize sigCheck ps v (td, tn) = ch at *
  clear hT hpA
  replace e3 := hid e3
  replace e4 := hid e4
  replace e5 := hid e5
  replace HP := hid HP
  replace HL := hid HL
  replace hM := hid hM
  replace hcW := hid hcW
  clear hB hc
  cases h1 : nameOK c with
  | false =>
    rw [h1] at HC hx
    simp only [Bool.false_eq_true, false_and, if_false] at hx
    subst hx
    clear h1
    replace HC := hid HC
    replace HN := hid HN
    go_enter Try.func45, Try.ntmps45
    go_wp2_with (go_at_call 74; refine HC.out.mono ?_; rintro e w' ⟨rfl, rfl⟩)
    go_ret2
    exact ⟨rfl, _, Bt.first o0 (Bt.refl (hM.out _ o0))⟩
  | true =>
    rw [h1] at HC hx
    clear h1
    cases h2 : methodOK n with
    | false =>
      rw [h2] at HN hx
      simp only [Bool.false_eq_true, and_false, if_false] at hx
      subst hx
      clear h2
      replace HC := hid HC
      replace HN := hid HN
      go_enter Try.func45, Try.ntmps45
      go_wp2_with (first | (go_at_call 74; with_reducible refine HC.out.mono ?_; rintro e w' ⟨rfl, rfl⟩) | (go_at_call 78; with_reducible refine HN.out.mono ?_; rintro e w' ⟨rfl, rfl⟩))
      go_ret2
      exact ⟨rfl, _, Bt.first o0 (Bt.refl (hM.out _ o0))⟩
    | true =>
      rw [h2] at HN hx
      simp only [and_self, if_true] at hx
      clear h2
      replace HC := hid HC
      replace HN := hid HN
      by_cases h : ch = 0
      · subst h
        simp only [if_true] at hx
        by_cases hlo : 255 < tx.length
        · have g1 : (255 < (tx.length : Int)) := by omega
          have e1 : Y = (l, 0, 5) := by rw [hx]; simp [longE, hlo]
          subst e1
          clear hx hlo
          go_enter Try.func45, Try.ntmps45
          go_wp2_with (first | (go_at_call 74; with_reducible refine HC.out.mono ?_; rintro e w' ⟨rfl, rfl⟩) | (go_at_call 78; with_reducible refine HN.out.mono ?_; rintro e w' ⟨rfl, rfl⟩) | fail)
          refine HL.out.mono ?_
          rintro e w1 ⟨rfl, ho1⟩
          go_wp2
          go_ret2
          exact ⟨rfl, _, Bt.first (o0.next ho1 (by simp)) (Bt.refl (hM.out _ (o0.next ho1 (by simp))))⟩
        · have g1 : ¬ (255 < (tx.length : Int)) := by omega
          have e1 : Y = fitE l.length (x5, i5) := by rw [hx]; simp [longE, hlo]
          subst e1
          clear hx hlo
          go_enter Try.func45, Try.ntmps45
          go_wp2_with (first | (go_at_call 74; with_reducible refine HC.out.mono ?_; rintro e w' ⟨rfl, rfl⟩) | (go_at_call 78; with_reducible refine HN.out.mono ?_; rintro e w' ⟨rfl, rfl⟩) | fail)
          refine HL.out.mono ?_
          rintro e w1 ⟨rfl, ho1⟩
          have o1 := o0.next ho1 (by simp)
          have hc1 := hcW.out w1 o1
          have B1 := hid (hM.out w1 o1)
          replace HP := hid (HP.out w1 o1)
          go_wp2_with fail
          refine HP.out.mono ?_
          rintro e w2 ⟨rfl, R2, hb2⟩
          have hbl2 := hb2.bt.bd.lt
          have hrl2 := hb2.bt.bd.row_lt
          have hs12 := hb2.bt.only.size
          have p2 := (Only.refl [] w2).alloc (.cells #[.int .i64 6, .string (str []), .int .i64 0, .int .i64 i2, .int .i64 0, .int .i64 0] 38)
          have hq2 := hb2.next p2
          have E2 := hid (enW_new w2 (6, [], 0, i2, 0, 0) 38)
          have hp2 : w2.heap.size ∉ b :: R2.toList := by
            simp
            refine ⟨by omega, fun h => ?_⟩
            have := hrl2 _ h
            omega
          obtain ⟨ao2, cap2, hc2, hR2⟩ := hq2.bt.bd.slice
          have HT := rword_any hq2.bt.bd (by omega) hc2 n
          rw [← e3.out] at HT
          replace HT := hid HT
          replace hq2 := hid hq2
          replace hc2 := hid hc2
          replace hR2 := hid hR2
          clear hc1 hb2
          go_wp2_with fail
          refine HT.out.mono ?_
          rintro e w3 ⟨rfl, R3, hb3⟩
          have hs3 := hb3.bt.only.size
          simp only [World.size_alloc] at hs3
          have k3 := hq2.out.trans B1.out hc2.out hR2.out hb3
          have E3 := hid (E2.out.only hb3.bt.only (by rw [← hR2.out]; exact hp2))
          have hp3 := hb3.bt.safe (p := w2.heap.size) (by simp) (by rw [← hR2.out]; exact hp2)
          have f4 := E3.out.f 4 (by omega)
          have y4 := E3.out.c.c4
          simp only [Nat.zero_add] at y4
          have k3' := k3.set B1.out (p := ⟨w2.heap.size, 4, none⟩) hs12 hp3 (.int .i64 i3)
          have E3' := hid (E3.out.put4 i3)
          obtain ⟨ao3, cap3, hc3, hR3⟩ := k3'.bt.bd.slice
          have HT2 := rword_any k3'.bt.bd (by omega) hc3 tx
          rw [← e4.out] at HT2
          replace HT2 := hid HT2
          replace k3' := hid k3'
          replace hc3 := hid hc3
          replace hR3 := hid hR3
          clear k3 hb3
          go_wp2_with fail
          refine HT2.out.mono ?_
          rintro e w4 ⟨rfl, R4, hb4⟩
          have hs4 := hb4.bt.only.size
          have k4 := k3'.out.trans B1.out hc3.out hR3.out hb4
          have E4 := hid (E3'.out.only hb4.bt.only (by rw [← hR3.out]; exact hp3))
          have hp4 := hb4.bt.safe (p := w2.heap.size) (by simp [World.setCell]; omega) (by rw [← hR3.out]; exact hp3)
          have f5 := E4.out.f 5 (by omega)
          clear f4 y4
          obtain ⟨y0, y1, y2, y3, y4, y5⟩ := E4.out.c
          simp only [Nat.zero_add] at y0 y1 y2 y3 y4 y5
          have k4' := k4.set B1.out (p := ⟨w2.heap.size, 5, none⟩) hs12 hp4 (.int .i64 i4)
          obtain ⟨ao4, cap4, hc4, hR4⟩ := k4'.bt.bd.slice
          have HQ := rput_any k4'.bt.bd (by omega) hc4 (6, [], 0, i2, i3, i4)
          rw [← e5.out] at HQ
          simp only [enV] at HQ
          replace HQ := hid HQ
          replace k4' := hid k4'
          replace hc4 := hid hc4
          replace hR4 := hid hR4
          clear k4 hb4
          go_wp2_with fail
          refine HQ.out.mono ?_
          rintro e w5 ⟨rfl, R5, hb5⟩
          have k5 := k4'.out.trans B1.out hc4.out hR4.out hb5
          have HE := hid (rended_any B1.out k5 (by omega) i5)
          go_wp2_with (go_at_call 70; refine HE.out.mono ?_; rintro e w6 ⟨rfl, R6, hb6⟩)
          go_ret2
          exact ⟨rfl, R6, Bt.first o1 hb6⟩
      · simp only [h, if_false] at hx
        have g3 : (ch == 0) = false := by simpa using h
        subst hx
        clear h
        go_enter Try.func45, Try.ntmps45
        go_wp2_with (first | (go_at_call 74; with_reducible refine HC.out.mono ?_; rintro e w' ⟨rfl, rfl⟩) | (go_at_call 78; with_reducible refine HN.out.mono ?_; rintro e w' ⟨rfl, rfl⟩) | fail)
        refine HL.out.mono ?_
        rintro e w1 ⟨rfl, ho1⟩
        go_wp2
        go_ret2
        exact ⟨rfl, _, Bt.first (o0.next ho1 (by simp)) (Bt.refl (hM.out _ (o0.next ho1 (by simp))))⟩

end Go.Proofs.Ytcdjddakdlflmaa
