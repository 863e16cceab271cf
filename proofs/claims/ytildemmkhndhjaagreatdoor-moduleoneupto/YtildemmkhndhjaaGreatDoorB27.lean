/-
  What the proof leans on, part 27 of 28. The conditions stand in each theorem.
-/
import Derived.Test.YtildemmkhndhjaaGreatDoorB26
import Derived.Test.YtildemmkhndhjaaGreatDoorB22
import Derived.Test.YtildemmkhndhjaaGreatDoorB18
import Derived.Deep.RegionHeld3
import Derived.Test.YtildemmkhndhjaaGreatDoorB20
import Derived.Test.YtildemmkhndhjaaGreatDoorB21
import Derived.Test.YtildemmkhndhjaaGreatDoorB01
import Derived.Test.YtildemmkhndhjaaGreatDoorB09
namespace Go.Proofs.YtildemmkhndhjaaGreatDoor
open Go.RowKit

set_option maxHeartbeats 8000000 in
theorem rmodule_any {w : World} {sb r d : Nat} {t : St} (h : Sc w sb r d t) :
  Calls Tryz.prog 32 #[.pointer (some ⟨sb, 0, none⟩)] w fun e w' => ∃ (m : Mo) (t' : St) (vp vc : Value), e = .returned (.agg #[vp, vc]) ∧ AllFit EnFit m.pool ∧ MoFit m ∧ MoAt (OwR w' (w.heap.size + 1) fun _ => True) vp vc m ∧ Sc w' sb r d t' ∧ Out pModule t m t' ∧ Only [sb, r] w w' := by
 have o0 := hid ((Only.refl [sb, r] w).alloc (.cells #[.slice none 0 0, .slice none 0 0] 32))
 have h0 := h.al (.cells #[.slice none 0 0, .slice none 0 0] 32)
 have hl := h.lt
 clear h
 have R0 := hid (mo2_new w (.slice none 0 0) (.slice none 0 0) 32)
 obtain ⟨W, hW⟩ : ∃ W, W = (w.alloc (.cells #[.slice none 0 0, .slice none 0 0] 32)) := ⟨_, rfl⟩
 have hWs : W.heap.size = w.heap.size + 1 := by rw [hW]; simp
 rw [← hW] at R0 h0 o0
 replace hW := hid hW
 replace hWs := hid hWs
 have c0 := h0.c0
 have HB := hid (sc_bytes h0 4)
 go_enter Tryz.func32, Tryz.ntmps32
 go_upto_region 1 with fail
 rw [← hW.out]
 go_wp2_with fail
 refine HB.out.mono ?_
 rintro e w1 ⟨x, t1, ao, cap, rfl, hx, hown, hs1, hO1, ho1⟩
 have kc := (RS.of_owns hown).1.conv cap
 clear hown HB
 replace hO1 := hid hO1
 have HR := hid (refuse_src hs1 0 13 (by decide))
 have c1 := hs1.c0
 replace hs1 := hid hs1
 have oW := hid (ho1.mono (S' := [sb, r]) (by simp))
 clear ho1
 go_upto_if 10 with fail
 have hc : ((str x).toList == [75, 69, 89, 49]) = decide (x = magicL) := by
  rw [str_toList]
  by_cases e : x = magicL
  ·rw [e]
   rfl
  ·rw [decide_eq_false e]
   exact beq_eq_false_iff_ne.2 e
 rw [hc]
 generalize hb : decide (x = magicL) = b
 replace hb := hid hb
 clear hc kc
 go_cut [] (fun wx => ∃ t2, Sc wx sb r d t2 ∧ Out pMagic t () t2 ∧ Only [sb, r] W wx)
 case first =>
  cases b with
  | true =>
   go_wp2_with fail
   go_meet
   exact ⟨t1, hs1.out, out_magic1 hO1.out (of_decide_eq_true hb.out), oW.out⟩
  | false =>
   go_wp2_with fail
   refine HR.out.mono ?_
   rintro e w2 ⟨rfl, hs2, ho2⟩
   go_wp2_with fail
   go_meet
   exact ⟨_, hs2, out_magic2 hO1.out (of_decide_eq_false hb.out), oW.out.trans ho2 (by simp)⟩
 case rest =>
  obtain ⟨t2, hS2, hO2, oc⟩ := hcut
  clear HR hs1 oW hb c1 hO1
  have hB : Hid (sb < wc.heap.size ∧ r < wc.heap.size) := ⟨hS2.lt.1, hS2.lt.2.1⟩
  have hk : Hid (wc.cell? ⟨sb, 0, none⟩ = some (.pointer (some ⟨r, 0, none⟩)) ∧ Only [sb, r] wc wc) := ⟨hS2.c0, Only.refl _ _⟩
  have hS0 := hid hS2
  have hR := hid (R0.out.only oc (by simp; omega))
  have oW := hid (o0.out.trans oc (by simp))
  have hws := hid oc.size
  replace hO2 := hid hO2
  clear hS2 oc R0 o0 h0 c0
  go_upto_region 3 with fail
  go_cut [3] (fun s3 wx => Ocut wc sb r d t2 s3 wx)
  case first =>
   refine wp_region_held_drew (S := (fun w' => w'.cell? ⟨sb, 0, none⟩ = some (.pointer (some ⟨r, 0, none⟩)) ∧ Only [sb, r] wc w')) (by kernel_rfl) ?hSb (fun hHeld => ?restb)
   case hSb => exact kdrew0 hk.out
   refine wpAnyH_take (i := 0) (v := ?v0x1) rfl (by kernel_rfl) (by kernel_rfl) (by kernel_rfl) (fun _ _ _ h => h) (Or.inl ⟨by kernel_rfl, ?hy0x1⟩) (by assumption) ?rest0x1
   case hy0x1 =>
    intro w hSw
    try dsimp only at hSw
    go_simp
    try with_reducible rfl
   refine wpAnyH_take (i := 1) (v := ?v1x2) rfl (by kernel_rfl) (by kernel_rfl) (by kernel_rfl) (fun _ _ _ h => h) (Or.inl ⟨by kernel_rfl, ?hy1x2⟩) (by assumption) ?rest1x2
   case hy1x2 =>
    intro w hSw
    try dsimp only at hSw
    go_simp
    try with_reducible rfl
   refine wpAnyH_take (i := 2) (v := ?v2x3) rfl (by kernel_rfl) (by kernel_rfl) (by kernel_rfl) (fun _ _ _ h => h) (Or.inl ⟨by kernel_rfl, ?hy2x3⟩) (by assumption) ?rest2x3
   case hy2x3 =>
    intro w hSw
    try dsimp only at hSw
    go_simp
    try with_reducible rfl
   refine wpAnyH_take (i := 3) (v := ?v3x4) rfl (by kernel_rfl) (by kernel_rfl) (by kernel_rfl) (fun _ _ _ h => h) (Or.inl ⟨by kernel_rfl, ?hy3x4⟩) (by assumption) ?rest3x4
   case hy3x4 =>
    intro w hSw
    try dsimp only at hSw
    go_simp
    try with_reducible rfl
   refine wpAnyH_take (i := 4) (v := ?v4x5) rfl (by kernel_rfl) (by kernel_rfl) (by kernel_rfl) (fun _ _ _ h => h) (Or.inl ⟨by kernel_rfl, ?hy4x5⟩) (by assumption) ?rest4x5
   case hy4x5 =>
    intro w hSw
    try dsimp only at hSw
    go_simp
    try with_reducible rfl
   refine wpAnyH_take (i := 5) (v := ?v5x6) rfl (by kernel_rfl) (by kernel_rfl) (by kernel_rfl) (fun _ _ _ h => h) (Or.inl ⟨by kernel_rfl, ?hy5x6⟩) (by assumption) ?rest5x6
   case hy5x6 =>
    intro w hSw
    try dsimp only at hSw
    go_simp
    try with_reducible rfl
   refine wpAnyH_take (i := 6) (v := ?v6x7) rfl (by kernel_rfl) (by kernel_rfl) (by kernel_rfl) (fun _ _ _ h => h) (Or.inl ⟨by kernel_rfl, ?hy6x7⟩) (by assumption) ?rest6x7
   case hy6x7 =>
    intro w hSw
    try dsimp only at hSw
    go_simp
    try with_reducible rfl
   refine wpAnyH_take (i := 7) (v := ?v7x8) rfl (by kernel_rfl) (by kernel_rfl) (by kernel_rfl) (fun _ _ _ h => h) (Or.inl ⟨by kernel_rfl, ?hy7x8⟩) (by assumption) ?rest7x8
   case hy7x8 =>
    intro w hSw
    try dsimp only at hSw
    go_simp
    try with_reducible rfl
   refine wpAnyH_take (i := 9) (v := ?v9x9) rfl (by kernel_rfl) (by kernel_rfl) (by kernel_rfl) (fun _ _ _ h => h) (Or.inl ⟨by kernel_rfl, ?hy9x9⟩) (by assumption) ?rest9x9
   case hy9x9 =>
    intro w hSw
    try dsimp only at hSw
    go_simp
    try with_reducible rfl
   refine wpAnyH_take (i := 10) (v := ?v10x10) rfl (by kernel_rfl) (by kernel_rfl) (by kernel_rfl) (fun _ _ _ h => h) (Or.inl ⟨by kernel_rfl, ?hy10x10⟩) (by assumption) ?rest10x10
   case hy10x10 =>
    intro w hSw
    try dsimp only at hSw
    go_simp
    try with_reducible rfl
   refine wpAnyH_take (i := 11) (v := ?v11x11) rfl (by kernel_rfl) (by kernel_rfl) (by kernel_rfl) (fun _ _ _ h => h) (Or.inl ⟨by kernel_rfl, ?hy11x11⟩) (by assumption) ?rest11x11
   case hy11x11 =>
    intro w hSw
    try dsimp only at hSw
    go_simp
    try with_reducible rfl
   refine wpAnyH_take (i := 12) (v := ?v12x12) rfl (by kernel_rfl) (by kernel_rfl) (by kernel_rfl) (fun _ _ _ h => h) (Or.inl ⟨by kernel_rfl, ?hy12x12⟩) (by assumption) ?rest12x12
   case hy12x12 =>
    intro w hSw
    try dsimp only at hSw
    go_simp
    try with_reducible rfl
   refine wpAnyH_take (i := 13) (v := ?v13x13) rfl (by kernel_rfl) (by kernel_rfl) (by kernel_rfl) (fun _ _ _ h => h) (Or.inl ⟨by kernel_rfl, ?hy13x13⟩) (by assumption) ?rest13x13
   case hy13x13 =>
    intro w hSw
    try dsimp only at hSw
    go_simp
    try with_reducible rfl
   refine wpAnyH_take (i := 14) (v := ?v14x14) rfl (by kernel_rfl) (by kernel_rfl) (by kernel_rfl) (fun _ _ _ h => h) (Or.inl ⟨by kernel_rfl, ?hy14x14⟩) (by assumption) ?rest14x14
   case hy14x14 =>
    intro w hSw
    try dsimp only at hSw
    go_simp
    try with_reducible rfl
   refine wpAnyH_take (i := 15) (v := ?v15x15) rfl (by kernel_rfl) (by kernel_rfl) (by kernel_rfl) (fun _ _ _ h => h) (Or.inl ⟨by kernel_rfl, ?hy15x15⟩) (by assumption) ?rest15x15
   case hy15x15 =>
    intro w hSw
    try dsimp only at hSw
    go_simp
    try with_reducible rfl
   refine wpAnyH_take (i := 16) (v := ?v16x16) rfl (by kernel_rfl) (by kernel_rfl) (by kernel_rfl) (fun _ _ _ h => h) (Or.inl ⟨by kernel_rfl, ?hy16x16⟩) (by assumption) ?rest16x16
   case hy16x16 =>
    intro w hSw
    try dsimp only at hSw
    go_simp
    try with_reducible rfl
   refine wpAnyH_ready (rs := [8, 19]) (by kernel_rfl) (by simp) ?_
   refine AllReadyH.cons rfl (fun K hK => ?wayA) (AllReadyH.cons rfl (fun K hK => ?wayB) AllReadyH.nil)
   case wayA =>
    go_simp
    go_at_call 76
    refine (rows_en4096 (by first | exact Sc.drew hS0.out | exact Sc.al (Sc.drew hS0.out) _ | exact Sc.drew (Sc.al hS0.out _))).mono ?_
    rintro e w1 ⟨xs, t1, ao, cap, rfl, hown1, hf1, hs1, hO1, ho1⟩
    go_wp2_with fail
    refine hK.out _ _ ?hSA (fun hHeld => ?restA)
    case hSA =>
     first | exact kcall0 hHeld hs1 ho1 (by simp)
    clear hK K
    have hsz1 : wc.heap.size ≤ wc.drew.heap.size := Nat.le_refl _
    have oW1 := hid hHeld.2
    refine wpAnyH_ready (rs := [17, 19]) (by kernel_rfl) (by simp) ?_
    refine AllReadyH.cons rfl (fun K hK => ?wayA1) (AllReadyH.cons rfl (fun K hK => ?wayA2) AllReadyH.nil)
    case wayA1 =>
     go_simp
     go_at_call 79
     refine (rows_cl64 (by first | exact hs1 | exact Sc.al hs1 _)).mono ?_
     rintro e w2 ⟨cs, t2, co, ccap, rfl, mcs, hown2, hE2, hf2, hs2, hO2, ho2⟩
     go_wp2_with fail
     refine hK.out _ _ ?hSA1 (fun hHeld => ?restA1)
     case hSA1 =>
      first | exact kcall0 hHeld hs2 ho2 (by simp)
     clear hK K
     have oW2 := hid hHeld.2
     refine wpAnyH_take (i := 18) (v := ?v18x17) rfl (by kernel_rfl) (by kernel_rfl) (by kernel_rfl) (fun _ _ _ h => h) (Or.inl ⟨by kernel_rfl, ?hy18x17⟩) (by assumption) ?rest18x17
     case hy18x17 =>
      intro w hSw
      try dsimp only at hSw
      go_simp
      try with_reducible rfl
     refine wpAnyH_ready (rs := [19]) (by kernel_rfl) (by simp) ?_
     refine AllReadyH.cons rfl (fun K hK => ?_) AllReadyH.nil
     go_simp
     refine hK.out _ _ ?hSA1b (fun hHeld => ?restA1b)
     case hSA1b =>
      first | exact kalloc0 _ hHeld | exact kdrew0 (kalloc0 _ hk.out)
     clear hK K
     refine wpAnyH_ready (rs := [20]) (by kernel_rfl) (by simp) ?_
     refine AllReadyH.cons rfl (fun K hK => ?_) AllReadyH.nil
     go_simp
     refine hK.out _ _ ?hSA1c (fun hHeld => ?restA1c)
     case hSA1c =>
      first | exact kput0 oW2.out.size (by have := hs2.lt; omega) _ _ (kput0 oW2.out.size (by have := hs2.lt; omega) _ _ hHeld) | exact kalloc0 _ (by assumption)
     clear hK K
     refine wpAnyH_done (by kernel_rfl) ?_ _
     go_wp2_with fail
     go_meet
     exact Ocut.fresh hB.out hown1 hf1 hO1 (Nat.le_refl _) ho2 hown2 hE2 hf2 hs2 hO2 oW1.out.size oW2.out
    case wayA2 =>
     go_simp
     refine hK.out _ _ ?hSA2 (fun hHeld => ?restA2)
     case hSA2 =>
      first | exact kalloc0 _ hHeld | exact kdrew0 (kalloc0 _ hk.out)
     clear hK K
     refine wpAnyH_ready (rs := [17]) (by kernel_rfl) (by simp) ?_
     refine AllReadyH.cons rfl (fun K hK => ?_) AllReadyH.nil
     go_simp
     go_at_call 79
     refine (rows_cl64 (by first | exact hs1 | exact Sc.al hs1 _)).mono ?_
     rintro e w2 ⟨cs, t2, co, ccap, rfl, mcs, hown2, hE2, hf2, hs2, hO2, ho2⟩
     go_wp2_with fail
     refine hK.out _ _ ?hSA2a (fun hHeld => ?restA2a)
     case hSA2a =>
      first | exact kcall0 hHeld hs2 ho2 (by simp)
     clear hK K
     have oW2 := hid hHeld.2
     have hM := On.newC hs1 oW1.out ho2 (by simp)
     have hM1 := hid hM.1
     obtain ⟨⟨m0, m1, g0, g1⟩, mB, mn1, mn2, mn3⟩ := hM.1
     refine wpAnyH_take (i := 18) (v := ?v18x18) rfl (by kernel_rfl) (by kernel_rfl) (by kernel_rfl) (fun _ _ _ h => h) (Or.inl ⟨by kernel_rfl, ?hy18x18⟩) (by assumption) ?rest18x18
     case hy18x18 =>
      intro w hSw
      try dsimp only at hSw
      go_simp
      try with_reducible rfl
     refine wpAnyH_ready (rs := [20]) (by kernel_rfl) (by simp) ?_
     refine AllReadyH.cons rfl (fun K hK => ?_) AllReadyH.nil
     go_simp
     refine hK.out _ _ ?hSA2b (fun hHeld => ?restA2b)
     case hSA2b =>
      exact kput0 mB mn1 _ _ (kput0 mB mn1 _ _ hHeld)
     clear hK K
     refine wpAnyH_done (by kernel_rfl) ?_ _
     go_wp2_with fail
     go_meet
     exact Ocut.old hB.out hown1 hf1 hO1 (Nat.le_refl _) (((Only.refl [sb, r] w1).alloc _).trans ho2 (by simp)) (.inr (Nat.le_refl _)) hown2 hE2 hf2 hs2 hO2 (Nat.le_trans oW1.out.size (by simp)) oW2.out hM1.out hM.2
   case wayB =>
    go_simp
    refine hK.out _ _ ?hSB (fun hHeld => ?restB)
    case hSB =>
     first | exact kalloc0 _ hHeld | exact kdrew0 (kalloc0 _ hk.out)
    clear hK K
    refine wpAnyH_ready (rs := [8]) (by kernel_rfl) (by simp) ?_
    refine AllReadyH.cons rfl (fun K hK => ?_) AllReadyH.nil
    go_simp
    go_at_call 76
    refine (rows_en4096 (by first | exact Sc.drew hS0.out | exact Sc.al (Sc.drew hS0.out) _ | exact Sc.drew (Sc.al hS0.out _))).mono ?_
    rintro e w1 ⟨xs, t1, ao, cap, rfl, hown1, hf1, hs1, hO1, ho1⟩
    go_wp2_with fail
    refine hK.out _ _ ?hSBa (fun hHeld => ?restBa)
    case hSBa =>
     first | exact kcall0 hHeld hs1 ho1 (by simp)
    clear hK K
    have oW1 := hid hHeld.2
    have hM0 := On.newD hS0.out ho1 (by simp)
    refine wpAnyH_ready (rs := [17]) (by kernel_rfl) (by simp) ?_
    refine AllReadyH.cons rfl (fun K hK => ?_) AllReadyH.nil
    go_simp
    go_at_call 79
    refine (rows_cl64 (by first | exact hs1 | exact Sc.al hs1 _)).mono ?_
    rintro e w2 ⟨cs, t2, co, ccap, rfl, mcs, hown2, hE2, hf2, hs2, hO2, ho2⟩
    go_wp2_with fail
    refine hK.out _ _ ?hSBb (fun hHeld => ?restBb)
    case hSBb =>
     first | exact kcall0 hHeld hs2 ho2 (by simp)
    clear hK K
    have oW2 := hid hHeld.2
    have hM := On.callC hM0.1 ho2 (by simp)
    have hM1 := hid hM.1
    obtain ⟨⟨m0, m1, g0, g1⟩, mB, mn1, mn2, mn3⟩ := hM.1
    refine wpAnyH_take (i := 18) (v := ?v18x19) rfl (by kernel_rfl) (by kernel_rfl) (by kernel_rfl) (fun _ _ _ h => h) (Or.inl ⟨by kernel_rfl, ?hy18x19⟩) (by assumption) ?rest18x19
    case hy18x19 =>
     intro w hSw
     try dsimp only at hSw
     go_simp
     try with_reducible rfl
    refine wpAnyH_ready (rs := [20]) (by kernel_rfl) (by simp) ?_
    refine AllReadyH.cons rfl (fun K hK => ?_) AllReadyH.nil
    go_simp
    refine hK.out _ _ ?hSBc (fun hHeld => ?restBc)
    case hSBc =>
     exact kput0 mB mn1 _ _ (kput0 mB mn1 _ _ hHeld)
    clear hK K
    refine wpAnyH_done (by kernel_rfl) ?_ _
    go_wp2_with fail
    go_meet
    exact Ocut.old hB.out hown1 hf1 hO1 (by simp) ho2 (.inl hM0.2) hown2 hE2 hf2 hs2 hO2 oW1.out.size oW2.out hM1.out hM.2
  case rest =>
   obtain ⟨lb, m, t3, t4, vp, vc, rfl, hL, hA, hf1, hf2, hS, ocx, hlb, n1, n2, n3, hO3, hO4⟩ := hcut
   obtain ⟨po, pc, rfl⟩ := rows_slice hA.pool.1
   obtain ⟨ccs0, ⟨hc1, _⟩, _⟩ := hA.classes
   obtain ⟨co, cc, rfl⟩ := rows_slice hc1
   clear hc1
   have hlt := hS.lt
   have hws1 := hWs.out
   have hws2 := hws.out
   have hR1 := hid (hR.out.only ocx (by simp; omega))
   have oW1 := hid (oW.out.trans ocx (by simp))
   have hA1 : Hid (MoAt (OwR wc (w.heap.size + 1) (fun g => g ≠ lb)) (.slice po m.pool.length pc) (.slice co m.classes.length cc) m) := hA.imp (owr_mono (by omega) (fun _ h _ _ => h))
   have HL := hid (sc_left hS)
   have c0 := hS.c0
   clear hR oW hA ocx hk hB hS0
   replace hO3 := hid hO3
   replace hO4 := hid hO4
   replace hS := hid hS
   replace hL := hid hL
   go_wp2_with fail
   refine HL.out.mono ?_
   rintro e w3 ⟨n, rfl, hn, hnu, rfl⟩
   clear HL
   replace hnu := hid hnu
   go_upto_if 37 with fail
   obtain ⟨w0, rfl⟩ : ∃ w0, w0 = wc := ⟨_, rfl⟩
   go_cut [] (fun wx => ∃ t5, Sc wx sb r d t5 ∧ Out (pEnd m) t4 m t5 ∧ Only [sb] w0 wx)
   case first =>
    by_cases h0 : 0 < n
    ·have g0 : (0 : Int) < (n : Int) := by omega
     have HA := hid (sc_at hS.out)
     go_wp2_with fail
     refine HA.out.mono ?_
     rintro e w4 ⟨k, rfl, hk, rfl⟩
     have HR := hid (refuse_src hS.out (k : Int) 12 (by decide))
     replace hk := hid hk
     clear HA
     go_wp2_with fail
     refine HR.out.mono ?_
     rintro e w5 ⟨rfl, hs5, ho5⟩
     go_wp2_with fail
     go_meet
     exact ⟨_, hs5, out_end2 hnu.out hk.out h0, ho5⟩
    ·have g0 : ¬ (0 : Int) < (n : Int) := by omega
     go_wp2_with fail
     go_meet
     exact ⟨t4, hS.out, out_end1 hnu.out (by omega), Only.refl _ _⟩
   case rest =>
    obtain ⟨t5, hS5, hO5, o5⟩ := hcut
    have hL5 := hid (hL.out.only o5 (by simp; omega))
    have hR5 := hid (hR1.out.only o5 (by simp; omega))
    have oW5 := hid (oW1.out.trans o5 (by simp))
    have hA5 : Hid (MoAt (OwR wc (w.heap.size + 1) fun _ => True) (.slice po m.pool.length pc) (.slice co m.classes.length cc) m) :=
     MoAt.own (hA1.out.imp fun _ _ _ _ _ g => ⟨g.1, fun _ _ => trivial⟩) o5 (by simp; omega)
    have hout : Hid (Out pModule t m t5) := out_bind hO2.out (out_bind hO3.out (out_bind hO4.out hO5))
    replace hS5 := hid hS5
    clear hL hR1 oW1 hA1 hO2 hO3 hO4 hO5 hS c0 hnu o5
    obtain ⟨l0, l1, _, _⟩ := hL5.out
    obtain ⟨e0, e1, z0, z1⟩ := hR5.out
    go_wp2_with fail
    refine bodyPost_ret (v := .agg #[.slice po m.pool.length pc, .slice co m.classes.length cc]) (by simp [results, Tryz.results32, go_sem, e0, e1]) rfl ?_
    obtain ⟨pp, qq⟩ := hR5.out.put (.slice po m.pool.length pc) (.slice co m.classes.length cc)
    exact ⟨m, _, _, _, rfl, hf1, mo_fit hf1 hf2, hA5.out.own qq (by simp), hS5.out.other (by simp) (.inl hR5.out.c0) (by omega) qq, hout.out, oW5.out.next qq (by simp)⟩

/-- What was wrong, as an error says it. -/
def tBad (t : St) : Bp := match t with
 | .inl f => (0, 0, f.1, f.2)
 | .inr _ => ok4

theorem keepF {w z z' : World} {sb r : Nat} (ho : z = z') (h : z.cell? ⟨sb, 0, none⟩ = some (.pointer (some ⟨r, 0, none⟩)) ∧ Only [] w z) : z'.cell? ⟨sb, 0, none⟩ = some (.pointer (some ⟨r, 0, none⟩)) ∧ Only [] w z' := by
 subst ho
 exact h

theorem keepA {w z : World} {sb r : Nat} (o : Obj) (h : z.cell? ⟨sb, 0, none⟩ = some (.pointer (some ⟨r, 0, none⟩)) ∧ Only [] w z) : (z.alloc o).cell? ⟨sb, 0, none⟩ = some (.pointer (some ⟨r, 0, none⟩)) ∧ Only [] w (z.alloc o) :=
 ⟨cell_alloc o h.1, h.2.alloc o⟩

theorem keepD {w z : World} {sb r : Nat} (h : z.cell? ⟨sb, 0, none⟩ = some (.pointer (some ⟨r, 0, none⟩)) ∧ Only [] w z) : z.drew.cell? ⟨sb, 0, none⟩ = some (.pointer (some ⟨r, 0, none⟩)) ∧ Only [] w z.drew := ⟨h.1, h.2.drew⟩

set_option maxHeartbeats 2000000 in
theorem fault_src {w : World} {sb r d : Nat} {t : St} (h : Sc w sb r d t) :
  Calls Tryz.prog 33 #[.pointer (some ⟨sb, 0, none⟩)] w fun e w' => ∃ v, e = .returned v ∧ EB w' sb v (tBad t) ∧ Only [] w w' := by
 have HF := hid (fine_src h)
 cases h with
 | fine h =>
  go_enter Tryz.func33, Tryz.ntmps33
  go_wp2_with (go_at_call 84; refine HF.out.mono ?_; rintro e w' ⟨rfl, rfl⟩)
  go_ret
  exact ⟨_, rfl, .no rfl, Only.refl _ _⟩
 | cut he h =>
  rename_i l n e
  have hlt : sb < w.heap.size := World.block_lt_of_cell? w _ h.c0
  have HA := hid (fun W (hW : Only [] w W) => at_any (h.rd.only hW (by simp) (by simp)))
  have HE := hid (fun W (hW : Only [] w W) => err_any (h.rd.only hW (by simp) (by simp)))
  simp only at HA HE
  obtain ⟨c0, c1, _⟩ := h
  have c0h := hid c0
  go_enter Tryz.func33, Tryz.ntmps33
  go_wp2_with (go_at_call 84; refine HF.out.mono ?_; rintro e w' ⟨rfl, rfl⟩)
  go_region_held3 (fun w' => w'.cell? ⟨sb, 0, none⟩ = some (.pointer (some ⟨r, 0, none⟩)) ∧ Only [] w w')
   (first | (with_reducible exact ⟨c0h.out, Only.refl _ _⟩) | (with_reducible exact keepD ⟨c0h.out, Only.refl _ _⟩) | (with_reducible exact keepF (by assumption) (by assumption)) | (with_reducible exact keepA _ (by assumption)))
   (first
    | (go_at_call 83; (with_reducible refine (HA.out _ ?_).mono ?_); (simp [*]); rintro e w1 ⟨rfl, hw1⟩)
    | (go_at_call 85; (with_reducible refine (HE.out _ ?_).mono ?_); (simp [*]); rintro e w1 ⟨rfl, hw1⟩))
  rename_i wx hwx hH
  have hO := hH.2
  have hsz : w.heap.size = w1.heap.size := by
   subst hwx
   subst hw1
   rfl
  clear hH
  go_wp2_with fail
  go_ret
  exact ⟨_, rfl, .bad he (by omega) (bad_new w1 0 0 (n : Int) e), hO⟩
 | bad he h hq hn =>
  obtain ⟨c0, c1, _⟩ := h
  go_enter Tryz.func33, Tryz.ntmps33
  go_wp2_with (go_at_call 84; refine HF.out.mono ?_; rintro e w' ⟨rfl, rfl⟩)
  go_ret
  exact ⟨_, rfl, .bad he (by omega) hq, Only.refl _ _⟩

theorem rde_apart {w : World} {r d : Nat} {bs : List UInt8} (h : RdE w r d (bs, 0, 0)) (h0 : 0 < r) : ∃ d', RdE w r d' (bs, 0, 0) ∧ d' ≠ r ∧ (d' = d ∨ d' = 0) := by
 obtain ⟨ao, cap, h⟩ := h
 by_cases e : bs = []
 ·subst e
  exact ⟨0, ⟨ao, cap, h.c0, h.c1, h.c2, h.f0, h.f1, h.f2, BS.nil _ _ _, h.capLe, h.capMax, h.capNone, h.fit, fun e => absurd rfl e⟩, by omega, .inr rfl⟩
 ·exact ⟨d, ⟨ao, cap, h⟩, h.ne e, .inl rfl⟩

theorem sc_new {w : World} {r d : Nat} {bs : List UInt8} (h : RdE w r d (bs, 0, 0)) (h1 : d ≠ r) (h2 : d < w.heap.size) (hl : bs.length ≤ 262144) : Sc (w.alloc (.cells #[.pointer (some ⟨r, 0, none⟩), .pointer none] 86)) w.heap.size r d (.inr (bs, 0)) := by
 have hr := h.lt
 have o := (Only.refl [] w).alloc (.cells #[.pointer (some ⟨r, 0, none⟩), .pointer none] 86)
 exact .fine ⟨by rw [cell_new]; rfl, by rw [cell_new]; rfl, frozen_new _ _ _ _, h.only o (by simp) (by simp), by omega, by omega, h1, by simp; omega, hl⟩

/-- What reading came to, by where the source stands. -/
theorem readM_of {bs : List UInt8} (hl : ¬ 262144 < bs.length) {m : Mo} {t : St} (h : Out pModule (.inr (bs, 0)) m t) :
  (∃ f, t = .inl f ∧ readM bs = (mo0, 0, 0, f.1, f.2)) ∨ (∃ u, t = .inr u ∧ readM bs = if (checkM m).2.2.2 = 0 then (m, ok4) else (mo0, checkM m)) := by
 unfold Out at h
 unfold readM
 rw [if_neg hl]
 simp only at h
 cases hp : pModule (bs, 0) with
 | inl f =>
  simp only [hp] at h
  exact .inl ⟨f, h, rfl⟩
 | inr z =>
  obtain ⟨y, u⟩ := z
  simp only [hp] at h
  obtain ⟨rfl, rfl⟩ := h
  exact .inr ⟨u, rfl, rfl⟩

theorem mo0_at (w : World) (B : Nat) (P : Nat → Prop) : MoAt (OwR w B P) (.slice none 0 0) (.slice none 0 0) mo0 :=
 ⟨⟨World.ownsRow_nil _ _ _ _, fun _ h => by cases h⟩, [], ⟨World.ownsRow_nil _ _ _ _, fun _ h => by cases h⟩, Els.nil _ _⟩

set_option maxHeartbeats 4000000 in
theorem mread_any {w : World} (hg : Ety w) {ao : Option Addr} {bs : List UInt8} {cap d0 : Nat} (hb : BS w ao bs d0) (hn : ao = none → cap = 0) (hsz : bs.length ≤ 1099511627776) :
  Calls Tryz.prog 12 #[.slice ao bs.length cap] w fun e w' => ∃ vp vc v, e = .returned (.tuple #[.agg #[vp, vc], v]) ∧ EB w' w.heap.size v (readM bs).2 ∧ MoFit (readM bs).1 ∧ AllFit EnFit (readM bs).1.pool ∧ MoAt (OwR w' w.heap.size fun _ => True) vp vc (readM bs).1 ∧ Only [] w w' := by
 have o0 := (Only.refl [] w).alloc (.cells #[.slice none 0 0, .slice none 0 0] 32)
 have R0 := mo2_new w (.slice none 0 0) (.slice none 0 0) 32
 have f0 : Hid (MoFit mo0 ∧ AllFit EnFit mo0.pool) := ⟨⟨by simp [mo0], by simp [mo0]⟩, fun _ h => by cases h⟩
 by_cases hbig : 262144 < bs.length
 ·have gb : (262144 : Int) < (bs.length : Int) := by omega
  have hR : readM bs = (mo0, 0, 0, 0, 5) := by unfold readM; rw [if_pos hbig]
  rw [hR]
  obtain ⟨e0, e1, _, _⟩ := R0
  go_enter Tryz.func12, Tryz.ntmps12
  go_wp2
  refine bodyPost_ret (v := .tuple #[.agg #[.slice none 0 0, .slice none 0 0], badV (w.heap.size + 1)]) (by simp [results, Tryz.results12, go_sem, badV]) rfl ?_
  exact ⟨_, _, _, rfl, .bad (by decide) (by omega) (by have := bad_new (w.alloc (.cells #[.slice none 0 0, .slice none 0 0] 32)) 0 0 0 5; rw [World.size_alloc] at this; exact this), f0.out.1, f0.out.2, mo0_at _ _ _, o0.alloc _⟩
 ·have gb : ¬ (262144 : Int) < (bs.length : Int) := by omega
  obtain ⟨R, hR0⟩ : ∃ R, R = readM bs := ⟨_, rfl⟩
  rw [← hR0]
  replace hR0 := hid hR0
  have HN := hid (newReader_any (cap := cap) (hb.only o0 (by simp)) hn (by omega))
  replace R0 := hid R0
  go_enter Tryz.func12, Tryz.ntmps12
  go_wp2_with fail
  refine HN.out.mono ?_
  rintro e w2 ⟨r, d, rfl, hr, ho2, hr1, hd1, hd2⟩
  have hrl := hr.lt
  simp only [World.size_alloc] at hr1 hd1
  obtain ⟨d', hr', hd', hdd⟩ := rde_apart hr (by omega)
  have hS := sc_new hr' hd' (by omega) (by omega)
  have oA := (Only.refl [] w2).alloc (.cells #[.pointer (some ⟨r, 0, none⟩), .pointer none] 86)
  have HM := hid (rmodule_any hS)
  have o2 := hid ((o0.trans ho2 (by simp)).trans oA (by simp))
  have R2 := hid ((R0.out.only ho2 (by simp)).only oA (by simp))
  have hs2 := ho2.size
  simp only [World.size_alloc] at hs2
  clear HN R0 hr hS hr' ho2 oA hb o0
  go_wp2_with fail
  refine HM.out.mono ?_
  rintro e w3 ⟨m, t, vp, vc, rfl, hf1, hf2, hA, hS3, hO, ho3⟩
  clear HM
  replace hf1 := hid hf1
  replace hf2 := hid hf2
  obtain ⟨po, pc, rfl⟩ := rows_slice hA.pool.1
  obtain ⟨ccs0, ⟨hc1, _⟩, _⟩ := hA.classes
  obtain ⟨co, cc, rfl⟩ := rows_slice hc1
  clear hc1
  have hs3 := ho3.size
  simp only [World.size_alloc] at hs3
  have q3 := (Only.refl [] w3).alloc (.cells #[.slice po m.pool.length pc, .slice co m.classes.length cc] 32)
  have HF := hid (fault_src (hS3.al (.cells #[.slice po m.pool.length pc, .slice co m.classes.length cc] 32)))
  have herr : ∀ f, t = .inl f → f.2 ≠ 0 := by
   intro f hf
   subst hf
   cases hS3 with
   | cut he _ => exact he
   | bad he _ _ _ => exact he
  have o3 := hid ((o2.out.next ho3 (by simp; omega)).trans q3 (by simp))
  have R3 := hid ((R2.out.only ho3 (by simp; omega)).only q3 (by simp))
  have L3 := hid (mo2_new w3 (.slice po m.pool.length pc) (.slice co m.classes.length cc) 32)
  have hA3 : Hid (MoAt (OwR (w3.alloc (.cells #[.slice po m.pool.length pc, .slice co m.classes.length cc] 32)) (w.heap.size + 1) fun _ => True) (.slice po m.pool.length pc) (.slice co m.classes.length cc) m) :=
   MoAt.own (hA.imp (owr_mono (by simp; omega) (fun _ _ _ _ => trivial))) q3 (by simp)
  clear hA hS3 ho3 q3 R2 o2
  go_wp2_with fail
  refine HF.out.mono ?_
  rintro e w4 ⟨v, rfl, hev, ho4⟩
  clear HF
  have o4 := hid (o3.out.trans ho4 (by simp))
  have R4 := hid (R3.out.only ho4 (by simp))
  have L4 := hid (L3.out.only ho4 (by simp))
  have hA4 := hid (hA3.out.own ho4 (by simp))
  have hs4 := ho4.size
  simp only [World.size_alloc] at hs4
  clear o3 R3 L3 hA3 ho4
  rcases readM_of hbig hO with ⟨f, rfl, hR⟩ | ⟨u, rfl, hR⟩
  ·rcases hev.cases_nil with ⟨h, _⟩ | ⟨he, p, rfl, hp, hbp⟩
   ·exact absurd h (herr f rfl)
   obtain rfl := hR0.out.trans hR
   clear herr hO hev
   replace hbp := hid hbp
   obtain ⟨e0, e1, z0, z1⟩ := R4.out
   unfold badV
   go_wp2
   refine bodyPost_ret (v := .tuple #[.agg #[.slice none 0 0, .slice none 0 0], badV p]) (by simp [results, Tryz.results12, go_sem, badV, e0, e1]) rfl ?_
   obtain ⟨pp, qq⟩ := R4.out.put (.slice none 0 0) (.slice none 0 0)
   exact ⟨_, _, _, rfl, .bad he (by omega) (hbp.out.only qq (by simp; omega)), f0.out.1, f0.out.2, mo0_at _ _ _, o4.out.next qq (by simp)⟩
  ·obtain rfl : v = .nilIface := by
    rcases hev.cases_nil with ⟨_, h⟩ | ⟨h, _⟩
    ·exact h
    ·exact absurd rfl h
   clear herr hO hev
   have HC := hid (mcheck_any (hg.only0 o4.out) (P := fun _ => True) m hf2.out (hA4.out.imp fun _ _ _ _ _ g => owr_slice g))
   obtain ⟨l0, l1, _, _⟩ := L4.out
   go_wp2_with fail
   refine HC.out.mono ?_
   rintro e w5 ⟨v5, rfl, hev5, ho5⟩
   clear HC l0 l1
   have o5 := hid (o4.out.trans ho5 (by simp))
   have R5 := hid (R4.out.only ho5 (by simp))
   have L5 := hid (L4.out.only ho5 (by simp))
   have hA5 := hid (hA4.out.own ho5 (by simp))
   have hs5 := ho5.size
   clear o4 R4 L4 hA4 ho5
   rcases hev5.cases_nil with ⟨h, rfl⟩ | ⟨he, p, rfl, hp, hbp⟩
   ·rw [if_pos h] at hR
    obtain rfl := hR0.out.trans hR
    clear hev5
    obtain ⟨l0, l1, _, _⟩ := L5.out
    obtain ⟨e0, e1, z0, z1⟩ := R5.out
    go_wp2
    refine bodyPost_ret (v := .tuple #[.agg #[.slice po m.pool.length pc, .slice co m.classes.length cc], .nilIface]) (by simp [results, Tryz.results12, go_sem, e0, e1]) rfl ?_
    obtain ⟨pp, qq⟩ := R5.out.put (.slice po m.pool.length pc) (.slice co m.classes.length cc)
    exact ⟨_, _, _, rfl, .no rfl, hf2.out, hf1.out, (hA5.out.own qq (by simp)).imp (owr_mono (by omega) fun _ h _ _ => h), o5.out.next qq (by simp)⟩
   ·rw [if_neg he] at hR
    obtain rfl := hR0.out.trans hR
    clear hev5
    replace hbp := hid hbp
    obtain ⟨e0, e1, z0, z1⟩ := R5.out
    unfold badV
    go_wp2
    refine bodyPost_ret (v := .tuple #[.agg #[.slice none 0 0, .slice none 0 0], badV p]) (by simp [results, Tryz.results12, go_sem, badV, e0, e1]) rfl ?_
    obtain ⟨pp, qq⟩ := R5.out.put (.slice none 0 0) (.slice none 0 0)
    exact ⟨_, _, _, rfl, .bad he (by omega) (hbp.out.only qq (by simp; omega)), f0.out.1, f0.out.2, mo0_at _ _ _, o5.out.next qq (by simp)⟩

theorem encM_len {m : Mo} (g : MoGood m) : (encM m).length ≤ 30000000 := by
 have h1 := flat_le encEn 300 m.pool fun x hx => encEn_len (g.pool x hx)
 have h2 := flat_le encCl 300000 m.classes fun x hx => encCl_len (g.classes x hx)
 have h3 := g.manyP
 have h4 := g.manyC
 unfold encM
 simp only [List.length_append, magicL, e1, e2, toBE_length, List.length_cons, List.length_nil]
 omega

set_option maxHeartbeats 4000000 in
theorem mwrite_any {w : World} (hg : Ety w) {P : Nat → Prop} (m : Mo) (hF : MoFit m) (hN : ∀ e ∈ m.pool, -9223372036854775808 ≤ e.2.2.1 ∧ e.2.2.1 ≤ 9223372036854775807) {vp vc : Value} (hM : MoAt (SlR w P) vp vc m) :
  Calls Tryz.prog 10 #[.agg #[vp, vc]] w fun e w' => ∃ ao cap v, e = .returned (.tuple #[.slice ao (writeM m).1.length cap, v]) ∧ w'.ownsRow w.heap.size 5 1 (.slice ao (writeM m).1.length cap) (writeM m).1.length (bcs (writeM m).1) ∧ EB w' w.heap.size v (writeM m).2 ∧ Only [] w w' := by
 have hM' : MoAt (SlR w fun d => d < w.heap.size) vp vc m := hM.mono fun d _ h => h
 obtain ⟨po, pc, _, rfl, _⟩ := hM.pool
 obtain ⟨_, ⟨co, cc, _, rfl, _⟩, _⟩ := hM.classes
 have o0 := (Only.refl [] w).alloc (.cells #[.slice po m.pool.length pc, .slice co m.classes.length cc] 32)
 have b0 : Hid ((w.alloc (.cells #[.slice po m.pool.length pc, .slice co m.classes.length cc] 32)).cell? ⟨w.heap.size, 0, none⟩ = some (.slice po m.pool.length pc) ∧ (w.alloc (.cells #[.slice po m.pool.length pc, .slice co m.classes.length cc] 32)).cell? ⟨w.heap.size, 1, none⟩ = some (.slice co m.classes.length cc)) := ⟨by rw [cell_new]; rfl, by rw [cell_new]; rfl⟩
 have hs0 : Hid (w.heap.size < (w.alloc (.cells #[.slice po m.pool.length pc, .slice co m.classes.length cc] 32)).heap.size) := by simp [Hid]
 have HC := hid (mcheck_any (hg.only0 o0) (P := P) m hF (hM.only0 o0))
 have hGood : Hid ((checkM m).2.2.2 = 0 → MoGood m) := fun h => mo_good h hN
 clear hM hg hN
 replace hM' := hid hM'
 replace hF := hid hF
 obtain ⟨R, hR⟩ : ∃ R, R = writeM m := ⟨_, rfl⟩
 rw [← hR]
 unfold writeM at hR
 generalize checkM m = X at *
 replace hR := hid hR
 by_cases hX : X.2.2.2 = 0
 ·have hG := hGood.out hX
  have hlen := encM_len hG
  replace hG := hid hG
  go_enter Tryz.func10, Tryz.ntmps10
  go_wp2_with fail
  refine HC.out.mono ?_
  rintro e w1 ⟨v, rfl, hev, ho1⟩
  obtain rfl : v = .nilIface := by
   rcases hev.ev.nil_iff with ⟨_, h⟩ | ⟨h, _⟩
   ·exact h
   ·exact absurd hX h
  clear hev
  have o1 := hid (o0.next ho1 (by simp))
  have hs1 : Hid (w.heap.size < w1.heap.size) := Nat.lt_of_lt_of_le hs0.out ho1.size
  have b1 : Hid (w1.cell? ⟨w.heap.size, 0, none⟩ = some (.slice po m.pool.length pc) ∧ w1.cell? ⟨w.heap.size, 1, none⟩ = some (.slice co m.classes.length cc)) := ⟨(ho1.cell (p := ⟨w.heap.size, 0, none⟩) hs0.out (by simp)).trans b0.out.1, (ho1.cell (p := ⟨w.heap.size, 1, none⟩) hs0.out (by simp)).trans b0.out.2⟩
  have HW := hid (newWriter_any w1 w1.heap.size (Nat.le_refl _))
  clear HC b0
  go_wp2_with fail
  refine HW.out.mono ?_
  rintro e w2 ⟨rfl, hW2, ho2⟩
  clear HW
  have hs2 := hW2.lt
  have oB := (Only.refl [] w2).alloc (.cells #[.pointer (some ⟨w1.heap.size, 0, none⟩)] 76)
  have o2 := hid (o1.out.next (ho2.next oB (by simp)) (by simp))
  have c0 := ((ho2.next oB (by simp)).cell (p := ⟨w.heap.size, 0, none⟩) hs1.out (by simp)).trans b1.out.1
  have c1 := ((ho2.next oB (by simp)).cell (p := ⟨w.heap.size, 1, none⟩) hs1.out (by simp)).trans b1.out.2
  have ct : Hid ((w2.alloc (.cells #[.pointer (some ⟨w1.heap.size, 0, none⟩)] 76)).cell? ⟨w2.heap.size, 0, none⟩ = some (.pointer (some ⟨w1.heap.size, 0, none⟩))) := by rw [cell_new]; rfl
  have HT := wmod_any (hW2.only oB (by simp) (by simp)) m hG.out hF.out (hM'.out.only0 o2.out) (fun d hd => by have := hs1.out; omega) (by simp)
  unfold tgV at HT
  rw [List.nil_append] at HT
  replace HT := hid HT
  go_wp2_with fail
  refine HT.out.mono ?_
  rintro e w3 ⟨rfl, hT⟩
  clear HT c0 c1
  generalize encM m = bs at *
  have t3 := hT.box ct.out (by omega) (by omega)
  have o3 := hid (o2.out.next (hT.only) (by simp; have := hs1.out; omega))
  obtain ⟨g', hW3, _, _⟩ := hT
  have HL := hid (wlen_any hW3)
  have HD := hid (wdone_any hW3 (by simp only; omega))
  simp only at HL HD
  go_wp2_with fail
  refine HL.out.mono ?_
  rintro e w4 ⟨rfl, rfl⟩
  by_cases hbig : 262144 < bs.length
  ·have gb : (262144 : Int) < (bs.length : Int) := by omega
   clear HL HD
   go_wp2_with fail
   go_ret2
   have hRR : R = ([], 0, 0, 0, 5) := by rw [hR.out, if_pos hX, if_pos hbig]
   subst hRR
   exact ⟨none, 0, _, rfl, World.ownsRow_nil _ _ _ _, .bad (by decide) (by have := o3.out.size; omega) (bad_new _ 0 0 0 5), o3.out.alloc _⟩
  ·have gb : ¬ (262144 : Int) < (bs.length : Int) := by omega
   have ed : wDone (bs, 0) = bs := by simp [wDone]
   rw [ed] at HD
   clear HL
   go_wp2_with fail
   refine HD.out.mono ?_
   rintro e w5 ⟨ao, cap, rfl, hown, ho5⟩
   go_wp2_with fail
   go_ret2
   have hRR : R = (bs, ok4) := by rw [hR.out, if_pos hX, if_neg hbig]
   subst hRR
   exact ⟨ao, cap, _, rfl, rows_mono hown o3.out.size, .no rfl, o3.out.next ho5 (by simp)⟩
 ·have hRR : R = ([], X) := by rw [hR.out, if_neg hX]
  subst hRR
  go_enter Tryz.func10, Tryz.ntmps10
  go_wp2_with fail
  refine HC.out.mono ?_
  rintro e w1 ⟨v, rfl, hev, ho1⟩
  rcases hev.ev.nil_iff with ⟨h, _⟩ | ⟨_, t, u, rfl⟩
  ·exact absurd h hX
  go_wp2_with fail
  go_ret2
  exact ⟨none, 0, _, rfl, World.ownsRow_nil _ _ _ _, hev.down o0.size, o0.next ho1 (by simp)⟩

def key7 : List UInt8 := [75, 69, 89, 49, 0, 0, 0]
def key6 : List UInt8 := [75, 69, 89, 49, 0, 0]

theorem read7 : readM key7 = (mo0, ok4) := by kernel_rfl
theorem read6 : readM key6 = (mo0, 0, 0, 6, 11) := by kernel_rfl
theorem write0 : writeM mo0 = (key7, ok4) := by kernel_rfl

set_option maxHeartbeats 4000000 in
set_option maxRecDepth 100000 in
theorem known5 {w : World} (hg : Ety w) : Calls Tryz.prog 6 #[] w fun e w' => e = .returned (.bool true) ∧ Only [] w w' := by
 have kc1 := Joins.run_convert_bytes_const_at (P := Tryz.prog) w 38 5 #[.int .u8 75, .int .u8 69, .int .u8 89, .int .u8 49, .int .u8 0, .int .u8 0, .int .u8 0] 7 7 w.heap.size rfl Tryz.underlying38 Tryz.underlying5
 have o1 := (Only.refl [] w).alloc (.cells #[.int .u8 75, .int .u8 69, .int .u8 89, .int .u8 49, .int .u8 0, .int .u8 0, .int .u8 0] 5 (7, 8))
 have HR1 := mread_any (hg.only0 o1) (bs := key7) (cap := 7) (bs_of_rs (rs_fresh w #[.int .u8 75, .int .u8 69, .int .u8 89, .int .u8 49, .int .u8 0, .int .u8 0, .int .u8 0] 5 (7, 8))) (by simp) (by decide)
 rw [read7] at HR1
 replace HR1 := hid HR1
 go_enter Tryz.func6, Tryz.ntmps6
 go_wp2_with fail
 refine HR1.out.mono ?_
 rintro e w2 ⟨vp, vc, v, rfl, hev, hf1, hf2, hA, ho2⟩
 obtain ⟨po, pc, rfl⟩ := rows_slice hA.pool.1
 obtain ⟨ccs0, ⟨hc1, _⟩, _⟩ := hA.classes
 obtain ⟨co, cc, rfl⟩ := rows_slice hc1
 obtain rfl : v = .nilIface := by
  rcases hev.cases_nil with ⟨_, h⟩ | ⟨h, _⟩
  ·exact h
  ·exact absurd rfl h
 have hA' : MoAt (OwR w2 (w.alloc (.cells #[.int .u8 75, .int .u8 69, .int .u8 89, .int .u8 49, .int .u8 0, .int .u8 0, .int .u8 0] 5 (7, 8))).heap.size fun _ => True) (.slice po 0 pc) (.slice co 0 cc) mo0 := hA
 simp only [mo0, List.length_nil]
 clear hA hev hc1
 have oM := (Only.refl [] w2).alloc (.cells #[.slice po 0 pc, .slice co 0 cc] 32)
 have o2 := (o1.trans ho2 (by simp)).trans oM (by simp)
 have M2 := mo2_new w2 (.slice po 0 pc) (.slice co 0 cc) 32
 have HW := mwrite_any (hg.only0 o2) (P := fun _ => True) mo0 hf1 (fun e he => by cases he) ((hA'.own oM (by simp)).imp fun _ _ _ _ _ g => owr_slice g)
 rw [write0] at HW
 simp only [show key7.length = 7 from rfl] at HW
 replace HW := hid HW
 obtain ⟨m0, m1, _, _⟩ := M2
 clear HR1 kc1 hA' ho2
 go_wp2_with fail
 refine HW.out.mono ?_
 rintro e w3 ⟨bo, bc, v, rfl, hown, hev, ho3⟩
 obtain rfl : v = .nilIface := by
  rcases hev.cases_nil with ⟨_, h⟩ | ⟨h, _⟩
  ·exact h
  ·exact absurd rfl h
 clear hev HW
 have hm1 := (ho3.cell (p := ⟨w2.heap.size, 1, none⟩) (by simp) (by simp)).trans m1
 have o3 := o2.trans ho3 (by simp)
 clear m0 m1 oM o2
 have kc2 := Joins.run_convert_bytes_const_at (P := Tryz.prog) w3 38 5 #[.int .u8 75, .int .u8 69, .int .u8 89, .int .u8 49, .int .u8 0, .int .u8 0] 6 6 w3.heap.size rfl Tryz.underlying38 Tryz.underlying5
 have q3 := (Only.refl [] w3).alloc (.cells #[.int .u8 75, .int .u8 69, .int .u8 89, .int .u8 49, .int .u8 0, .int .u8 0] 5 (6, 7))
 have HR2 := mread_any (hg.only0 (o3.trans q3 (by simp))) (bs := key6) (cap := 6) (bs_of_rs (rs_fresh w3 #[.int .u8 75, .int .u8 69, .int .u8 89, .int .u8 49, .int .u8 0, .int .u8 0] 5 (6, 7))) (by simp) (by decide)
 rw [read6] at HR2
 replace HR2 := hid HR2
 replace hown := hid hown
 replace hm1 := hid hm1
 go_wp2_with fail
 refine HR2.out.mono ?_
 rintro e w4 ⟨vp, vc, v, rfl, hev, _, _, hA, ho4⟩
 obtain ⟨qo, qc, rfl⟩ := rows_slice hA.pool.1
 obtain ⟨ccs1, ⟨hc1, _⟩, _⟩ := hA.classes
 obtain ⟨eo, ec, rfl⟩ := rows_slice hc1
 obtain ⟨p, rfl, hb⟩ : ∃ p, v = badV p ∧ BadAt w4 p (0, 0, 6, 11) := by
  rcases hev.cases_nil with ⟨h, _⟩ | ⟨_, p, h1, _, h2⟩
  ·exact absurd h (by decide)
  ·exact ⟨p, h1, h2⟩
 simp only [mo0, List.length_nil, badV]
 clear HR2 kc2 hA hc1 hev
 have q4 := (q3.trans ho4 (by simp)).alloc (.cells #[.slice qo 0 qc, .slice eo 0 ec] 32)
 have hm4 := (q4.cell (p := ⟨w2.heap.size, 1, none⟩) (World.block_lt_of_cell? w3 _ hm1.out) (by simp)).trans hm1.out
 have kc := ((RS.of_owns hown.out).1.only0 q4).conv (bs := key7) bc
 have hk7 : str key7 = ⟨#[75, 69, 89, 49, 0, 0, 0]⟩ := rfl
 simp only [show key7.length = 7 from rfl, hk7] at kc
 clear hk7
 have hb4 := hb.only ((Only.refl [] w4).alloc (.cells #[.slice qo 0 qc, .slice eo 0 ec] 32)) (by simp)
 have HI := hid (is_hit p 11 _ hb4.c3)
 have o4 := hid (o3.trans q4 (by simp))
 clear hb hb4 hown hm1 q3 ho4 o3 q4
 go_wp2_with fail
 refine HI.out.mono ?_
 rintro e w5 ⟨rfl, ho5⟩
 go_wp2_with fail
 go_ret
 exact ⟨rfl, o4.out.trans ho5 (by simp)⟩

end Go.Proofs.YtildemmkhndhjaaGreatDoor
namespace Go.Proofs.YtildemmkhndhjaaGreatDoor
open Go.ChangeShapes Go.WideShapes Go.ChangeAt Go.RowKit

theorem list_of_each {α : Type} {P : Nat → α → Prop} (n : Nat) (h : ∀ j, j < n → ∃ y, P j y) : ∃ l : List α, l.length = n ∧ ∀ j (hj : j < l.length), P j l[j] := by
 induction n with
 | zero => exact ⟨[], rfl, fun j hj => by simp at hj⟩
 | succ n ih =>
  obtain ⟨l, hl, hp⟩ := ih (fun j hj => h j (by omega))
  obtain ⟨y, hy⟩ := h n (by omega)
  refine ⟨l ++ [y], by simp [hl], fun j hj => ?_⟩
  by_cases e : j < l.length
  ·rw [List.getElem_append_left e]
   exact hp j e
  ·have : j = l.length := by simp at hj; omega
   subst this
   rw [List.getElem_append_right (Nat.le_refl _)]
   simp
   rw [hl]
   exact hy

theorem bulk_mem {H : Type} (l : List (DataW H)) (d : DataW H) (h : d ∈ l) : Rows.uptoBulk d ≤ Rows.uptoBulkAll l := by
 induction l with
 | nil => cases h
 | cons x l ih =>
  simp only [Rows.uptoBulkAll]
  rcases List.mem_cons.1 h with rfl | h
  ·omega
  ·have := ih h
   omega

theorem bulk_pos {H : Type} (d : DataW H) : 1 ≤ Rows.uptoBulk d := by
 cases d with
 | lit x => cases x <;> simp [Rows.uptoBulk]
 | nil => simp [Rows.uptoBulk]
 | ptr d => simp [Rows.uptoBulk]
 | slice a b => simp [Rows.uptoBulk]
 | agg l => simp [Rows.uptoBulk]
 | iface t d => simp [Rows.uptoBulk]
 | map l => simp [Rows.uptoBulk]
 | held x => simp [Rows.uptoBulk]

theorem bulk_len {H : Type} (l : List (DataW H)) : l.length ≤ Rows.uptoBulkAll l := by
 induction l with
 | nil => simp
 | cons x l ih =>
  have := bulk_pos x
  simp only [Rows.uptoBulkAll, List.length_cons]
  omega

theorem els_flat' {α : Type} {k : Nat} (f : α → List Value) : ∀ l : List α, (∀ x ∈ l, (f x).length = k) → Els k (fun c x => c = f x) (l.flatMap f) l := by
 intro l
 induction l with
 | nil => exact fun _ => Els.nil _ _
 | cons x l ih =>
  intro hf
  have hx := hf x (by simp)
  have ih := ih fun y hy => hf y (by simp [hy])
  refine ⟨by rw [List.flatMap_cons, List.length_append, hx, ih.len, List.length_cons, Nat.add_mul]; omega, fun j hj => ?_⟩
  cases j with
  | zero =>
   rw [List.flatMap_cons, Nat.zero_mul, List.drop_zero, ← hx, List.take_left]
   rfl
  | succ j =>
   have := ih.el j (by simpa using hj)
   rw [List.getElem_cons_succ, ← this, List.flatMap_cons, Nat.add_mul, Nat.one_mul, Nat.add_comm, ← hx, ← List.drop_drop, List.drop_left]

section
variable {H : Type} {enc : TypeId × Value → H} {W : World}

/-- A slice that came in, whose elements take k cells each. -/
theorem cell_row {α : Type} {T e : TypeId} {k : Nat} (hT : Tryz.prog.underlying T = some (.slice e)) (hC : Tryz.prog.cellsOf e = k) (hk : 0 < k) {A : List Value → α → Nat → Prop}
  (each : ∀ (fuel : Nat) (cs : List Value) (x : DataW H × List MemPlace), DataW.trod enc Tryz.prog W 0 (fun _ => true) true fuel e cs = some x → ∃ y, A cs y (Rows.uptoBulk x.1))
  {fuel : Nat} {v : Value} {x : DataW H × List MemPlace} (hf : DataW.trod enc Tryz.prog W 0 (fun _ => true) true fuel T [v] = some x) :
  ∃ (l : List α) (cs : List Value), SlV W (fun _ => True) v l.length cs ∧ Els k (fun c y => ∃ b, b ≤ Rows.uptoBulk x.1 ∧ A c y b) cs l ∧ l.length ≤ Rows.uptoBulk x.1 := by
 rcases DataW.trod_slice hT hf with ⟨hcs, hx⟩ | ⟨a, len, cap, elems, rest, n, _, hcs, hx, _, hl, hm, hlen, hel, _, _⟩
 ·obtain rfl : v = .slice none 0 0 := by simpa using hcs
  exact ⟨[], [], SlV.nil _ _, Els.nil _ _, by simp⟩
 ·obtain rfl : v = .slice (some a) len cap := by simpa using hcs
  have hb : Rows.uptoBulkAll (elems.map (·.1)) ≤ Rows.uptoBulk x.1 := by
   rw [hx]
   simp only [Rows.uptoBulk]
   omega
  have each' : ∀ j, j < len → ∃ z : List Value × α, (z.1.length = k ∧ ∀ i, i < k → W.cell? ((a.add (j * k)).add i) = z.1[i]?) ∧ ∃ b, b ≤ Rows.uptoBulk x.1 ∧ A z.1 z.2 b := by
   intro j hj
   have hj' := hel j hj
   rw [hC] at hj'
   have hjl : j < elems.length := by omega
   rw [List.getElem?_eq_getElem hjl] at hj'
   obtain ⟨cs, hcs, htr⟩ := Option.bind_eq_some_iff.1 hj'
   obtain ⟨_, h1, h2⟩ := World.cells?_some hcs
   obtain ⟨y, hy⟩ := each _ _ _ htr
   refine ⟨(cs, y), ⟨h1, h2⟩, _, ?_, hy⟩
   have := bulk_mem (elems.map (·.1)) elems[j].1 (List.mem_map.2 ⟨elems[j], List.getElem_mem hjl, rfl⟩)
   omega
  obtain ⟨l', hll, hp⟩ := list_of_each len each'
  have hlk : ∀ z ∈ l', z.1.length = k := fun z hz => by
   obtain ⟨j, hj, rfl⟩ := List.getElem_of_mem hz
   exact (hp j hj).1.1
  have hE : Els k (fun c (z : List Value × α) => c = z.1) (l'.flatMap Prod.fst) l' := els_flat' Prod.fst l' hlk
  refine ⟨l'.map Prod.snd, l'.flatMap Prod.fst, ?_, ⟨by rw [hE.len, List.length_map], fun j hj => ?_⟩, ?_⟩
  ·by_cases h0 : len = 0
   ·have : l' = [] := List.eq_nil_of_length_eq_zero (by omega)
    subst this
    refine ⟨some a, cap, a.block, by simp [h0], RS.nil _ _ _, fun _ => trivial, by simp, by simp only [maxLen] at hm; omega, fun e => by cases e⟩
   ·obtain ⟨b, off, spot⟩ := a
    have hc0 := (hp 0 (by omega)).1
    have hcz := hc0.2 0 hk
    rw [List.getElem?_eq_getElem (by omega)] at hcz
    have hspot : spot = none := by simpa [Addr.add] using World.cell?_spot hcz
    subst hspot
    refine ⟨some ⟨b, off, none⟩, cap, b, by simp [hll], .inr ⟨off, rfl, fun j u hj => ?_⟩, fun _ => trivial, by simp; omega, by simp only [maxLen] at hm; omega, fun e => by cases e⟩
    have hjl : j < (l'.flatMap Prod.fst).length := (List.getElem?_eq_some_iff.1 hj).1
    rw [hE.len] at hjl
    have hq : j / k < l'.length := Nat.div_lt_of_lt_mul (by rw [Nat.mul_comm]; exact hjl)
    have hel := hE.el (j / k) hq
    have hr : j % k < k := Nat.mod_lt _ hk
    have hj2 : j / k * k + j % k = j := by rw [Nat.mul_comm]; exact Nat.div_add_mod j k
    have hval : l'[j / k].1[j % k]? = some u := by
     rw [← hel, List.getElem?_take, if_pos hr, List.getElem?_drop, hj2]
     exact hj
    have hcell := (hp (j / k) hq).1.2 (j % k) hr
    rw [Addr.add_lit, Addr.add_lit, hval, Nat.add_assoc, hj2] at hcell
    exact hcell
  ·have hj' : j < l'.length := by simpa using hj
   rw [hE.el j hj']
   simpa using (hp j hj').2
  ·have := bulk_len (elems.map (·.1))
   simp at this ⊢
   omega

end

end Go.Proofs.YtildemmkhndhjaaGreatDoor
