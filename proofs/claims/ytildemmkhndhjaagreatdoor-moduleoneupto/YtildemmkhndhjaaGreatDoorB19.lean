/-
  What the proof leans on, part 19 of 28. The conditions stand in each theorem.
-/
import Derived.Test.YtildemmkhndhjaaGreatDoorB17
import Derived.Test.YtildemmkhndhjaaGreatDoorB10
import Derived.Test.YtildemmkhndhjaaGreatDoorB18
import Derived.Test.YtildemmkhndhjaaGreatDoorB14
import Derived.Test.YtildemmkhndhjaaGreatDoorB09
import Derived.Test.YtildemmkhndhjaaGreatDoorB03
import Derived.Test.YtildemmkhndhjaaGreatDoorB11
namespace Go.Proofs.YtildemmkhndhjaaGreatDoor
open Go.RowKit

theorem members_first {α : Type} {most : Nat} {g : List α → α → Int × Int} {l : List α} (h : ¬ most < l.length) : membersE most g l = firstE g (l.take 0) (l.drop 0) := by
 unfold membersE
 rw [if_neg h]
 rfl

theorem head_faces {c : Cl} (h : headE c = 0) : ¬ 16 < c.faces.length := by
 intro h2
 unfold headE at h
 by_cases a : c.flags ≠ 0 ∧ c.flags ≠ 1 ∧ c.flags ≠ 2
 ·rw [if_pos a] at h
  exact absurd h (by decide)
 ·rw [if_neg a] at h
  by_cases b : nameOK c.name = false ∨ nameOK c.super = false
  ·rw [if_pos b] at h
   exact absurd h (by decide)
  ·rw [if_neg b, if_pos h2] at h
   exact absurd h (by decide)

set_option maxHeartbeats 8000000 in
set_option maxRecDepth 100000 in
theorem rclass5_any {w : World} {P Q : Nat → Prop} (l : List En) {ve : Value} (hE0 : SlV w Q ve l.length (ecs l)) (hA : ∀ e ∈ l, e.2.1.length ≤ 1048576) (c : Cl) (hF : ClFit c) (hps : ∀ m ∈ c.methods, m.sig.1.length ≤ 2000000) {vf vd vm : Value} (hC : ClAt (SlR w P) vf vd vm c) :
  Calls Tryz.prog 95 #[ve, clV vf vd vm c] w fun e w' => e = .returned (bpV (classE l c)) ∧ Only [] w w' := by
 obtain ⟨hC1, hC2, mcs, hC3, hEl⟩ := hC
 obtain ⟨fo, fc, rfl, lf⟩ := SlV.shape hC1
 obtain ⟨do_, dc, rfl, ld⟩ := SlV.shape hC2
 obtain ⟨mo, mc, rfl, lm⟩ := SlV.shape hC3
 have HH := fun W => rhead_any c (fo := fo) (dd := do_) (fc := fc) (dc := dc) (.slice mo c.methods.length mc) hF.name hF.super lf ld W
 have H1 := fun W (hW : Only [] w W) i hi => rface_any (P := P) c i hi hF.faces (vd := .slice do_ c.fields.length dc) (vm := .slice mo c.methods.length mc) (SlV.only hC1 hW (by simp))
 have H2 := fun W (hW : Only [] w W) i hi => rfield5_any (P := P) c i hi hF.fields (vf := .slice fo c.faces.length fc) (vm := .slice mo c.methods.length mc) (SlV.only hC2 hW (by simp))
 have H3 := fun W (hW : Only [] w W) i hi => rmethod5_any (P := P) (Q := Q) l (SlV.only hE0 hW (by simp)) hA c.flags c.name c.super c.methods i hi (fun m hm => ⟨hF.methods m hm, hps m hm⟩) (vf := .slice fo c.faces.length fc) (vd := .slice do_ c.fields.length dc) (SlV.only hC3 hW (by simp)) (hEl.imp fun _ _ _ h => h.imp (slr_only hW (by simp)))
 obtain ⟨R, hR⟩ : ∃ R, R = classE l c := ⟨_, rfl⟩
 rw [← hR]
 unfold classE at hR
 have hf16 := head_faces (c := c)
 unfold clV at HH H1 H2 ⊢
 clear hC1 hC2 hC3 hEl hF hps hE0 hA
 generalize headE c = he at *
 obtain ⟨cf, cn, cs, aF, aD, aM⟩ := c
 simp only at HH H1 H2 H3 hR hf16 lf ld lm ⊢
 replace HH := hid HH
 replace H1 := hid H1
 replace H2 := hid H2
 replace H3 := hid H3
 replace hR := hid hR
 have o1 := ((Only.refl [] w).alloc (.cells #[.int .i64 cf, .string (str cn), .string (str cs), .slice fo aF.length fc, .slice do_ aD.length dc, .slice mo aM.length mc] 28)).alloc (.cells #[.int .i64 0, .int .i64 0, .int .i64 0, .int .i64 0] 54)
 have S1 := hid ((cl6_new w (.int .i64 cf) (.string (str cn)) (.string (str cs)) (.slice fo aF.length fc) (.slice do_ aD.length dc) (.slice mo aM.length mc) 28).only ((Only.refl [] _).alloc (.cells #[.int .i64 0, .int .i64 0, .int .i64 0, .int .i64 0] 54)) (by simp))
 have B1 := b4_new (w.alloc (.cells #[.int .i64 cf, .string (str cn), .string (str cs), .slice fo aF.length fc, .slice do_ aD.length dc, .slice mo aM.length mc] 28)) (.int .i64 0) (.int .i64 0) (.int .i64 0) (.int .i64 0) 54
 rw [World.size_alloc] at B1
 replace B1 := hid B1
 obtain ⟨c0, c1, c2, c3, c4, c5, _, _, _, _, _, _⟩ := S1.out
 obtain ⟨b0, b1, b2, b3, k0, k1, k2, k3⟩ := B1.out
 by_cases hz : he = 0
 case neg =>
  have hRR : R = (0, 0, 0, he) := by rw [hR.out]; exact orE_left hz
  subst hRR
  have n1 : (he != 0) = true := by simpa using hz
  have m1 : (he == 0) = false := by simpa using hz
  clear hR H1 H2 H3
  go_enter Tryz.func95, Tryz.ntmps95
  go_wp2_with fail
  refine (HH.out _).mono ?_
  rintro e w3 ⟨rfl, o3⟩
  have B3 := hid (B1.out.only o3 (by simp))
  obtain ⟨b0, b1, b2, b3, k0, k1, k2, k3⟩ := B3.out
  clear HH
  go_wp2_with fail
  obtain ⟨T, oT⟩ := B3.out.put (.int .i64 0) (.int .i64 0) (.int .i64 0) (.int .i64 he)
  obtain ⟨d0, d1, d2, d3, _, _, _, _⟩ := T
  refine bodyPost_ret (v := .agg #[.int .i64 0, .int .i64 0, .int .i64 0, .int .i64 he]) (by simp [results, Tryz.results95, go_sem, d0, d1, d2, d3]) rfl ?_
  exact ⟨rfl, (o1.trans o3 (by simp)).next oT (by simp)⟩
 subst hz
 have h16 := hf16 rfl
 clear hf16
 have hR1 : Hid (R = orE (firstE (at0 faceE) (aF.take 0) (aF.drop 0)) (orE (membersE 64 (at0 fieldE) aD) (membersE 64 (methodE l cf) aM))) := by
  unfold Hid
  rw [hR.out, orE_right rfl, members_first h16]
 clear hR h16
 go_enter Tryz.func95, Tryz.ntmps95
 go_wp2_with fail
 refine (HH.out _).mono ?_
 rintro e w3 ⟨rfl, o3⟩
 have S3 := hid (S1.out.only o3 (by simp))
 have B3 := hid (B1.out.only o3 (by simp))
 have oo3 := hid (o1.trans o3 (by simp))
 clear HH S1 B1 o1 o3 c0 c1 c2 c3 c4 c5 b0 b1 b2 b3 k0 k1 k2 k3
 obtain ⟨c0, c1, c2, c3, c4, c5, _, _, _, _, _, _⟩ := S3.out
 obtain ⟨b0, b1, b2, b3, k0, k1, k2, k3⟩ := B3.out
 go_wp2_with fail
 clear c0 c1 c2 c3 c4 c5 b0 b1 b2 b3 k0 k1 k2 k3
 go_loopw [6] (fun v wr => ∃ j : Nat, j ≤ aF.length ∧ v = .int .i64 (j : Int) ∧ Hid (R = orE (firstE (at0 faceE) (aF.take j) (aF.drop j)) (orE (membersE 64 (at0 fieldE) aD) (membersE 64 (methodE l cf) aM))) ∧ Hid (Cl6 wr w.heap.size (.int .i64 cf) (.string (str cn)) (.string (str cs)) (.slice fo aF.length fc) (.slice do_ aD.length dc) (.slice mo aM.length mc)) ∧ Hid (B4 wr (w.heap.size + 1) (.int .i64 0) (.int .i64 0) (.int .i64 0) (.int .i64 0)) ∧ Hid (Only [] w wr)) (fun v _ => aF.length - (intOf v).toNat)
 case atStart => exact ⟨0, by omega, rfl, hR1, S3, B3, oo3⟩
 case round =>
  obtain ⟨j, hj, rfl, hq, hS, hB, hor⟩ := hrel
  clear S3 B3 oo3 hR1
  obtain ⟨c0, c1, c2, c3, c4, c5, _, _, _, _, _, _⟩ := hS.out
  obtain ⟨b0, b1, b2, b3, k0, k1, k2, k3⟩ := hB.out
  by_cases hlt : j < aF.length
  ·have g1 : ((j : Int) < (aF.length : Int)) := by omega
   have HC := H1.out wr hor.out j hlt
   have hdr := firstE_drop (at0 faceE) aF j hlt
   have hq2 := hq.out
   rw [hdr] at hq2
   replace hq2 := hid hq2
   clear hdr hq
   have hat : (at0 faceE) (aF.take j) aF[j] = (0, faceE (aF.take j) aF[j]) := rfl
   rw [hat] at hq2
   clear hat
   generalize faceE (aF.take j) aF[j] = xe at *
   simp only at hq2
   replace HC := hid HC
   by_cases hxe : xe = 0
   ·subst hxe
    have hq3 : Hid (R = orE (firstE (at0 faceE) (aF.take (j + 1)) (aF.drop (j + 1))) (orE (membersE 64 (at0 fieldE) aD) (membersE 64 (methodE l cf) aM))) := by
     unfold Hid
     rw [hq2.out, if_pos rfl]
    clear hq2
    go_wp2_with fail
    refine HC.out.mono ?_
    rintro e w4 ⟨rfl, o4⟩
    go_wp2_with fail
    exact ⟨⟨j + 1, by omega, by go_num, hq3, hid (hS.out.only o4 (by simp)), hid (hB.out.only o4 (by simp)), hid (hor.out.trans o4 (by simp))⟩, by simp [intOf]; omega⟩
   ·have hRR : R = (0, (j : Int), 0, xe) := by
     rw [hq2.out, if_neg hxe]
     exact orE_left hxe
    subst hRR
    have n1 : (xe != 0) = true := by simpa using hxe
    have m1 : (xe == 0) = false := by simpa using hxe
    clear hq2
    go_wp2_with fail
    refine HC.out.mono ?_
    rintro e w4 ⟨rfl, o4⟩
    have B4' := hid (hB.out.only o4 (by simp))
    clear b0 b1 b2 b3 k0 k1 k2 k3
    obtain ⟨b0, b1, b2, b3, k0, k1, k2, k3⟩ := B4'.out
    clear HC
    go_wp2_with fail
    obtain ⟨T, oT⟩ := B4'.out.put (.int .i64 0) (.int .i64 (j : Int)) (.int .i64 0) (.int .i64 xe)
    obtain ⟨d0, d1, d2, d3, _, _, _, _⟩ := T
    refine bodyPost_ret (v := .agg #[.int .i64 0, .int .i64 (j : Int), .int .i64 0, .int .i64 xe]) (by simp [results, Tryz.results95, go_sem, d0, d1, d2, d3]) rfl ?_
    exact ⟨rfl, (hor.out.trans o4 (by simp)).next oT (by simp)⟩
  ·have g1 : ¬ ((j : Int) < (aF.length : Int)) := by omega
   have hok : firstE (at0 faceE) (aF.take j) (aF.drop j) = ok4 := by
    rw [List.drop_of_length_le (by omega)]
    rfl
   have hq3 := hq.out
   rw [hok, orE_right rfl] at hq3
   replace hq3 := hid hq3
   clear hq hok
   by_cases hmn : 64 < aD.length
   ·have gm : (64 : Int) < (aD.length : Int) := by omega
    have hRR : R = (0, 0, 0, 4) := by
     rw [hq3.out]
     unfold membersE
     rw [if_pos hmn]
     exact orE_left (by decide)
    subst hRR
    clear hq3
    go_wp2_with fail
    obtain ⟨T, oT⟩ := hB.out.put (.int .i64 0) (.int .i64 0) (.int .i64 0) (.int .i64 4)
    obtain ⟨d0, d1, d2, d3, _, _, _, _⟩ := T
    refine bodyPost_ret (v := .agg #[.int .i64 0, .int .i64 0, .int .i64 0, .int .i64 4]) (by simp [results, Tryz.results95, go_sem, d0, d1, d2, d3]) rfl ?_
    exact ⟨rfl, (hor.out).next oT (by simp)⟩
   ·have gm : ¬ (64 : Int) < (aD.length : Int) := by omega
    have hR2 := hq3.out
    rw [members_first (l := aD) hmn] at hR2
    replace hR2 := hid hR2
    clear hq3
    have S3 := hS
    have B3 := hB
    have oo3 := hor
    clear hS hB hor
    go_wp2_with fail
    clear c0 c1 c2 c3 c4 c5 b0 b1 b2 b3 k0 k1 k2 k3
    go_loopw [8] (fun v wr => ∃ j : Nat, j ≤ aD.length ∧ v = .int .i64 (j : Int) ∧ Hid (R = orE (firstE (at0 fieldE) (aD.take j) (aD.drop j)) (membersE 64 (methodE l cf) aM)) ∧ Hid (Cl6 wr w.heap.size (.int .i64 cf) (.string (str cn)) (.string (str cs)) (.slice fo aF.length fc) (.slice do_ aD.length dc) (.slice mo aM.length mc)) ∧ Hid (B4 wr (w.heap.size + 1) (.int .i64 0) (.int .i64 0) (.int .i64 0) (.int .i64 0)) ∧ Hid (Only [] w wr)) (fun v _ => aD.length - (intOf v).toNat)
    case atStart => exact ⟨0, by omega, rfl, hR2, S3, B3, oo3⟩
    case round =>
     obtain ⟨j, hj, rfl, hq, hS, hB, hor⟩ := hrel
     clear S3 B3 oo3 hR2
     obtain ⟨c0, c1, c2, c3, c4, c5, _, _, _, _, _, _⟩ := hS.out
     obtain ⟨b0, b1, b2, b3, k0, k1, k2, k3⟩ := hB.out
     by_cases hlt : j < aD.length
     ·have g1 : ((j : Int) < (aD.length : Int)) := by omega
      have HC := H2.out wr hor.out j hlt
      have hdr := firstE_drop (at0 fieldE) aD j hlt
      have hq2 := hq.out
      rw [hdr] at hq2
      replace hq2 := hid hq2
      clear hdr hq
      have hat : (at0 fieldE) (aD.take j) aD[j] = (0, fieldE (aD.take j) aD[j]) := rfl
      rw [hat] at hq2
      clear hat
      generalize fieldE (aD.take j) aD[j] = xe at *
      simp only at hq2
      replace HC := hid HC
      by_cases hxe : xe = 0
      ·subst hxe
       have hq3 : Hid (R = orE (firstE (at0 fieldE) (aD.take (j + 1)) (aD.drop (j + 1))) (membersE 64 (methodE l cf) aM)) := by
        unfold Hid
        rw [hq2.out, if_pos rfl]
       clear hq2
       go_wp2_with fail
       refine HC.out.mono ?_
       rintro e w4 ⟨rfl, o4⟩
       go_wp2_with fail
       exact ⟨⟨j + 1, by omega, by go_num, hq3, hid (hS.out.only o4 (by simp)), hid (hB.out.only o4 (by simp)), hid (hor.out.trans o4 (by simp))⟩, by simp [intOf]; omega⟩
      ·have hRR : R = (0, (j : Int), 0, xe) := by
        rw [hq2.out, if_neg hxe]
        exact orE_left hxe
       subst hRR
       have n1 : (xe != 0) = true := by simpa using hxe
       have m1 : (xe == 0) = false := by simpa using hxe
       clear hq2
       go_wp2_with fail
       refine HC.out.mono ?_
       rintro e w4 ⟨rfl, o4⟩
       have B4' := hid (hB.out.only o4 (by simp))
       clear b0 b1 b2 b3 k0 k1 k2 k3
       obtain ⟨b0, b1, b2, b3, k0, k1, k2, k3⟩ := B4'.out
       clear HC
       go_wp2_with fail
       obtain ⟨T, oT⟩ := B4'.out.put (.int .i64 0) (.int .i64 (j : Int)) (.int .i64 0) (.int .i64 xe)
       obtain ⟨d0, d1, d2, d3, _, _, _, _⟩ := T
       refine bodyPost_ret (v := .agg #[.int .i64 0, .int .i64 (j : Int), .int .i64 0, .int .i64 xe]) (by simp [results, Tryz.results95, go_sem, d0, d1, d2, d3]) rfl ?_
       exact ⟨rfl, (hor.out.trans o4 (by simp)).next oT (by simp)⟩
     ·have g1 : ¬ ((j : Int) < (aD.length : Int)) := by omega
      have hok : firstE (at0 fieldE) (aD.take j) (aD.drop j) = ok4 := by
       rw [List.drop_of_length_le (by omega)]
       rfl
      have hq3 := hq.out
      rw [hok, orE_right rfl] at hq3
      replace hq3 := hid hq3
      clear hq hok
      by_cases hmn : 64 < aM.length
      ·have gm : (64 : Int) < (aM.length : Int) := by omega
       have hRR : R = (0, 0, 0, 4) := by
        rw [hq3.out]
        unfold membersE
        rw [if_pos hmn]
       subst hRR
       clear hq3
       go_wp2_with fail
       obtain ⟨T, oT⟩ := hB.out.put (.int .i64 0) (.int .i64 0) (.int .i64 0) (.int .i64 4)
       obtain ⟨d0, d1, d2, d3, _, _, _, _⟩ := T
       refine bodyPost_ret (v := .agg #[.int .i64 0, .int .i64 0, .int .i64 0, .int .i64 4]) (by simp [results, Tryz.results95, go_sem, d0, d1, d2, d3]) rfl ?_
       exact ⟨rfl, (hor.out).next oT (by simp)⟩
      ·have gm : ¬ (64 : Int) < (aM.length : Int) := by omega
       have hR2 := hq3.out
       rw [members_first (l := aM) hmn] at hR2
       replace hR2 := hid hR2
       clear hq3
       have S3 := hS
       have B3 := hB
       have oo3 := hor
       clear hS hB hor
       go_wp2_with fail
       clear c0 c1 c2 c3 c4 c5 b0 b1 b2 b3 k0 k1 k2 k3
       go_loopw [10] (fun v wr => ∃ j : Nat, j ≤ aM.length ∧ v = .int .i64 (j : Int) ∧ Hid (R = firstE (methodE l cf) (aM.take j) (aM.drop j)) ∧ Hid (Cl6 wr w.heap.size (.int .i64 cf) (.string (str cn)) (.string (str cs)) (.slice fo aF.length fc) (.slice do_ aD.length dc) (.slice mo aM.length mc)) ∧ Hid (B4 wr (w.heap.size + 1) (.int .i64 0) (.int .i64 0) (.int .i64 0) (.int .i64 0)) ∧ Hid (Only [] w wr)) (fun v _ => aM.length - (intOf v).toNat)
       case atStart => exact ⟨0, by omega, rfl, hR2, S3, B3, oo3⟩
       case round =>
        obtain ⟨j, hj, rfl, hq, hS, hB, hor⟩ := hrel
        clear S3 B3 oo3 hR2
        obtain ⟨c0, c1, c2, c3, c4, c5, _, _, _, _, _, _⟩ := hS.out
        obtain ⟨b0, b1, b2, b3, k0, k1, k2, k3⟩ := hB.out
        by_cases hlt : j < aM.length
        ·have g1 : ((j : Int) < (aM.length : Int)) := by omega
         have HC := H3.out wr hor.out j hlt
         have hdr := firstE_drop (methodE l cf) aM j hlt
         have hq2 := hq.out
         rw [hdr] at hq2
         replace hq2 := hid hq2
         clear hdr hq
         generalize (methodE l cf) (aM.take j) aM[j] = x at *
         obtain ⟨xa, xe⟩ := x
         simp only at HC hq2
         replace HC := hid HC
         by_cases hxe : xe = 0
         ·subst hxe
          have hq3 : Hid (R = firstE (methodE l cf) (aM.take (j + 1)) (aM.drop (j + 1))) := by
           unfold Hid
           rw [hq2.out, if_pos rfl]
          clear hq2
          go_wp2_with fail
          refine HC.out.mono ?_
          rintro e w4 ⟨rfl, o4⟩
          go_wp2_with fail
          exact ⟨⟨j + 1, by omega, by go_num, hq3, hid (hS.out.only o4 (by simp)), hid (hB.out.only o4 (by simp)), hid (hor.out.trans o4 (by simp))⟩, by simp [intOf]; omega⟩
         ·have hRR : R = (0, (j : Int), xa, xe) := by
           rw [hq2.out, if_neg hxe]
          subst hRR
          have n1 : (xe != 0) = true := by simpa using hxe
          have m1 : (xe == 0) = false := by simpa using hxe
          clear hq2
          go_wp2_with fail
          refine HC.out.mono ?_
          rintro e w4 ⟨rfl, o4⟩
          have B4' := hid (hB.out.only o4 (by simp))
          clear b0 b1 b2 b3 k0 k1 k2 k3
          obtain ⟨b0, b1, b2, b3, k0, k1, k2, k3⟩ := B4'.out
          clear HC
          go_wp2_with fail
          obtain ⟨T, oT⟩ := B4'.out.put (.int .i64 0) (.int .i64 (j : Int)) (.int .i64 xa) (.int .i64 xe)
          obtain ⟨d0, d1, d2, d3, _, _, _, _⟩ := T
          refine bodyPost_ret (v := .agg #[.int .i64 0, .int .i64 (j : Int), .int .i64 xa, .int .i64 xe]) (by simp [results, Tryz.results95, go_sem, d0, d1, d2, d3]) rfl ?_
          exact ⟨rfl, (hor.out.trans o4 (by simp)).next oT (by simp)⟩
        ·have g1 : ¬ ((j : Int) < (aM.length : Int)) := by omega
         have hok : firstE (methodE l cf) (aM.take j) (aM.drop j) = ok4 := by
          rw [List.drop_of_length_le (by omega)]
          rfl
         have hq3 := hq.out
         rw [hok] at hq3
         replace hq3 := hid hq3
         clear hq hok
         obtain rfl := hq3.out
         clear hq3
         go_wp2_with fail
         obtain ⟨T, oT⟩ := hB.out.put (.int .i64 0) (.int .i64 0) (.int .i64 0) (.int .i64 0)
         obtain ⟨d0, d1, d2, d3, _, _, _, _⟩ := T
         refine bodyPost_ret (v := .agg #[.int .i64 0, .int .i64 0, .int .i64 0, .int .i64 0]) (by simp [results, Tryz.results95, go_sem, d0, d1, d2, d3]) rfl ?_
         exact ⟨rfl, (hor.out).next oT (by simp)⟩

set_option maxHeartbeats 8000000 in
set_option maxRecDepth 100000 in
theorem rcheck5_any {w : World} {P : Nat → Prop} (m : Mo) (hF : MoFit m) (hA : ∀ e ∈ m.pool, e.2.1.length ≤ 1048576) (hps : ∀ c ∈ m.classes, ∀ x ∈ c.methods, x.sig.1.length ≤ 2000000) {vp vc : Value} (hM : MoAt (SlR w P) vp vc m) :
    Calls Tryz.prog 36 #[.agg #[vp, vc]] w fun e w' => e = .returned (bpV (checkM m)) ∧ Only [] w w' := by
  obtain ⟨hP0, ccs, hC0, hEl⟩ := hM
  obtain ⟨po, pc, rfl, lp⟩ := SlV.shape hP0
  obtain ⟨co, cc, rfl, lc⟩ := SlV.shape hC0
  obtain ⟨dp, rp⟩ := SlV.rs hP0
  obtain ⟨dc, rc⟩ := SlV.rs hC0
  obtain ⟨R, hR⟩ : ∃ R, R = checkM m := ⟨_, rfl⟩
  rw [← hR]
  unfold checkM at hR
  obtain ⟨pl, cl⟩ := m
  simp only at hR hP0 hC0 hEl lp lc rp rc hA hps ⊢
  have HK := fun W (hW : Only [] w W) => rcheckE_any (cap := pc) (ES.of_rs (rp.only0 hW)) lp hA
  have HC := fun W (hW : Only [] w W) (c : Cl) (hc : c ∈ cl) vf vd vm (hat : ClAt (SlR w P) vf vd vm c) => rclass5_any (P := P) (Q := P) pl (SlV.only hP0 hW (by simp)) hA c (hF.classes c hc) (hps c hc) (hat.only0 hW)
  clear hP0 hC0 hF hA hps
  generalize checkE pl = ck at *
  obtain ⟨ca, ce⟩ := ck
  simp only at hR HK
  replace HK := hid HK
  replace HC := hid HC
  replace hR := hid hR
  replace hEl := hid hEl
  replace rc := hid rc
  clear rp
  have o1 := ((Only.refl [] w).alloc (.cells #[.slice po pl.length pc, .slice co cl.length cc] 32)).alloc (.cells #[.int .i64 0, .int .i64 0, .int .i64 0, .int .i64 0] 54)
  have S1 := hid ((mo2_new w (.slice po pl.length pc) (.slice co cl.length cc) 32).only ((Only.refl [] _).alloc (.cells #[.int .i64 0, .int .i64 0, .int .i64 0, .int .i64 0] 54)) (by simp))
  have B1 := b4_new (w.alloc (.cells #[.slice po pl.length pc, .slice co cl.length cc] 32)) (.int .i64 0) (.int .i64 0) (.int .i64 0) (.int .i64 0) 54
  rw [World.size_alloc] at B1
  replace B1 := hid B1
  obtain ⟨c0, c1, _, _⟩ := S1.out
  obtain ⟨b0, b1, b2, b3, k0, k1, k2, k3⟩ := B1.out
  by_cases hz : ce = 0
  case neg =>
    have hRR : R = (0, 0, ca, ce) := by
      rw [hR.out, if_neg hz]
      exact orE_left hz
    subst hRR
    have n1 : (ce != 0) = true := by simpa using hz
    have m1 : (ce == 0) = false := by simpa using hz
    clear hR HC
    go_enter Tryz.func36, Tryz.ntmps36
    go_wp2_with fail
    refine (HK.out _ o1).mono ?_
    rintro e w3 ⟨rfl, o3⟩
    have B3 := hid (B1.out.only o3 (by simp))
    clear b0 b1 b2 b3 k0 k1 k2 k3
    obtain ⟨b0, b1, b2, b3, k0, k1, k2, k3⟩ := B3.out
    clear HK
    go_wp2_with fail
    obtain ⟨T, oT⟩ := B3.out.put (.int .i64 0) (.int .i64 0) (.int .i64 ca) (.int .i64 ce)
    obtain ⟨d0, d1, d2, d3, _, _, _, _⟩ := T
    refine bodyPost_ret (v := .agg #[.int .i64 0, .int .i64 0, .int .i64 ca, .int .i64 ce]) (by simp [results, Tryz.results36, go_sem, d0, d1, d2, d3]) rfl ?_
    exact ⟨rfl, (o1.trans o3 (by simp)).next oT (by simp)⟩
  subst hz
  have hR1 : Hid (R = if 64 < cl.length then (0, 0, 0, 4) else orE (classesE pl 0 cl) (twiceE [] cl)) := by
    unfold Hid
    rw [hR.out, orE_right rfl]
  clear hR
  by_cases hmn : 64 < cl.length
  · have gm : (64 : Int) < (cl.length : Int) := by omega
    have hRR : R = (0, 0, 0, 4) := by rw [hR1.out, if_pos hmn]
    subst hRR
    clear hR1 HC
    go_enter Tryz.func36, Tryz.ntmps36
    go_wp2_with fail
    refine (HK.out _ o1).mono ?_
    rintro e w3 ⟨rfl, o3⟩
    have S3 := hid (S1.out.only o3 (by simp))
    have B3 := hid (B1.out.only o3 (by simp))
    clear c0 c1 b0 b1 b2 b3 k0 k1 k2 k3
    obtain ⟨c0, c1, _, _⟩ := S3.out
    obtain ⟨b0, b1, b2, b3, k0, k1, k2, k3⟩ := B3.out
    clear HK
    go_wp2_with fail
    obtain ⟨T, oT⟩ := B3.out.put (.int .i64 0) (.int .i64 0) (.int .i64 0) (.int .i64 4)
    obtain ⟨d0, d1, d2, d3, _, _, _, _⟩ := T
    refine bodyPost_ret (v := .agg #[.int .i64 0, .int .i64 0, .int .i64 0, .int .i64 4]) (by simp [results, Tryz.results36, go_sem, d0, d1, d2, d3]) rfl ?_
    exact ⟨rfl, (o1.trans o3 (by simp)).next oT (by simp)⟩
  have gm : ¬ (64 : Int) < (cl.length : Int) := by omega
  have hR2 : Hid (R = orE (classesE pl 0 (cl.drop 0)) (twiceE [] cl)) := by
    unfold Hid
    rw [hR1.out, if_neg hmn]
    rfl
  clear hR1 hmn
  go_enter Tryz.func36, Tryz.ntmps36
  go_wp2_with fail
  refine (HK.out _ o1).mono ?_
  rintro e w3 ⟨rfl, o3⟩
  have S3 := hid (S1.out.only o3 (by simp))
  have B3 := hid (B1.out.only o3 (by simp))
  have oo3 := hid (o1.trans o3 (by simp))
  clear HK S1 B1 o1 o3 c0 c1 b0 b1 b2 b3 k0 k1 k2 k3
  obtain ⟨c0, c1, _, _⟩ := S3.out
  go_wp2_with fail
  clear c0 c1
  go_loopw [5] (fun v wr => ∃ j : Nat, j ≤ cl.length ∧ v = .int .i64 (j : Int) ∧ Hid (R = orE (classesE pl j (cl.drop j)) (twiceE [] cl)) ∧ Hid (Mo2 wr w.heap.size (.slice po pl.length pc) (.slice co cl.length cc)) ∧ Hid (B4 wr (w.heap.size + 1) (.int .i64 0) (.int .i64 0) (.int .i64 0) (.int .i64 0)) ∧ Hid (Only [] w wr)) (fun v _ => cl.length - (intOf v).toNat)
  case atStart => exact ⟨0, by omega, rfl, hR2, S3, B3, oo3⟩
  case round =>
    obtain ⟨j, hj, rfl, hq, hS, hB, hor⟩ := hrel
    clear S3 B3 oo3 hR2
    obtain ⟨c0, c1, _, _⟩ := hS.out
    by_cases hlt : j < cl.length
    · have g1 : ((j : Int) < (cl.length : Int)) := by omega
      obtain ⟨off, vf, vd, vm, rfl, hat, y0, y1, y2, y3, y4, y5⟩ := cl_cells (rc.out.only0 hor.out) hEl.out hlt
      have HK := fun W (hW : Only [] wr W) => HC.out W (hor.out.trans hW (by simp)) cl[j] (List.getElem_mem hlt) vf vd vm hat
      clear hat
      have hq2 := hq.out
      rw [classesE_drop pl cl j hlt] at hq2
      unfold clV at HK
      clear hq
      generalize classE pl cl[j] = x at *
      generalize cl[j] = c at *
      obtain ⟨x0, x1, x2, x3⟩ := x
      obtain ⟨cf, cn, cs, aF, aD, aM⟩ := c
      simp only [bpV] at HK hq2 y0 y1 y2
      replace HK := hid HK
      replace hq2 := hid hq2
      have z0 := fun o => cell_alloc o y0
      have z1 := fun o => cell_alloc o y1
      have z2 := fun o => cell_alloc o y2
      have z3 := fun o => cell_alloc o y3
      have z4 := fun o => cell_alloc o y4
      have z5 := fun o => cell_alloc o y5
      have zc0 := fun o => cell_alloc o c0
      have zc1 := fun o => cell_alloc o c1
      go_wp2_with fail
      go_region_with (go_at_call 95; refine (HK.out _ ?_).mono ?_; (first | (exact (Only.refl [] _).drew) | (exact (Only.refl [] _).drew.alloc _) | (exact ((Only.refl [] _).alloc _).drew)); rintro e w4 ⟨rfl, o4⟩; have oW : Only [] wr w4 := (by first | (exact (Only.refl [] _).drew.trans o4 (by simp)) | (exact ((Only.refl [] _).drew.alloc _).trans o4 (by simp)) | (exact ((Only.refl [] _).alloc _).drew.trans o4 (by simp))); (first | (have tt : B4 w4 wr.heap.size (.int .i64 0) (.int .i64 0) (.int .i64 0) (.int .i64 0) := (b4_new wr.drew (.int .i64 0) (.int .i64 0) (.int .i64 0) (.int .i64 0) 54).only o4 (by simp); obtain ⟨t0, t1, t2, t3, u0, u1, u2, u3⟩ := tt) | skip))
      all_goals
        have hbl := World.block_lt_of_cell? wr _ hB.out.c0
        have hsz := oW.size
        first
        | (have T9 := hid ((B4.mk t0 t1 t2 t3 u0 u1 u2 u3).put (.int .i64 x0) (.int .i64 x1) (.int .i64 x2) (.int .i64 x3)).1
           have o9 := hid (oW.next ((B4.mk t0 t1 t2 t3 u0 u1 u2 u3).put (.int .i64 x0) (.int .i64 x1) (.int .i64 x2) (.int .i64 x3)).2 (by simp))
           have hp9 : w.heap.size + 1 < wr.heap.size := hbl
           clear t0 t1 t2 t3 u0 u1 u2 u3
           have M9 := hid (hS.out.only o9.out (by simp))
           have Z9 := hid (hB.out.only o9.out (by simp))
           have O9 := hid (hor.out.trans o9.out (by simp))
           clear o9 o4 oW hbl hsz hS hB hor z0 z1 z2 z3 z4 z5 zc0 zc1 y0 y1 y2 y3 y4 y5 c0 c1
           generalize (((w4.setCell ⟨wr.heap.size, 0, none⟩ (.int .i64 x0)).setCell ⟨wr.heap.size, 1, none⟩ (.int .i64 x1)).setCell ⟨wr.heap.size, 2, none⟩ (.int .i64 x2)).setCell ⟨wr.heap.size, 3, none⟩ (.int .i64 x3) = W9 at *
           generalize wr.heap.size = p9 at *)
        | (have T9 := hid (b4_new w4 (.int .i64 x0) (.int .i64 x1) (.int .i64 x2) (.int .i64 x3) 54)
           have o9 := hid (oW.alloc (.cells #[.int .i64 x0, .int .i64 x1, .int .i64 x2, .int .i64 x3] 54))
           have hp9 : w.heap.size + 1 < w4.heap.size := Nat.lt_of_lt_of_le hbl hsz
           have M9 := hid (hS.out.only o9.out (by simp))
           have Z9 := hid (hB.out.only o9.out (by simp))
           have O9 := hid (hor.out.trans o9.out (by simp))
           clear o9 o4 oW hbl hsz hS hB hor z0 z1 z2 z3 z4 z5 zc0 zc1 y0 y1 y2 y3 y4 y5 c0 c1
           generalize w4.alloc (.cells #[.int .i64 x0, .int .i64 x1, .int .i64 x2, .int .i64 x3] 54) = W9 at *
           generalize w4.heap.size = p9 at *)
        obtain ⟨c0, c1, _, _⟩ := M9.out
        by_cases hx : x3 = 0
        · subst hx
          obtain ⟨t0, t1, t2, t3, u0, u1, u2, u3⟩ := T9.out
          have hq3 : Hid (R = orE (classesE pl (j + 1) (cl.drop (j + 1))) (twiceE [] cl)) := by
            unfold Hid
            rw [hq2.out, if_pos rfl]
          clear hq2 HK
          go_wp2_with fail
          exact ⟨⟨j + 1, by omega, by go_num, hq3, M9, Z9, O9⟩, by simp [intOf]; omega⟩
        · have hRR : R = ((j : Int), x1, x2, x3) := by
            rw [hq2.out, if_neg hx]
            exact orE_left hx
          subst hRR
          have n1 : (x3 != 0) = true := by simpa using hx
          have m1 : (x3 == 0) = false := by simpa using hx
          have Z10 := hid (Z9.out.only ((Only.refl [p9] W9).setCell (p := ⟨p9, 0, none⟩) (.inl (by simp)) (.int .i64 (j : Int))) (by simp; omega))
          have O10 := hid (O9.out.next ((Only.refl [p9] W9).setCell (p := ⟨p9, 0, none⟩) (.inl (by simp)) (.int .i64 (j : Int))) (by simp; omega))
          have T10 := T9.out.put0 (.int .i64 (j : Int))
          obtain ⟨t0, t1, t2, t3, u0, u1, u2, u3⟩ := T9.out
          obtain ⟨v0, v1, v2, v3, _, _, _, _⟩ := T10
          obtain ⟨b0, b1, b2, b3, k0, k1, k2, k3⟩ := Z10.out
          clear hq2 HK
          go_wp2_with fail
          obtain ⟨T, oT⟩ := Z10.out.put (.int .i64 (j : Int)) (.int .i64 x1) (.int .i64 x2) (.int .i64 x3)
          obtain ⟨d0, d1, d2, d3, _, _, _, _⟩ := T
          refine bodyPost_ret (v := .agg #[.int .i64 (j : Int), .int .i64 x1, .int .i64 x2, .int .i64 x3]) (by simp [results, Tryz.results36, go_sem, d0, d1, d2, d3]) rfl ?_
          exact ⟨rfl, (O10.out).next oT (by simp)⟩
    · have g1 : ¬ ((j : Int) < (cl.length : Int)) := by omega
      have hR3 : Hid (R = twiceE (cl.take 0) (cl.drop 0)) := by
        have h0 := hq.out
        rw [List.drop_of_length_le (by omega)] at h0
        unfold Hid
        rw [h0]
        exact orE_right rfl
      have S3 := hS
      have B3 := hB
      have oo3 := hor
      clear hq hS hB hor HC
      go_wp2_with fail
      clear c0 c1 g1 hj
      go_loopw [7] (fun v wr => ∃ j : Nat, j ≤ cl.length ∧ v = .int .i64 (j : Int) ∧ Hid (R = twiceE (cl.take j) (cl.drop j)) ∧ Hid (Mo2 wr w.heap.size (.slice po pl.length pc) (.slice co cl.length cc)) ∧ Hid (B4 wr (w.heap.size + 1) (.int .i64 0) (.int .i64 0) (.int .i64 0) (.int .i64 0)) ∧ Hid (Only [] w wr)) (fun v _ => cl.length - (intOf v).toNat)
      case atStart => exact ⟨0, by omega, rfl, hR3, S3, B3, oo3⟩
      case round =>
        obtain ⟨j, hj, rfl, hq, hS, hB, hor⟩ := hrel
        clear S3 B3 oo3 hR3
        obtain ⟨c0, c1, _, _⟩ := hS.out
        by_cases hlt : j < cl.length
        · have g1 : ((j : Int) < (cl.length : Int)) := by omega
          have hdr := hq.out
          rw [twiceE_drop cl j hlt] at hdr
          replace hdr := hid hdr
          have S4 := hS
          have B4' := hB
          have oo4 := hor
          clear hq hS hB hor
          go_wp2_with fail
          clear c0 c1
          go_loopw [8] (fun v wr => ∃ k : Nat, k ≤ j ∧ v = .int .i64 (k : Int) ∧ Hid (∀ i (hi : i < cl.length), i < k → decide (cl[i].name = cl[j].name) = false) ∧ Hid (Mo2 wr w.heap.size (.slice po pl.length pc) (.slice co cl.length cc)) ∧ Hid (B4 wr (w.heap.size + 1) (.int .i64 0) (.int .i64 0) (.int .i64 0) (.int .i64 0)) ∧ Hid (Only [] w wr)) (fun v _ => j - (intOf v).toNat)
          case atStart => exact ⟨0, by omega, rfl, hid (fun i hi h => by omega), S4, B4', oo4⟩
          case round =>
            obtain ⟨k, hk, rfl, hno, hS, hB, hor⟩ := hrel
            clear S4 B4' oo4
            obtain ⟨c0, c1, _, _⟩ := hS.out
            by_cases hkl : k < j
            · have g2 : ((k : Int) < (j : Int)) := by omega
              have hkc : k < cl.length := by omega
              have g3 : ((k : Int) < (cl.length : Int)) := by omega
              obtain ⟨off, vf, vd, vm, rfl, _, _, y1, _, _, _, _⟩ := cl_cells (rc.out.only0 hor.out) hEl.out hkc
              obtain ⟨off2, vf2, vd2, vm2, e2, _, _, z1, _, _, _, _⟩ := cl_cells (rc.out.only0 hor.out) hEl.out hlt
              simp only [Option.some.injEq, Addr.mk.injEq, true_and, and_true] at e2
              subst e2
              by_cases hnn : cl[k].name = cl[j].name
              · have hRR : R = ((j : Int), 0, 0, 20) := by
                  rw [hdr.out, if_pos (any_true_take hkc hkl (by simpa using hnn))]
                subst hRR
                obtain ⟨b0, b1, b2, b3, k0, k1, k2, k3⟩ := hB.out
                rw [hnn] at y1
                generalize cl[j].name = nj at *
                clear hdr hno hnn
                go_wp2_with fail
                go_region
                go_wp2_with fail
                obtain ⟨T, oT⟩ := hB.out.put (.int .i64 (j : Int)) (.int .i64 0) (.int .i64 0) (.int .i64 20)
                obtain ⟨d0, d1, d2, d3, _, _, _, _⟩ := T
                refine bodyPost_ret (v := .agg #[.int .i64 (j : Int), .int .i64 0, .int .i64 0, .int .i64 20]) (by simp [results, Tryz.results36, go_sem, d0, d1, d2, d3]) rfl ?_
                exact ⟨rfl, (hor.out.next oT (by simp)).drew⟩
              · have hno2 : Hid (∀ i (hi : i < cl.length), i < k + 1 → decide (cl[i].name = cl[j].name) = false) := by
                  intro i hi h
                  by_cases e : i = k
                  · subst e; simpa using hnn
                  · exact hno.out i hi (by omega)
                have p1 : ¬ ((str cl[k].name).toList = (str cl[j].name).toList) := by rw [str_toList, str_toList]; exact hnn
                have q1 : ((str cl[k].name).toList == (str cl[j].name).toList) = false := by simpa using p1
                replace hdr := hid hdr
                generalize hgj : cl[j].name = nj at *
                generalize cl[k].name = nk at *
                replace hgj := hid hgj
                clear hno hnn
                go_wp2_with fail
                go_region
                go_wp2
                exact ⟨⟨k + 1, by omega, by go_num, hno2, hid (hS.out.only (Only.refl [] _).drew (by simp)), hid (hB.out.only (Only.refl [] _).drew (by simp)), hid hor.out.drew⟩, by simp [intOf]; omega⟩
            · have g2 : ¬ ((k : Int) < (j : Int)) := by omega
              have hq2 : Hid (R = twiceE (cl.take (j + 1)) (cl.drop (j + 1))) := by
                obtain rfl : k = j := by omega
                unfold Hid
                rw [hdr.out, if_neg]
                rw [any_false_take hno.out]
                simp
              clear hno hdr
              go_wp2_with fail
              exact ⟨⟨j + 1, by omega, by go_num, hq2, hS, hB, hor⟩, by simp [intOf]; omega⟩
        · have g1 : ¬ ((j : Int) < (cl.length : Int)) := by omega
          have hRR : R = ok4 := by
            rw [hq.out, List.drop_of_length_le (by omega)]
            rfl
          obtain rfl := hRR
          clear hq
          obtain ⟨b0, b1, b2, b3, k0, k1, k2, k3⟩ := hB.out
          go_wp2_with fail
          obtain ⟨T, oT⟩ := hB.out.put (.int .i64 0) (.int .i64 0) (.int .i64 0) (.int .i64 0)
          obtain ⟨d0, d1, d2, d3, _, _, _, _⟩ := T
          refine bodyPost_ret (v := .agg #[.int .i64 0, .int .i64 0, .int .i64 0, .int .i64 0]) (by simp [results, Tryz.results36, go_sem, d0, d1, d2, d3]) rfl ?_
          exact ⟨rfl, (hor.out).next oT (by simp)⟩

/-- The bytes that are left, and how many were read. -/
abbrev Rs := List UInt8 × Nat
/-- What reads: the place and the error, or what was read and what is left. -/
abbrev Pr (α : Type) := Rs → Sum (Int × Int) (α × Rs)

def pDone {α : Type} (x : α) : Pr α := fun r => .inr (x, r)
def pFail {α : Type} (n : Nat) (e : Int) : Pr α := fun _ => .inl ((n : Int), e)
def pBind {α β : Type} (p : Pr α) (f : α → Pr β) : Pr β := fun r => match p r with
 | .inl e => .inl e
 | .inr (x, r') => f x r'
def pTake (n : Nat) : Pr (List UInt8) := fun r => if r.1.length < n then .inl ((r.2 : Int), 11) else .inr (r.1.take n, r.1.drop n, r.2 + n)
def pU (k : Nat) : Pr Nat := pBind (pTake k) fun l => pDone (be l)
def pN8 : Pr Int := pBind (pTake 8) fun l => pDone (wrap64 (be l : Int))
def pText : Pr (List UInt8) := fun r => pBind (pTake (textLen r.1)) (fun l => pDone l.tail) r
def pList {α : Type} (p : Pr α) : Nat → Pr (List α)
 | 0 => pDone []
 | n + 1 => pBind p fun x => pBind (pList p n) fun l => pDone (x :: l)
def pRows {α : Type} (k most : Nat) (p : Pr α) : Pr (List α) := fun r => pBind (pU k) (fun n => if most < n then pFail r.2 4 else pList p n) r
def pSpell {α : Type} (f : List UInt8 → α × Int) : Pr α := fun r => pBind pText (fun s => if (f s).2 = 0 then pDone (f s).1 else pFail r.2 (f s).2) r

def pEntry : Pr En := fun r => pBind (pU 1) (fun k =>
 if k = 1 then pBind pText fun s => pDone (1, s, 0, 0, 0, 0)
 else if k = 2 then pBind pN8 fun n => pDone (2, [], n, 0, 0, 0)
 else if k = 3 ∨ k = 4 then pBind (pU 2) fun a => pDone ((k : Int), [], 0, (a : Int), 0, 0)
 else if k = 5 ∨ k = 6 then pBind (pU 2) fun a => pBind (pU 2) fun b => pBind (pU 2) fun c => pDone ((k : Int), [], 0, (a : Int), (b : Int), (c : Int))
 else pFail r.2 3) r
def pField : Pr Fd := pBind (pU 1) fun k => pBind pText fun s => pBind (pSpell typeR) fun t => pDone ((k : Int), s, t)
def pHand : Pr Hd := pBind (pU 2) fun a => pBind (pU 2) fun b => pBind (pU 2) fun c => pBind pText fun s => pDone ((a : Int), (b : Int), (c : Int), s)
def pMethod : Pr Me := pBind (pU 1) fun k => pBind pText fun s => pBind (pSpell sigR) fun g =>
 if k = 2 then pDone ⟨(k : Int), s, g, 0, 0, [], []⟩
 else pBind (pU 1) fun a => pBind (pU 1) fun b => pBind (pU 2) fun n => pBind (pTake n) fun code => pBind (pRows 1 32 pHand) fun hs => pDone ⟨(k : Int), s, g, (a : Int), (b : Int), code, hs⟩
def pClass : Pr Cl := pBind (pU 1) fun k => pBind pText fun s => pBind pText fun u => pBind (pRows 1 16 pText) fun fa => pBind (pRows 1 64 pField) fun fi => pBind (pRows 1 64 pMethod) fun me => pDone ⟨(k : Int), s, u, fa, fi, me⟩

def magicL : List UInt8 := [75, 69, 89, 49]
def pMagic : Pr Unit := pBind (pTake 4) fun l => if l = magicL then pDone () else pFail 0 13
def pEnd (m : Mo) : Pr Mo := fun r => if r.1 = [] then .inr (m, r) else .inl ((r.2 : Int), 12)
def pModule : Pr Mo := pBind pMagic fun _ => pBind (pRows 2 4096 pEntry) fun l => pBind (pRows 1 64 pClass) fun cs => pEnd ⟨l, cs⟩

def mo0 : Mo := ⟨[], []⟩
def readM (b : List UInt8) : Mo × Bp :=
 if 262144 < b.length then (mo0, 0, 0, 0, 5) else match pModule (b, 0) with
 | .inl e => (mo0, 0, 0, e.1, e.2)
 | .inr (m, _) => if (checkM m).2.2.2 = 0 then (m, ok4) else (mo0, checkM m)

def e1 (n : Int) : List UInt8 := [UInt8.ofNat n.toNat]
def e2 (n : Int) : List UInt8 := toBE n.toNat 2
def e8 (n : Int) : List UInt8 := toBE (toU64 n) 8
def eT (s : List UInt8) : List UInt8 := UInt8.ofNat s.length :: s
def encEn (e : En) : List UInt8 := e1 e.1 ++ (if e.1 = 1 then eT e.2.1 else if e.1 = 2 then e8 e.2.2.1 else if e.1 = 3 ∨ e.1 = 4 then e2 e.2.2.2.1 else e2 e.2.2.2.1 ++ (e2 e.2.2.2.2.1 ++ e2 e.2.2.2.2.2))
def encFd (f : Fd) : List UInt8 := e1 f.1 ++ (eT f.2.1 ++ eT (tyText f.2.2))
def encHd (h : Hd) : List UInt8 := e2 h.1 ++ (e2 h.2.1 ++ (e2 h.2.2.1 ++ eT h.2.2.2))
def sgText (g : Sg) : List UInt8 := sigText g.1 g.2.1 g.2.2
def encMe (m : Me) : List UInt8 := e1 m.flags ++ (eT m.name ++ (eT (sgText m.sig) ++ (if m.flags = 2 then [] else e1 m.stack ++ (e1 m.locals ++ (e2 (m.code.length : Int) ++ (m.code ++ (e1 (m.hands.length : Int) ++ m.hands.flatMap encHd)))))))
def encCl (c : Cl) : List UInt8 := e1 c.flags ++ (eT c.name ++ (eT c.super ++ (e1 (c.faces.length : Int) ++ (c.faces.flatMap eT ++ (e1 (c.fields.length : Int) ++ (c.fields.flatMap encFd ++ (e1 (c.methods.length : Int) ++ c.methods.flatMap encMe)))))))
def encM (m : Mo) : List UInt8 := magicL ++ (e2 (m.pool.length : Int) ++ (m.pool.flatMap encEn ++ (e1 (m.classes.length : Int) ++ m.classes.flatMap encCl)))
def writeM (m : Mo) : List UInt8 × Bp := if (checkM m).2.2.2 = 0 then (if 262144 < (encM m).length then ([], 0, 0, 0, 5) else (encM m, ok4)) else ([], checkM m)

theorem be_cons (c : UInt8) (l : List UInt8) : be (c :: l) = c.toNat * 256 ^ l.length + be l := by
 suffices h : ∀ (l : List UInt8) (n : Nat), l.foldl (fun n c => n * 256 + c.toNat) n = n * 256 ^ l.length + be l by
  show (c :: l).foldl (fun n c => n * 256 + c.toNat) 0 = _
  rw [List.foldl_cons, h]
  simp
 intro l
 induction l with
 | nil => intro n; simp [be]
 | cons d l ih =>
  intro n
  rw [List.foldl_cons, ih, List.length_cons, Nat.pow_succ]
  have h2 : be (d :: l) = d.toNat * 256 ^ l.length + be l := by
   show (d :: l).foldl (fun n c => n * 256 + c.toNat) 0 = _
   rw [List.foldl_cons, ih]
   simp
  rw [h2, Nat.add_mul, Nat.mul_assoc, Nat.mul_comm 256]
  omega

theorem be_toBE (x k : Nat) : be (toBE x k) = x % 256 ^ k := by
 induction k with
 | zero => simp [toBE, be, Nat.mod_one]
 | succ k ih =>
  have h1 := Nat.mod_mul (x := x) (a := 256 ^ k) (b := 256)
  have e : (256 : Nat) ^ (k + 1) = 256 ^ k * 256 := Nat.pow_succ _ _
  have e2 : (2 : Nat) ^ 8 = 256 := by decide
  rw [toBE, be_cons, ih, toBE_length, UInt8.toNat_ofNat', e, h1, e2, Nat.mul_comm]
  omega

theorem back_u64 (n : Int) (h : -9223372036854775808 ≤ n ∧ n ≤ 9223372036854775807) : wrap64 ((be (toBE (toU64 n) 8) : Nat) : Int) = n := by
 rw [be_toBE]
 have e : (256 : Nat) ^ 8 = 18446744073709551616 := by decide
 rw [e]
 unfold toU64
 simp only [wrap64]
 omega

/-- A module, whatever is left. -/
def pBody : Pr Mo := pBind pMagic fun _ => pBind (pRows 2 4096 pEntry) fun l => pBind (pRows 1 64 pClass) fun cs => pDone ⟨l, cs⟩
/-- What is written is read again. -/
def Bk {α : Type} (p : Pr α) (b : List UInt8) (x : α) : Prop := ∀ (q : List UInt8) (n : Nat), p (b ++ q, n) = .inr (x, q, n + b.length)

theorem bk_done {α : Type} (x : α) : Bk (pDone x) [] x := fun _ _ => rfl

theorem bk_bind {α β : Type} {p : Pr α} {f : α → Pr β} {a b : List UInt8} {x : α} {y : β} (hp : Bk p a x) (hf : Bk (f x) b y) : Bk (pBind p f) (a ++ b) y := by
 intro q n
 unfold pBind
 rw [List.append_assoc, hp]
 simp only
 rw [hf, List.length_append, Nat.add_assoc]

theorem bk_last {α β : Type} {p : Pr α} {f : α → Pr β} {a : List UInt8} {x : α} {y : β} (hp : Bk p a x) (hf : f x = pDone y) : Bk (pBind p f) a y := by
 intro q n
 unfold pBind
 rw [hp]
 simp only
 rw [hf]
 rfl

theorem bk_take (l : List UInt8) {k : Nat} (hk : k = l.length) : Bk (pTake k) l l := by
 subst hk
 intro q n
 unfold pTake
 simp

theorem bk_u1 (x : Int) (h : 0 ≤ x ∧ x < 256) : Bk (pU 1) (e1 x) x.toNat := by
 refine bk_last (bk_take _ rfl) ?_
 have : be (e1 x) = x.toNat := by
  have := be_toBE x.toNat 1
  have e : toBE x.toNat 1 = e1 x := by simp [toBE, e1]
  rw [e] at this
  rw [this]
  omega
 rw [this]

theorem bk_u2 (x : Int) (h : 0 ≤ x ∧ x < 65536) : Bk (pU 2) (e2 x) x.toNat := by
 refine bk_last (bk_take _ (by rw [e2, toBE_length])) ?_
 have : be (e2 x) = x.toNat := by
  rw [e2, be_toBE]
  omega
 rw [this]

theorem bk_n8 (x : Int) (h : -9223372036854775808 ≤ x ∧ x ≤ 9223372036854775807) : Bk pN8 (e8 x) x := by
 refine bk_last (bk_take _ (by rw [e8, toBE_length])) ?_
 rw [e8, back_u64 x h]

theorem bk_text (s : List UInt8) (h : s.length ≤ 255) : Bk pText (eT s) s := by
 intro q n
 have e : textLen (eT s ++ q) = (eT s).length := by
  show 1 + (UInt8.ofNat s.length).toNat = _
  rw [UInt8.toNat_ofNat', eT, List.length_cons]
  omega
 unfold pText
 simp only
 rw [e]
 exact bk_last (f := fun l => pDone l.tail) (y := s) (bk_take (eT s) rfl) rfl q n

theorem bk_list {α : Type} {p : Pr α} {enc : α → List UInt8} : ∀ (l : List α), (∀ x ∈ l, Bk p (enc x) x) → Bk (pList p l.length) (l.flatMap enc) l := by
 intro l
 induction l with
 | nil => intro _; exact bk_done _
 | cons x l ih =>
  intro h
  rw [List.flatMap_cons]
  exact bk_bind (h x (by simp)) (bk_last (ih fun y hy => h y (by simp [hy])) rfl)

theorem bk_at {α : Type} {p : Nat → Pr α} {b : List UInt8} {x : α} (hp : ∀ k, Bk (p k) b x) : Bk (fun r => p r.2 r) b x := fun q n => hp n q n

theorem bk_rows1 {α : Type} {most : Nat} {p : Pr α} {enc : α → List UInt8} (l : List α) (hm : l.length ≤ most) (hl : l.length < 256) (h : ∀ x ∈ l, Bk p (enc x) x) : Bk (pRows 1 most p) (e1 (l.length : Int) ++ l.flatMap enc) l :=
 bk_at (p := fun a => pBind (pU 1) fun n => if most < n then pFail a 4 else pList p n) fun _ => bk_bind (bk_u1 _ (by omega)) (by
  rw [Int.toNat_natCast, if_neg (by omega)]
  exact bk_list l h)

theorem bk_rows2 {α : Type} {most : Nat} {p : Pr α} {enc : α → List UInt8} (l : List α) (hm : l.length ≤ most) (hl : l.length < 65536) (h : ∀ x ∈ l, Bk p (enc x) x) : Bk (pRows 2 most p) (e2 (l.length : Int) ++ l.flatMap enc) l :=
 bk_at (p := fun a => pBind (pU 2) fun n => if most < n then pFail a 4 else pList p n) fun _ => bk_bind (bk_u2 _ (by omega)) (by
  rw [Int.toNat_natCast, if_neg (by omega)]
  exact bk_list l h)

theorem bk_spell {α : Type} {f : List UInt8 → α × Int} {s : List UInt8} {x : α} (h : s.length ≤ 255) (hf : f s = (x, 0)) : Bk (pSpell f) (eT s) x :=
 bk_at (p := fun a => pBind pText fun s => if (f s).2 = 0 then pDone (f s).1 else pFail a (f s).2) fun _ => bk_last (bk_text s h) (by rw [hf]; rfl)

/-- What of a module finds room in its bytes. -/
structure EnGood (e : En) : Prop where
 kind : 1 ≤ e.1 ∧ e.1 ≤ 6
 used : e = usedE e
 text : e.2.1.length ≤ 255
 num : -9223372036854775808 ≤ e.2.2.1 ∧ e.2.2.1 ≤ 9223372036854775807
 a : 0 ≤ e.2.2.2.1 ∧ e.2.2.2.1 < 65536
 b : 0 ≤ e.2.2.2.2.1 ∧ e.2.2.2.2.1 < 65536
 c : 0 ≤ e.2.2.2.2.2 ∧ e.2.2.2.2.2 < 65536
structure FdGood (f : Fd) : Prop where
 flags : f.1 = 0 ∨ f.1 = 4
 name : f.2.1.length ≤ 32
 type : tyCheck f.2.2 = 0
structure HdGood (h : Hd) : Prop where
 a : 0 ≤ h.1 ∧ h.1 ≤ 1024
 b : 0 ≤ h.2.1 ∧ h.2.1 ≤ 1024
 c : 0 ≤ h.2.2.1 ∧ h.2.2.1 ≤ 1024
 name : h.2.2.2.length ≤ 32
structure MeGood (m : Me) : Prop where
 flags : m.flags = 0 ∨ m.flags = 2 ∨ m.flags = 4
 name : m.name.length ≤ 32
 sig : sigCheck m.sig.1 m.sig.2.1 m.sig.2.2 = 0
 text : (sgText m.sig).length ≤ 255
 none : m.flags = 2 → m.stack = 0 ∧ m.locals = 0 ∧ m.code = [] ∧ m.hands = []
 stack : 0 ≤ m.stack ∧ m.stack ≤ 64
 locals : 0 ≤ m.locals ∧ m.locals ≤ 64
 code : m.code.length ≤ 1024
 many : m.hands.length ≤ 32
 hands : ∀ h ∈ m.hands, HdGood h
structure ClGood (c : Cl) : Prop where
 flags : c.flags = 0 ∨ c.flags = 1 ∨ c.flags = 2
 name : c.name.length ≤ 32
 super : c.super.length ≤ 32
 manyF : c.faces.length ≤ 16
 manyD : c.fields.length ≤ 64
 manyM : c.methods.length ≤ 64
 faces : ∀ s ∈ c.faces, s.length ≤ 32
 fields : ∀ f ∈ c.fields, FdGood f
 methods : ∀ m ∈ c.methods, MeGood m
structure MoGood (m : Mo) : Prop where
 manyP : m.pool.length ≤ 4096
 manyC : m.classes.length ≤ 64
 pool : ∀ e ∈ m.pool, EnGood e
 classes : ∀ c ∈ m.classes, ClGood c

theorem tyText_len {t : Ty} (h : tyCheck t = 0) : (tyText t).length ≤ 255 := by
 have hf := check_fit h
 obtain ⟨h0, h8, h32⟩ := hf
 unfold tyText
 rw [List.length_append, List.length_replicate]
 split
 ·simp
  omega
 ·simp
  omega

theorem bk_entry {e : En} (h : EnGood e) : Bk pEntry (encEn e) e := by
 obtain ⟨k, s, n, a, b, c⟩ := e
 obtain ⟨hk, hu, ht, hn, ha, hb, hc⟩ := h
 simp only at hk ht hn ha hb hc
 unfold encEn
 refine bk_at (p := fun a => pBind (pU 1) fun k =>
  if k = 1 then pBind pText fun s => pDone (1, s, 0, 0, 0, 0)
  else if k = 2 then pBind pN8 fun n => pDone (2, [], n, 0, 0, 0)
  else if k = 3 ∨ k = 4 then pBind (pU 2) fun a => pDone ((k : Int), [], 0, (a : Int), 0, 0)
  else if k = 5 ∨ k = 6 then pBind (pU 2) fun a => pBind (pU 2) fun b => pBind (pU 2) fun c => pDone ((k : Int), [], 0, (a : Int), (b : Int), (c : Int))
  else pFail a 3) fun at_ => bk_bind (bk_u1 _ (by omega)) ?_
 have ca : ((a.toNat : Nat) : Int) = a := by omega
 have cb : ((b.toNat : Nat) : Int) = b := by omega
 have cc : ((c.toNat : Nat) : Int) = c := by omega
 simp only
 by_cases k1 : k = 1
 ·subst k1
  simp [usedE] at hu
  obtain ⟨rfl, rfl, rfl, rfl⟩ := hu
  simp only [if_true]
  exact bk_last (bk_text s ht) rfl
 by_cases k2 : k = 2
 ·subst k2
  simp [usedE] at hu
  obtain ⟨rfl, rfl, rfl, rfl⟩ := hu
  exact bk_last (bk_n8 n hn) rfl
 have t1 : ¬ k.toNat = 1 := by omega
 have t2 : ¬ k.toNat = 2 := by omega
 by_cases k3 : k = 3 ∨ k = 4
 ·have t3 : k.toNat = 3 ∨ k.toNat = 4 := by omega
  simp [usedE, k1, k2, k3] at hu
  obtain ⟨rfl, rfl, rfl, rfl⟩ := hu
  rw [if_neg t1, if_neg t2, if_pos t3, if_neg k1, if_neg k2, if_pos k3]
  refine bk_last (bk_u2 a ha) ?_
  rw [ca, show ((k.toNat : Nat) : Int) = k by omega]
 ·have t3 : ¬ (k.toNat = 3 ∨ k.toNat = 4) := by omega
  have t5 : k.toNat = 5 ∨ k.toNat = 6 := by omega
  simp [usedE, k1, k2, k3] at hu
  obtain ⟨rfl, rfl⟩ := hu
  rw [if_neg t1, if_neg t2, if_neg t3, if_pos t5, if_neg k1, if_neg k2, if_neg k3]
  refine bk_bind (bk_u2 a ha) (bk_bind (bk_u2 b hb) (bk_last (bk_u2 c hc) ?_))
  rw [ca, cb, cc, show ((k.toNat : Nat) : Int) = k by omega]

theorem bk_field {f : Fd} (h : FdGood f) : Bk pField (encFd f) f := by
 obtain ⟨k, s, t⟩ := f
 obtain ⟨hk, hs, ht⟩ := h
 simp only at hk hs ht
 refine bk_bind (bk_u1 k (by omega)) (bk_bind (bk_text s (by omega)) (bk_last (bk_spell (tyText_len ht) (type_text ht)) ?_))
 rw [show ((k.toNat : Nat) : Int) = k by omega]

theorem bk_hand {h : Hd} (g : HdGood h) : Bk pHand (encHd h) h := by
 obtain ⟨a, b, c, s⟩ := h
 obtain ⟨ha, hb, hc, hs⟩ := g
 simp only at ha hb hc hs
 refine bk_bind (bk_u2 a (by omega)) (bk_bind (bk_u2 b (by omega)) (bk_bind (bk_u2 c (by omega)) (bk_last (bk_text s (by omega)) ?_)))
 rw [show ((a.toNat : Nat) : Int) = a by omega, show ((b.toNat : Nat) : Int) = b by omega, show ((c.toNat : Nat) : Int) = c by omega]

theorem bk_method {m : Me} (g : MeGood m) : Bk pMethod (encMe m) m := by
 obtain ⟨k, s, sg, st, lo, code, hs⟩ := m
 obtain ⟨hk, hn, hg, ht, h2, hst, hlo, hc, hm, hh⟩ := g
 simp only at hk hn hg ht h2 hst hlo hc hm hh
 refine bk_bind (bk_u1 k (by omega)) (bk_bind (bk_text s (by omega)) (bk_bind (bk_spell ht (sig_text hg)) ?_))
 simp only
 by_cases k2 : k = 2
 ·subst k2
  obtain ⟨rfl, rfl, rfl, rfl⟩ := h2 rfl
  simp only [if_true]
  exact bk_done _
 ·rw [if_neg (by omega), if_neg k2]
  refine bk_bind (bk_u1 st (by omega)) (bk_bind (bk_u1 lo (by omega)) (bk_bind (bk_u2 _ (by omega)) (bk_bind (bk_take code (by omega)) (bk_last (bk_rows1 hs (by omega) (by omega) fun h hh' => bk_hand (hh h hh')) ?_))))
  rw [show ((k.toNat : Nat) : Int) = k by omega, show ((st.toNat : Nat) : Int) = st by omega, show ((lo.toNat : Nat) : Int) = lo by omega]

theorem bk_class {c : Cl} (g : ClGood c) : Bk pClass (encCl c) c := by
 obtain ⟨k, s, u, fa, fi, me⟩ := c
 obtain ⟨hk, hn, hu, mf, md, mm, hf, hd, hm⟩ := g
 simp only at hk hn hu mf md mm hf hd hm
 unfold encCl
 simp only
 rw [← List.append_assoc (e1 (fa.length : Int)), ← List.append_assoc (e1 (fi.length : Int))]
 refine bk_bind (bk_u1 k (by omega)) (bk_bind (bk_text s (by omega)) (bk_bind (bk_text u (by omega)) (bk_bind (bk_rows1 fa (by omega) (by omega) fun x hx => bk_text x (by have := hf x hx; omega))
  (bk_bind (bk_rows1 fi (by omega) (by omega) fun x hx => bk_field (hd x hx)) (bk_last (bk_rows1 me (by omega) (by omega) fun x hx => bk_method (hm x hx)) ?_)))))
 rw [show ((k.toNat : Nat) : Int) = k by omega]

theorem bk_magic : Bk pMagic magicL () := bk_last (bk_take magicL rfl) rfl

theorem bk_body {m : Mo} (g : MoGood m) : Bk pBody (encM m) m := by
 obtain ⟨l, cs⟩ := m
 obtain ⟨mp, mc, hp, hc⟩ := g
 simp only at mp mc hp hc
 unfold encM
 simp only
 rw [← List.append_assoc (e2 (l.length : Int))]
 exact bk_bind bk_magic (bk_bind (bk_rows2 l (by omega) (by omega) fun x hx => bk_entry (hp x hx)) (bk_last (bk_rows1 cs (by omega) (by omega) fun x hx => bk_class (hc x hx)) rfl))

/-- The bytes say the module. -/
theorem enc_inj {m n : Mo} (g : MoGood m) (k : MoGood n) (h : encM m = encM n) : m = n := by
 have h1 := bk_body g [] 0
 have h2 := bk_body k [] 0
 rw [h, h2] at h1
 simp only [Sum.inr.injEq, Prod.mk.injEq] at h1
 exact h1.1.symm

theorem WTo.alloc {w0 w : World} {B p g : Nat} {s : List UInt8 × Int} (h : WTo w0 B p g w s) (o : Obj) : WTo w0 B p g (w.alloc o) s := by
 obtain ⟨g', h1, h2, h3⟩ := h
 exact ⟨g', h1.only ((Only.refl [] w).alloc o) (by simp) (by simp), h2, h3.alloc o⟩

theorem WTo.only {w0 w : World} {B p g : Nat} {s : List UInt8 × Int} (h : WTo w0 B p g w s) : Only [p, g] w0 w := h.choose_spec.2.2

/-- A call that goes on from where a writer came to. -/
theorem WTo.step {w0 w : World} {B p g : Nat} {s s' : List UInt8 × Int} (h : WTo w0 B p g w s) {f : FuncId} {args : Array Value} (hc : ∀ g', WrE w B p g' s → (g' = g ∨ w0.heap.size ≤ g') → Calls Tryz.prog f args w fun e w' => e = .returned (.tuple #[]) ∧ WTo w B p g' w' s') :
  Calls Tryz.prog f args w fun e w' => e = .returned (.tuple #[]) ∧ WTo w0 B p g w' s' := by
 obtain ⟨g', h1, h2, h3⟩ := h
 exact (hc g' h1 h2).mono fun _ _ h => ⟨h.1, wto_trans h3 h2 h.2⟩

/-- The same, where a block was laid ahead of the call. -/
theorem WTo.step1 {w0 w : World} {B p g : Nat} {s s' : List UInt8 × Int} (h : WTo w0 B p g w s) (o : Obj) {f : FuncId} {args : Array Value} (hc : ∀ g', WrE (w.alloc o) B p g' s → g' < w.heap.size → p < w.heap.size → Calls Tryz.prog f args (w.alloc o) fun e w' => e = .returned (.tuple #[]) ∧ WTo (w.alloc o) B p g' w' s') :
  Calls Tryz.prog f args (w.alloc o) fun e w' => e = .returned (.tuple #[]) ∧ WTo w0 B p g w' s' := by
 obtain ⟨g', h1, h2, h3⟩ := h
 have hl := h1.lt
 exact (hc g' (h1.only ((Only.refl [] w).alloc o) (by simp) (by simp)) hl.2.1 hl.1).mono fun _ _ h => ⟨h.1, wto_trans (h3.alloc o) h2 h.2⟩

theorem wAll_fit {k : Nat} (enc : Int → List UInt8) (he : ∀ n, enc n = toBE n.toNat k) : ∀ (ns : List Int) (out : List UInt8), (∀ n ∈ ns, 0 ≤ n ∧ n < (256 : Int) ^ k) → wAll k (out, 0) ns = (out ++ ns.flatMap enc, 0) := by
 intro ns
 induction ns with
 | nil => intro out _; simp [wAll]
 | cons n ns ih =>
  intro out h
  have hn := h n (by simp)
  have h1 : wOne k (out, 0) n = (out ++ enc n, 0) := by
   unfold wOne
   rw [if_pos rfl, if_neg (by omega), he]
  have := ih (out ++ enc n) fun x hx => h x (by simp [hx])
  unfold wAll at this ⊢
  rw [List.foldl_cons, h1, this, List.flatMap_cons, List.append_assoc]

theorem e1_be (n : Int) : e1 n = toBE n.toNat 1 := by simp [e1, toBE]
theorem e2_be (n : Int) : e2 n = toBE n.toNat 2 := rfl

theorem wTx_fit : ∀ (ss : List (List UInt8)) (out : List UInt8), (∀ s ∈ ss, s.length ≤ 255) → wTx (out, 0) (ss.map str) = (out ++ ss.flatMap eT, 0) := by
 intro ss
 induction ss with
 | nil => intro out _; simp [wTx]
 | cons s ss ih =>
  intro out h
  have hs := h s (by simp)
  have h1 : wTx1 (out, 0) (str s) = (out ++ eT s, 0) := by
   unfold wTx1
   rw [if_pos rfl, if_neg (by rw [str_size]; omega), str_size, str_data]
   rfl
  have := ih (out ++ eT s) fun x hx => h x (by simp [hx])
  unfold wTx at this ⊢
  rw [List.map_cons, List.foldl_cons, h1, this, List.flatMap_cons, List.append_assoc]

theorem nx_new (w : World) (k : IntKind) (ns : List Int) (t : TypeId) : NX k (w.alloc (.cells (ns.map fun n => Value.int k n).toArray t)) (some ⟨w.heap.size, 0, none⟩) ns w.heap.size :=
 .inr ⟨0, rfl, fun j hj => by rw [Nat.zero_add, cell_new]; simp [hj]⟩

theorem sx_new (w : World) (ss : List (List UInt8)) (t : TypeId) : SX (w.alloc (.cells (ss.map fun s => Value.string (str s)).toArray t)) (some ⟨w.heap.size, 0, none⟩) (ss.map str) w.heap.size :=
 .inr ⟨0, rfl, fun j hj => by
  have hj' : j < ss.length := by simpa using hj
  rw [Nat.zero_add, cell_new]
  simp [hj']⟩

theorem bs_of_rs {w : World} {ao : Option Addr} {bs : List UInt8} {d : Nat} (h : RS w ao (bcs bs) d) : BS w ao bs d := by
 rcases h with h | ⟨off, ha, hc⟩
 ·left
  cases bs with
  | nil => rfl
  | cons b l => simp [bcs] at h
 ·exact .inr ⟨off, ha, fun j hj => hc j _ (bcs_get bs j hj)⟩

theorem sx_of_rs {w : World} {ao : Option Addr} {ss : List (List UInt8)} {d : Nat} (h : RS w ao (scs ss) d) : SX w ao (ss.map str) d := by
 rcases h with h | ⟨off, ha, hc⟩
 ·left
  cases ss with
  | nil => rfl
  | cons b l => simp [scs, scC] at h
 ·refine .inr ⟨off, ha, fun j hj => ?_⟩
  have hj' : j < ss.length := by simpa using hj
  rw [hc j _ (scs_get ss j hj')]
  simp

/-- U1 of numbers. -/
theorem u1_lift {w0 w : World} {B p g : Nat} {out : List UInt8} (h : WTo w0 B p g w (out, 0)) (ns : List Int) (hn : ∀ n ∈ ns, 0 ≤ n ∧ n < 256) (hsz : out.length + ns.length ≤ 200000000000000) :
  Calls Tryz.prog 61 #[.pointer (some ⟨p, 0, none⟩), .slice (some ⟨w.heap.size, 0, none⟩) ns.length ns.length] (w.alloc (.cells (ns.map fun n => Value.int .i64 n).toArray 3)) fun e w' => e = .returned (.tuple #[]) ∧ WTo w0 B p g w' (out ++ ns.flatMap e1, 0) := by
 rw [← wAll_fit e1 e1_be ns out (by simpa using hn)]
 exact h.step1 _ fun g' hw hg hp => wu1_any hw (nx_new w .i64 ns 3) (fun _ => by simp; omega) (by simp only; omega)

theorem u2_lift {w0 w : World} {B p g : Nat} {out : List UInt8} (h : WTo w0 B p g w (out, 0)) (ns : List Int) (hn : ∀ n ∈ ns, 0 ≤ n ∧ n < 65536) (hsz : out.length + 2 * ns.length ≤ 200000000000000) :
  Calls Tryz.prog 59 #[.pointer (some ⟨p, 0, none⟩), .slice (some ⟨w.heap.size, 0, none⟩) ns.length ns.length] (w.alloc (.cells (ns.map fun n => Value.int .i64 n).toArray 3)) fun e w' => e = .returned (.tuple #[]) ∧ WTo w0 B p g w' (out ++ ns.flatMap e2, 0) := by
 rw [← wAll_fit e2 e2_be ns out (by simpa using hn)]
 exact h.step1 _ fun g' hw hg hp => wu2_any hw (nx_new w .i64 ns 3) (fun _ => by simp; omega) (by simp only; omega)

theorem n8_lift {w0 w : World} {B p g : Nat} {out : List UInt8} (h : WTo w0 B p g w (out, 0)) (n : Int) (hsz : out.length + 8 ≤ 200000000000000) :
  Calls Tryz.prog 130 #[.pointer (some ⟨p, 0, none⟩), .slice (some ⟨w.heap.size, 0, none⟩) 1 1] (w.alloc (.cells #[.int .i64 n] 2)) fun e w' => e = .returned (.tuple #[]) ∧ WTo w0 B p g w' (out ++ e8 n, 0) := by
 have e : wN8 (out, 0) [n] = (out ++ e8 n, 0) := by simp [wN8, wPut, e8]
 rw [← e]
 exact h.step1 _ fun g' hw hg hp => wn8_any (ns := [n]) hw (nx_new w .i64 [n] 2) (fun _ => by simp; omega) (by simp only [List.length_singleton]; omega)

theorem tx_lift {w0 w : World} {B p g : Nat} {out : List UInt8} (h : WTo w0 B p g w (out, 0)) (ss : List (List UInt8)) (hs : ∀ s ∈ ss, s.length ≤ 255) (hsz : out.length + 256 * ss.length ≤ 200000000000000) :
  Calls Tryz.prog 129 #[.pointer (some ⟨p, 0, none⟩), .slice (some ⟨w.heap.size, 0, none⟩) ss.length ss.length] (w.alloc (.cells (ss.map fun s => Value.string (str s)).toArray 9)) fun e w' => e = .returned (.tuple #[]) ∧ WTo w0 B p g w' (out ++ ss.flatMap eT, 0) := by
 rw [← wTx_fit ss out hs]
 have := h.step1 (s' := wTx (out, 0) (ss.map str)) (.cells (ss.map fun s => Value.string (str s)).toArray 9) (f := 129) (args := #[.pointer (some ⟨p, 0, none⟩), .slice (some ⟨w.heap.size, 0, none⟩) (ss.map str).length ss.length]) fun g' hw hg hp =>
  wtext_any hw (sx_new w ss 9) (fun _ => by simp; omega) (by simp only [List.length_map]; omega) (fun b hb => by
   obtain ⟨s, hs', rfl⟩ := List.mem_map.1 hb
   rw [str_size]
   have := hs s hs'
   omega)
 rwa [List.length_map] at this

theorem txs_lift {w0 w : World} {B p g : Nat} {out : List UInt8} (h : WTo w0 B p g w (out, 0)) {ao : Option Addr} {cap d : Nat} (ss : List (List UInt8)) (hR : RS w ao (scs ss) d) (hd : scs ss ≠ [] → d < B) (hs : ∀ s ∈ ss, s.length ≤ 255) (hsz : out.length + 256 * ss.length ≤ 200000000000000) :
  Calls Tryz.prog 129 #[.pointer (some ⟨p, 0, none⟩), .slice ao ss.length cap] w fun e w' => e = .returned (.tuple #[]) ∧ WTo w0 B p g w' (out ++ ss.flatMap eT, 0) := by
 rw [← wTx_fit ss out hs]
 have := h.step (s' := wTx (out, 0) (ss.map str)) (f := 129) (args := #[.pointer (some ⟨p, 0, none⟩), .slice ao (ss.map str).length cap]) fun g' hw hg =>
  wtext_any hw (sx_of_rs hR) (fun hne => by
   have := hd (fun e => hne (by cases ss with | nil => rfl | cons a l => simp [scs, scC] at e))
   have := hw.lt
   simp
   omega) (by simp only [List.length_map]; omega) (fun b hb => by
   obtain ⟨s, hs', rfl⟩ := List.mem_map.1 hb
   rw [str_size]
   have := hs s hs'
   omega)
 rwa [List.length_map] at this

theorem bytes_lift {w0 w : World} {B p g : Nat} {out : List UInt8} (h : WTo w0 B p g w (out, 0)) {ao : Option Addr} {cap d : Nat} {bs : List UInt8} (hR : RS w ao (bcs bs) d) (hn : ao = none → cap = 0) (hsz : out.length + bs.length ≤ 200000000000000) :
  Calls Tryz.prog 58 #[.pointer (some ⟨p, 0, none⟩), .slice ao bs.length cap] w fun e w' => e = .returned (.tuple #[]) ∧ WTo w0 B p g w' (out ++ bs, 0) := by
 have e : wPut (out, 0) bs = (out ++ bs, 0) := by simp [wPut]
 rw [← e]
 exact h.step fun g' hw hg => wbytes_any hw (bs_of_rs hR) hn (by simp only; omega)

end Go.Proofs.YtildemmkhndhjaaGreatDoor
