/-
  What the proof leans on, part 31 of 48. The conditions stand in each theorem.
-/
import Derived.Test.YtildemmkhndhjaaGreatDoorB30
namespace Go.Proofs.YtildemmkhndhjaaGreatDoor
open Go.RowKit

theorem en_cells {w : World} {ao : Option Addr} {l : List En} {d : Nat} (h : RS w ao (ecs l) d) {j : Nat} (hj : j < l.length) :
  ∃ off,ao = some ⟨d,off,none⟩∧w.cell? ⟨d,off + j * 6,none⟩ = some (.int .i64 l[j].1)∧w.cell? ⟨d,off + j * 6 + 1,none⟩ = some (.string (str l[j].2.1))∧w.cell? ⟨d,off + j * 6 + 2,none⟩ = some (.int .i64 l[j].2.2.1)∧w.cell? ⟨d,off + j * 6 + 3,none⟩ = some (.int .i64 l[j].2.2.2.1)∧w.cell? ⟨d,off + j * 6 + 4,none⟩ = some (.int .i64 l[j].2.2.2.2.1)∧w.cell? ⟨d,off + j * 6 + 5,none⟩ = some (.int .i64 l[j].2.2.2.2.2):=by
 obtain ⟨g0,g1,g2,g3,g4,g5⟩:=ecs_get l j hj
 rcases h with h | ⟨off,ha,hc⟩
 ·rw [h] at g0
  simp at g0
 ·refine ⟨off,ha,?_,?_,?_,?_,?_,?_⟩
  ·exact hc _ _ g0
  ·rw [Nat.add_assoc]; exact hc _ _ g1
  ·rw [Nat.add_assoc]; exact hc _ _ g2
  ·rw [Nat.add_assoc]; exact hc _ _ g3
  ·rw [Nat.add_assoc]; exact hc _ _ g4
  ·rw [Nat.add_assoc]; exact hc _ _ g5

set_option maxHeartbeats 4000000 in
set_option maxRecDepth 100000 in
theorem rsame_module {w : World} {P Q : Nat→Prop} (a b : Mo) {vp vc up uc : Value} (hA : MoAt (SlR w P) vp vc a) (hB : MoAt (SlR w Q) up uc b) :
  Calls Tryz.prog 13 #[.agg #[vp,vc],.agg #[up,uc]] w fun e w'=>e = .returned (.bool (decide (a = b)))∧Only [] w w':=by
 obtain ⟨aP,aC⟩:=a
 obtain ⟨bP,bC⟩:=b
 obtain ⟨hA1,acs,hA3,hEA⟩:=hA
 obtain ⟨hB1,bcs,hB3,hEB⟩:=hB
 obtain ⟨po,pcap,rfl,pl⟩:=SlV.shape hA1
 obtain ⟨co,ccap,rfl,hl⟩:=SlV.shape hA3
 obtain ⟨qo,qcap,rfl,ql⟩:=SlV.shape hB1
 obtain ⟨eo,ecap,rfl,gl⟩:=SlV.shape hB3
 obtain ⟨d1,r1⟩:=SlV.rs hA1
 obtain ⟨d3,r3⟩:=SlV.rs hA3
 obtain ⟨d4,r4⟩:=SlV.rs hB1
 obtain ⟨d6,r6⟩:=SlV.rs hB3
 clear hA1 hA3 hB1 hB3
 simp only at pl hl ql gl r1 r3 r4 r6 hEA hEB
 replace hEA:=hid hEA
 replace hEB:=hid hEB
 have o1:=((Only.refl [] w).alloc (.cells #[.slice po aP.length pcap,.slice co aC.length ccap] 32)).alloc (.cells #[.slice qo bP.length qcap,.slice eo bC.length ecap] 32)
 have SA:=hid ((mo2_new w (.slice po aP.length pcap) (.slice co aC.length ccap) 32).only ((Only.refl [] _).alloc (.cells #[.slice qo bP.length qcap,.slice eo bC.length ecap] 32)) (by simp))
 have SB:=mo2_new (w.alloc (.cells #[.slice po aP.length pcap,.slice co aC.length ccap] 32)) (.slice qo bP.length qcap) (.slice eo bC.length ecap) 32
 rw [World.size_alloc] at SB
 replace SB:=hid SB
 obtain ⟨R,hR⟩ : ∃ R,R = decide ((⟨aP,aC⟩ : Mo) = ⟨bP,bC⟩):=⟨_,rfl⟩
 rw [← hR]
 replace hR:=hid hR
 replace o1:=hid o1
 by_cases c1 : aP.length = bP.length
 case neg=>
  have hF : R = false:=by
   rw [hR.out]
   simp [show ¬ (aP = bP) from fun e=>c1 (by rw [e])]
  subst hF
  have n1 : ((aP.length : Int) != (bP.length : Int)) = true:=by simpa using (by omega : ¬ ((aP.length : Int) = (bP.length : Int)))
  have m1 : ¬ ((aP.length : Int) = (bP.length : Int)):=by omega
  clear hR
  go_enter Tryz.func13,Tryz.ntmps13
  go_wp2
  go_ret
  exact ⟨rfl,o1.out⟩
 have n1 : ((aP.length : Int) != (bP.length : Int)) = false:=by simp [c1]
 have m1 : ((aP.length : Int) == (bP.length : Int)) = true:=by simp [c1]
 replace c1:=hid c1
 by_cases c2 : aC.length = bC.length
 case neg=>
  have hF : R = false:=by
   rw [hR.out]
   simp [show ¬ (aC = bC) from fun e=>c2 (by rw [e])]
  subst hF
  have n2 : ((aC.length : Int) != (bC.length : Int)) = true:=by simpa using (by omega : ¬ ((aC.length : Int) = (bC.length : Int)))
  have m2 : ¬ ((aC.length : Int) = (bC.length : Int)):=by omega
  clear hR
  go_enter Tryz.func13,Tryz.ntmps13
  go_wp2
  go_ret
  exact ⟨rfl,o1.out⟩
 have n2 : ((aC.length : Int) != (bC.length : Int)) = false:=by simp [c2]
 have m2 : ((aC.length : Int) == (bC.length : Int)) = true:=by simp [c2]
 replace c2:=hid c2
 go_enter Tryz.func13,Tryz.ntmps13
 go_wp2
 go_loopw [5] (fun i wr=>∃ j : Nat,j≤aP.length∧i = .int .i64 (j : Int)∧Hid (aP.take j = bP.take j)∧Hid (Mo2 wr w.heap.size (.slice po aP.length pcap) (.slice co aC.length ccap))∧Hid (Mo2 wr (w.heap.size + 1) (.slice qo bP.length qcap) (.slice eo bC.length ecap))∧Hid (Only [] w wr)) (fun i _=>aP.length - (intOf i).toNat)
 case atStart=>exact ⟨0,by omega,rfl,hid (by simp),SA,SB,o1⟩
 case round=>
  obtain ⟨j,hj,rfl,hpre,hSA,hSB,hor⟩:=hrel
  clear SA SB o1
  obtain ⟨a0,a1,_,_⟩:=hSA.out
  obtain ⟨b0,b1,_,_⟩:=hSB.out
  by_cases hlt : j < aP.length
  ·have g2 : ((j : Int) < (aP.length : Int)):=by omega
   have hlt2 : j < bP.length:=by rw [← c1.out]; exact hlt
   have g3 : ((j : Int) < (bP.length : Int)):=by omega
   have hnx : aP[j] = bP[j]→aP.take (j + 1) = bP.take (j + 1):=by
    intro e
    rw [List.take_succ_eq_append_getElem hlt,List.take_succ_eq_append_getElem hlt2,hpre.out,e]
   have hno : aP[j]≠bP[j]→aP≠bP:=by
    intro e1 e2
    apply e1
    simp [e2]
   replace hnx:=hid hnx
   replace hno:=hid hno
   obtain ⟨off,rfl,y0,y1,y2,y3,y4,y5⟩:=en_cells (r1.only0 hor.out) hlt
   obtain ⟨off2,rfl,z0,z1,z2,z3,z4,z5⟩:=en_cells (r4.only0 hor.out) hlt2
   have hqt:=neq_entry aP[j] bP[j]
   generalize aP[j] = s at *
   generalize bP[j] = t at *
   obtain ⟨s1,s2,s3,s4,s5,s6⟩:=s
   obtain ⟨t1,t2,t3,t4,t5,t6⟩:=t
   simp only [enV] at hqt
   clear hpre
   by_cases hs : (s1,s2,s3,s4,s5,s6) = (t1,t2,t3,t4,t5,t6)
   ·have hnx:=hid (hnx.out hs)
    simp only [hs,decide_true,Bool.not_true] at hqt
    clear hs hno
    go_wp2_with fail
    go_region
    go_wp2
    exact ⟨⟨j + 1,by omega,by go_num,hnx,hid (hSA.out.only (Only.refl [] _).drew (by simp)),hid (hSB.out.only (Only.refl [] _).drew (by simp)),hid hor.out.drew⟩,by simp [intOf]; omega⟩
   ·have hF : R = false:=by
     rw [hR.out]
     simp [hno.out hs]
    subst hF
    simp only [hs,decide_false,Bool.not_false] at hqt
    clear hs hno hnx hR
    go_wp2_with fail
    go_region
    go_wp2
    go_ret
    exact ⟨rfl,hor.out.drew⟩
  ·have g2 : ¬ ((j : Int) < (aP.length : Int)):=by omega
   have eaP : Hid (aP = bP):=by
    obtain rfl : j = aP.length:=by omega
    have h0:=hpre.out
    rw [List.take_of_length_le (Nat.le_refl _),List.take_of_length_le (by rw [c1.out]; exact Nat.le_refl _)] at h0
    exact h0
   clear hpre
   have SA2:=hSA
   have SB2:=hSB
   have o3:=hor
   clear hSA hSB hor a0 a1 b0 b1
   obtain ⟨a0,a1,_,_⟩:=SA2.out
   obtain ⟨b0,b1,_,_⟩:=SB2.out
   go_wp2
   clear a0 a1 b0 b1
   go_loopw [6] (fun i wr=>∃ j : Nat,j≤aC.length∧i = .int .i64 (j : Int)∧Hid (aC.take j = bC.take j)∧Hid (Mo2 wr w.heap.size (.slice po aP.length pcap) (.slice co aC.length ccap))∧Hid (Mo2 wr (w.heap.size + 1) (.slice qo bP.length qcap) (.slice eo bC.length ecap))∧Hid (Only [] w wr)) (fun i _=>aC.length - (intOf i).toNat)
   case atStart=>exact ⟨0,by omega,rfl,hid (by simp),SA2,SB2,o3⟩
   case round=>
    obtain ⟨j,hj,rfl,hpre,hSA,hSB,hor⟩:=hrel
    clear SA2 SB2 o3
    obtain ⟨a0,a1,_,_⟩:=hSA.out
    obtain ⟨b0,b1,_,_⟩:=hSB.out
    by_cases hlt : j < aC.length
    ·have g2 : ((j : Int) < (aC.length : Int)):=by omega
     have hlt2 : j < bC.length:=by rw [← c2.out]; exact hlt
     have g3 : ((j : Int) < (bC.length : Int)):=by omega
     have hnx : aC[j] = bC[j]→aC.take (j + 1) = bC.take (j + 1):=by
      intro e
      rw [List.take_succ_eq_append_getElem hlt,List.take_succ_eq_append_getElem hlt2,hpre.out,e]
     have hno : aC[j]≠bC[j]→aC≠bC:=by
      intro e1 e2
      apply e1
      simp [e2]
     replace hnx:=hid hnx
     replace hno:=hid hno
     obtain ⟨off,vf,vd,vm,rfl,hm1,y0,y1,y2,y3,y4,y5⟩:=cl_cells (r3.only0 hor.out) hEA.out hlt
     obtain ⟨off2,uf,ud,um,rfl,hm2,z0,z1,z2,z3,z4,z5⟩:=cl_cells (r6.only0 hor.out) hEB.out hlt2
     have HM:=hid (rsame_class _ _ ((hm1.only0 hor.out).only0 (Only.refl [] _).drew) ((hm2.only0 hor.out).only0 (Only.refl [] _).drew))
     clear hm1 hm2
     unfold clV at HM
     generalize aC[j] = s at *
     generalize bC[j] = t at *
     clear hpre
     by_cases hs : s = t
     ·have hnx:=hid (hnx.out hs)
      have hd : decide (s = t) = true:=by simp [hs]
      rw [hd] at HM
      clear hs hno hd
      go_wp2_with fail
      go_region_with (go_at_call 34; refine HM.out.mono ?_; rintro e w4 ⟨rfl,o4⟩)
      all_goals go_wp2
      all_goals exact ⟨⟨j + 1,by omega,by go_num,hnx,hid (hSA.out.only ((Only.refl [] _).drew.trans o4 (by simp)) (by simp)),hid (hSB.out.only ((Only.refl [] _).drew.trans o4 (by simp)) (by simp)),hid (hor.out.drew.trans o4 (by simp))⟩,by simp [intOf]; omega⟩
     ·have hF : R = false:=by
       rw [hR.out]
       simp [hno.out hs]
      subst hF
      have hd : decide (s = t) = false:=by simp [hs]
      rw [hd] at HM
      clear hs hno hnx hR hd
      go_wp2_with fail
      go_region_with (go_at_call 34; refine HM.out.mono ?_; rintro e w4 ⟨rfl,o4⟩)
      all_goals go_wp2
      all_goals go_ret
      all_goals exact ⟨rfl,hor.out.drew.trans o4 (by simp)⟩
    ·have g2 : ¬ ((j : Int) < (aC.length : Int)):=by omega
     have eaC : Hid (aC = bC):=by
      obtain rfl : j = aC.length:=by omega
      have h0:=hpre.out
      rw [List.take_of_length_le (Nat.le_refl _),List.take_of_length_le (by rw [c2.out]; exact Nat.le_refl _)] at h0
      exact h0
     clear hpre
     have hT : R = true:=by
      rw [hR.out]
      simp [eaP.out,eaC.out]
     subst hT
     clear hR
     go_wp2
     go_ret
     exact ⟨rfl,hor.out⟩

end Go.Proofs.YtildemmkhndhjaaGreatDoor
