/-
  What the proof leans on, part 30 of 48. The conditions stand in each theorem.
-/
import Derived.Test.YtildemmkhndhjaaGreatDoorB17
import Derived.Test.YtildemmkhndhjaaGreatDoorB20
namespace Go.Proofs.YtildemmkhndhjaaGreatDoor
open Go.RowKit

theorem str_cells {w : World} {ao : Option Addr} {l : List (List UInt8)} {d : Nat} (h : RS w ao (scs l) d) {j : Nat} (hj : j < l.length) :
  ∃ off,ao = some ⟨d,off,none⟩∧w.cell? ⟨d,off + j,none⟩ = some (.string (str l[j])):=by
 obtain ⟨off,ha,hc⟩:=h.piece 1 j ((els_flat scC (fun _=>rfl) l).el j hj) (by simp [scC])
 refine ⟨off,ha,?_⟩
 have:=hc 0 _ rfl
 simpa using this

set_option maxHeartbeats 4000000 in
set_option maxRecDepth 100000 in
theorem rsame_class {w : World} {P Q : Nat→Prop} (a b : Cl) {vf vd vm uf ud um : Value} (hA : ClAt (SlR w P) vf vd vm a) (hB : ClAt (SlR w Q) uf ud um b) :
  Calls Tryz.prog 34 #[clV vf vd vm a,clV uf ud um b] w fun e w'=>e = .returned (.bool (decide (a = b)))∧Only [] w w':=by
 obtain ⟨af,an,au,aF,aD,aM⟩:=a
 obtain ⟨bf,bn,bu,bF,bD,bM⟩:=b
 obtain ⟨hA1,hA2,acs,hA3,hEA⟩:=hA
 obtain ⟨hB1,hB2,bcs,hB3,hEB⟩:=hB
 obtain ⟨fo,fcap,rfl,pl⟩:=SlV.shape hA1
 obtain ⟨do_,dcap,rfl,cl⟩:=SlV.shape hA2
 obtain ⟨mo,mcap,rfl,hl⟩:=SlV.shape hA3
 obtain ⟨go,gcap,rfl,ql⟩:=SlV.shape hB1
 obtain ⟨eo,ecap,rfl,el⟩:=SlV.shape hB2
 obtain ⟨no_,ncap,rfl,gl⟩:=SlV.shape hB3
 obtain ⟨d1,r1⟩:=SlV.rs hA1
 obtain ⟨d2,r2⟩:=SlV.rs hA2
 obtain ⟨d3,r3⟩:=SlV.rs hA3
 obtain ⟨d4,r4⟩:=SlV.rs hB1
 obtain ⟨d5,r5⟩:=SlV.rs hB2
 obtain ⟨d6,r6⟩:=SlV.rs hB3
 clear hA1 hA2 hA3 hB1 hB2 hB3
 simp only at pl cl hl ql el gl r1 r2 r3 r4 r5 r6 hEA hEB
 replace hEA:=hid hEA
 replace hEB:=hid hEB
 have o1:=((Only.refl [] w).alloc (.cells #[.int .i64 af,.string (str an),.string (str au),.slice fo aF.length fcap,.slice do_ aD.length dcap,.slice mo aM.length mcap] 28)).alloc (.cells #[.int .i64 bf,.string (str bn),.string (str bu),.slice go bF.length gcap,.slice eo bD.length ecap,.slice no_ bM.length ncap] 28)
 have SA:=hid ((cl6_new w (.int .i64 af) (.string (str an)) (.string (str au)) (.slice fo aF.length fcap) (.slice do_ aD.length dcap) (.slice mo aM.length mcap) 28).only ((Only.refl [] _).alloc (.cells #[.int .i64 bf,.string (str bn),.string (str bu),.slice go bF.length gcap,.slice eo bD.length ecap,.slice no_ bM.length ncap] 28)) (by simp))
 have SB:=cl6_new (w.alloc (.cells #[.int .i64 af,.string (str an),.string (str au),.slice fo aF.length fcap,.slice do_ aD.length dcap,.slice mo aM.length mcap] 28)) (.int .i64 bf) (.string (str bn)) (.string (str bu)) (.slice go bF.length gcap) (.slice eo bD.length ecap) (.slice no_ bM.length ncap) 28
 rw [World.size_alloc] at SB
 replace SB:=hid SB
 simp only [clV]
 obtain ⟨R,hR⟩ : ∃ R,R = decide ((⟨af,an,au,aF,aD,aM⟩ : Cl) = ⟨bf,bn,bu,bF,bD,bM⟩):=⟨_,rfl⟩
 rw [← hR]
 replace hR:=hid hR
 replace o1:=hid o1
 by_cases c1 : af = bf
 case neg=>
  have hF : R = false:=by
   rw [hR.out]
   simp [c1]
  subst hF
  have n1 : (af == bf) = false:=by simpa using c1
  have m1 : (af != bf) = true:=by simpa using c1
  clear hR
  go_enter Tryz.func34,Tryz.ntmps34
  go_wp2
  go_ret
  exact ⟨rfl,o1.out⟩
 subst c1
 by_cases c2 : an = bn
 case neg=>
  have hF : R = false:=by
   rw [hR.out]
   simp [c2]
  subst hF
  have n2 : (an == bn) = false:=by simpa using c2
  have m2 : (an != bn) = true:=by simpa using c2
  have p2 : ¬ ((str an).toList = (str bn).toList):=by rw [str_toList,str_toList]; exact c2
  have q2 : ((str an).toList == (str bn).toList) = false:=by simpa using p2
  have s2 : ((str an).toList != (str bn).toList) = true:=by simpa using p2
  clear hR
  go_enter Tryz.func34,Tryz.ntmps34
  go_wp2
  go_ret
  exact ⟨rfl,o1.out⟩
 subst c2
 by_cases c3 : au = bu
 case neg=>
  have hF : R = false:=by
   rw [hR.out]
   simp [c3]
  subst hF
  have n3 : (au == bu) = false:=by simpa using c3
  have m3 : (au != bu) = true:=by simpa using c3
  have p3 : ¬ ((str au).toList = (str bu).toList):=by rw [str_toList,str_toList]; exact c3
  have q3 : ((str au).toList == (str bu).toList) = false:=by simpa using p3
  have s3 : ((str au).toList != (str bu).toList) = true:=by simpa using p3
  clear hR
  go_enter Tryz.func34,Tryz.ntmps34
  go_wp2
  go_ret
  exact ⟨rfl,o1.out⟩
 subst c3
 by_cases c4 : aF.length = bF.length
 case neg=>
  have hF : R = false:=by
   rw [hR.out]
   simp [show ¬ (aF = bF) from fun e=>c4 (by rw [e])]
  subst hF
  have n4 : ((aF.length : Int) != (bF.length : Int)) = true:=by simpa using (by omega : ¬ ((aF.length : Int) = (bF.length : Int)))
  have m4 : ¬ ((aF.length : Int) = (bF.length : Int)):=by omega
  clear hR
  go_enter Tryz.func34,Tryz.ntmps34
  go_wp2
  go_ret
  exact ⟨rfl,o1.out⟩
 have n4 : ((aF.length : Int) != (bF.length : Int)) = false:=by simp [c4]
 have m4 : ((aF.length : Int) == (bF.length : Int)) = true:=by simp [c4]
 replace c4:=hid c4
 by_cases c5 : aD.length = bD.length
 case neg=>
  have hF : R = false:=by
   rw [hR.out]
   simp [show ¬ (aD = bD) from fun e=>c5 (by rw [e])]
  subst hF
  have n5 : ((aD.length : Int) != (bD.length : Int)) = true:=by simpa using (by omega : ¬ ((aD.length : Int) = (bD.length : Int)))
  have m5 : ¬ ((aD.length : Int) = (bD.length : Int)):=by omega
  clear hR
  go_enter Tryz.func34,Tryz.ntmps34
  go_wp2
  go_ret
  exact ⟨rfl,o1.out⟩
 have n5 : ((aD.length : Int) != (bD.length : Int)) = false:=by simp [c5]
 have m5 : ((aD.length : Int) == (bD.length : Int)) = true:=by simp [c5]
 replace c5:=hid c5
 by_cases c6 : aM.length = bM.length
 case neg=>
  have hF : R = false:=by
   rw [hR.out]
   simp [show ¬ (aM = bM) from fun e=>c6 (by rw [e])]
  subst hF
  have n6 : ((aM.length : Int) != (bM.length : Int)) = true:=by simpa using (by omega : ¬ ((aM.length : Int) = (bM.length : Int)))
  have m6 : ¬ ((aM.length : Int) = (bM.length : Int)):=by omega
  clear hR
  go_enter Tryz.func34,Tryz.ntmps34
  go_wp2
  go_ret
  exact ⟨rfl,o1.out⟩
 have n6 : ((aM.length : Int) != (bM.length : Int)) = false:=by simp [c6]
 have m6 : ((aM.length : Int) == (bM.length : Int)) = true:=by simp [c6]
 replace c6:=hid c6
 go_enter Tryz.func34,Tryz.ntmps34
 go_wp2
 go_loopw [5] (fun i wr=>∃ j : Nat,j≤aF.length∧i = .int .i64 (j : Int)∧Hid (aF.take j = bF.take j)∧Hid (Cl6 wr w.heap.size (.int .i64 af) (.string (str an)) (.string (str au)) (.slice fo aF.length fcap) (.slice do_ aD.length dcap) (.slice mo aM.length mcap))∧Hid (Cl6 wr (w.heap.size + 1) (.int .i64 af) (.string (str an)) (.string (str au)) (.slice go bF.length gcap) (.slice eo bD.length ecap) (.slice no_ bM.length ncap))∧Hid (Only [] w wr)) (fun i _=>aF.length - (intOf i).toNat)
 case atStart=>exact ⟨0,by omega,rfl,hid (by simp),SA,SB,o1⟩
 case round=>
  obtain ⟨j,hj,rfl,hpre,hSA,hSB,hor⟩:=hrel
  clear SA SB o1
  obtain ⟨a0,a1,a2,a3,a4,a5,_,_,_,_,_,_⟩:=hSA.out
  obtain ⟨b0,b1,b2,b3,b4,b5,_,_,_,_,_,_⟩:=hSB.out
  by_cases hlt : j < aF.length
  ·have g2 : ((j : Int) < (aF.length : Int)):=by omega
   have hlt2 : j < bF.length:=by rw [← c4.out]; exact hlt
   have g3 : ((j : Int) < (bF.length : Int)):=by omega
   have hnx : aF[j] = bF[j]→aF.take (j + 1) = bF.take (j + 1):=by
    intro e
    rw [List.take_succ_eq_append_getElem hlt,List.take_succ_eq_append_getElem hlt2,hpre.out,e]
   have hno : aF[j]≠bF[j]→aF≠bF:=by
    intro e1 e2
    apply e1
    simp [e2]
   replace hnx:=hid hnx
   replace hno:=hid hno
   obtain ⟨off,rfl,y0⟩:=str_cells (r1.only0 hor.out) hlt
   obtain ⟨off2,rfl,z0⟩:=str_cells (r4.only0 hor.out) hlt2
   generalize aF[j] = s at *
   generalize bF[j] = t at *
   clear hpre
   by_cases hs : s = t
   ·replace hnx:=hid (hnx.out hs)
    subst hs
    clear hno
    go_wp2_with fail
    go_region
    go_wp2
    exact ⟨⟨j + 1,by omega,by go_num,hnx,hid (hSA.out.only (Only.refl [] _).drew (by simp)),hid (hSB.out.only (Only.refl [] _).drew (by simp)),hid hor.out.drew⟩,by simp [intOf]; omega⟩
   ·have hF : R = false:=by
     rw [hR.out]
     simp [hno.out hs]
    subst hF
    have p1 : ¬ ((str s).toList = (str t).toList):=by rw [str_toList,str_toList]; exact hs
    have q1 : ((str s).toList == (str t).toList) = false:=by simpa using p1
    have s1 : ((str s).toList != (str t).toList) = true:=by simpa using p1
    clear hs hno hnx hR
    go_wp2_with fail
    go_region
    go_wp2
    go_ret
    exact ⟨rfl,hor.out.drew⟩
  ·have g2 : ¬ ((j : Int) < (aF.length : Int)):=by omega
   have eaF : Hid (aF = bF):=by
    obtain rfl : j = aF.length:=by omega
    have h0:=hpre.out
    rw [List.take_of_length_le (Nat.le_refl _),List.take_of_length_le (by rw [c4.out]; exact Nat.le_refl _)] at h0
    exact h0
   clear hpre
   have SA2:=hSA
   have SB2:=hSB
   have o3:=hor
   clear hSA hSB hor a0 a1 a2 a3 a4 a5 b0 b1 b2 b3 b4 b5
   obtain ⟨a0,a1,a2,a3,a4,a5,_,_,_,_,_,_⟩:=SA2.out
   obtain ⟨b0,b1,b2,b3,b4,b5,_,_,_,_,_,_⟩:=SB2.out
   go_wp2
   clear a0 a1 a2 a3 a4 a5 b0 b1 b2 b3 b4 b5
   go_loopw [6] (fun i wr=>∃ j : Nat,j≤aD.length∧i = .int .i64 (j : Int)∧Hid (aD.take j = bD.take j)∧Hid (Cl6 wr w.heap.size (.int .i64 af) (.string (str an)) (.string (str au)) (.slice fo aF.length fcap) (.slice do_ aD.length dcap) (.slice mo aM.length mcap))∧Hid (Cl6 wr (w.heap.size + 1) (.int .i64 af) (.string (str an)) (.string (str au)) (.slice go bF.length gcap) (.slice eo bD.length ecap) (.slice no_ bM.length ncap))∧Hid (Only [] w wr)) (fun i _=>aD.length - (intOf i).toNat)
   case atStart=>exact ⟨0,by omega,rfl,hid (by simp),SA2,SB2,o3⟩
   case round=>
    obtain ⟨j,hj,rfl,hpre,hSA,hSB,hor⟩:=hrel
    clear SA2 SB2 o3
    obtain ⟨a0,a1,a2,a3,a4,a5,_,_,_,_,_,_⟩:=hSA.out
    obtain ⟨b0,b1,b2,b3,b4,b5,_,_,_,_,_,_⟩:=hSB.out
    by_cases hlt : j < aD.length
    ·have g2 : ((j : Int) < (aD.length : Int)):=by omega
     have hlt2 : j < bD.length:=by rw [← c5.out]; exact hlt
     have g3 : ((j : Int) < (bD.length : Int)):=by omega
     have hnx : aD[j] = bD[j]→aD.take (j + 1) = bD.take (j + 1):=by
      intro e
      rw [List.take_succ_eq_append_getElem hlt,List.take_succ_eq_append_getElem hlt2,hpre.out,e]
     have hno : aD[j]≠bD[j]→aD≠bD:=by
      intro e1 e2
      apply e1
      simp [e2]
     replace hnx:=hid hnx
     replace hno:=hid hno
     obtain ⟨off,rfl,y0,y1,y2,y3⟩:=fd_cells (r2.only0 hor.out) hlt
     obtain ⟨off2,rfl,z0,z1,z2,z3⟩:=fd_cells (r5.only0 hor.out) hlt2
     have hqt:=neq_fd aD[j] bD[j]
     generalize aD[j] = s at *
     generalize bD[j] = t at *
     obtain ⟨s1,s2,s3,s4⟩:=s
     obtain ⟨t1,t2,t3,t4⟩:=t
     simp only [fdV] at hqt
     clear hpre
     by_cases hs : (s1,s2,s3,s4) = (t1,t2,t3,t4)
     ·have hnx:=hid (hnx.out hs)
      simp only [hs,decide_true,Bool.not_true] at hqt
      clear hs hno
      go_wp2_with fail
      go_region
      go_wp2
      exact ⟨⟨j + 1,by omega,by go_num,hnx,hid (hSA.out.only (Only.refl [] _).drew (by simp)),hid (hSB.out.only (Only.refl [] _).drew (by simp)),hid hor.out.drew⟩,by simp [intOf]; omega⟩
     ·have hF : R = false:=by
       rw [hR.out]
       simp [hno.out hs]
      subst hF
      simp only [hs,decide_false,Bool.not_false] at hqt
      clear hs hno hnx hR
      go_wp2_with fail
      go_region
      go_wp2
      go_ret
      exact ⟨rfl,hor.out.drew⟩
    ·have g2 : ¬ ((j : Int) < (aD.length : Int)):=by omega
     have eaD : Hid (aD = bD):=by
      obtain rfl : j = aD.length:=by omega
      have h0:=hpre.out
      rw [List.take_of_length_le (Nat.le_refl _),List.take_of_length_le (by rw [c5.out]; exact Nat.le_refl _)] at h0
      exact h0
     clear hpre
     have SA3:=hSA
     have SB3:=hSB
     have o4:=hor
     clear hSA hSB hor a0 a1 a2 a3 a4 a5 b0 b1 b2 b3 b4 b5
     obtain ⟨a0,a1,a2,a3,a4,a5,_,_,_,_,_,_⟩:=SA3.out
     obtain ⟨b0,b1,b2,b3,b4,b5,_,_,_,_,_,_⟩:=SB3.out
     go_wp2
     clear a0 a1 a2 a3 a4 a5 b0 b1 b2 b3 b4 b5
     go_loopw [7] (fun i wr=>∃ j : Nat,j≤aM.length∧i = .int .i64 (j : Int)∧Hid (aM.take j = bM.take j)∧Hid (Cl6 wr w.heap.size (.int .i64 af) (.string (str an)) (.string (str au)) (.slice fo aF.length fcap) (.slice do_ aD.length dcap) (.slice mo aM.length mcap))∧Hid (Cl6 wr (w.heap.size + 1) (.int .i64 af) (.string (str an)) (.string (str au)) (.slice go bF.length gcap) (.slice eo bD.length ecap) (.slice no_ bM.length ncap))∧Hid (Only [] w wr)) (fun i _=>aM.length - (intOf i).toNat)
     case atStart=>exact ⟨0,by omega,rfl,hid (by simp),SA3,SB3,o4⟩
     case round=>
      obtain ⟨j,hj,rfl,hpre,hSA,hSB,hor⟩:=hrel
      clear SA3 SB3 o4
      obtain ⟨a0,a1,a2,a3,a4,a5,_,_,_,_,_,_⟩:=hSA.out
      obtain ⟨b0,b1,b2,b3,b4,b5,_,_,_,_,_,_⟩:=hSB.out
      by_cases hlt : j < aM.length
      ·have g2 : ((j : Int) < (aM.length : Int)):=by omega
       have hlt2 : j < bM.length:=by rw [← c6.out]; exact hlt
       have g3 : ((j : Int) < (bM.length : Int)):=by omega
       have hnx : aM[j] = bM[j]→aM.take (j + 1) = bM.take (j + 1):=by
        intro e
        rw [List.take_succ_eq_append_getElem hlt,List.take_succ_eq_append_getElem hlt2,hpre.out,e]
       have hno : aM[j]≠bM[j]→aM≠bM:=by
        intro e1 e2
        apply e1
        simp [e2]
       replace hnx:=hid hnx
       replace hno:=hid hno
       obtain ⟨off,vp,vc,vh,rfl,hm1,y0,y1,y2,y3,y4,y5,y6,y7,y8,y9⟩:=me_cells (r3.only0 hor.out) hEA.out hlt
       obtain ⟨off2,up,uc,uh,rfl,hm2,z0,z1,z2,z3,z4,z5,z6,z7,z8,z9⟩:=me_cells (r6.only0 hor.out) hEB.out hlt2
       have HM:=hid (rsame_method _ _ ((hm1.only0 hor.out).only0 (Only.refl [] _).drew) ((hm2.only0 hor.out).only0 (Only.refl [] _).drew))
       clear hm1 hm2
       unfold meV at HM
       generalize aM[j] = s at *
       generalize bM[j] = t at *
       clear hpre
       by_cases hs : s = t
       ·have hnx:=hid (hnx.out hs)
        have hd : decide (s = t) = true:=by simp [hs]
        rw [hd] at HM
        clear hs hno hd
        go_wp2_with fail
        go_region_with (go_at_call 86; refine HM.out.mono ?_; rintro e w4 ⟨rfl,o4⟩)
        all_goals go_wp2
        all_goals exact ⟨⟨j + 1,by omega,by go_num,hnx,hid (hSA.out.only ((Only.refl [] _).drew.trans o4 (by simp)) (by simp)),hid (hSB.out.only ((Only.refl [] _).drew.trans o4 (by simp)) (by simp)),hid (hor.out.drew.trans o4 (by simp))⟩,by simp [intOf]; omega⟩
       ·have hF : R = false:=by
         rw [hR.out]
         simp [hno.out hs]
        subst hF
        have hd : decide (s = t) = false:=by simp [hs]
        rw [hd] at HM
        clear hs hno hnx hR hd
        go_wp2_with fail
        go_region_with (go_at_call 86; refine HM.out.mono ?_; rintro e w4 ⟨rfl,o4⟩)
        all_goals go_wp2
        all_goals go_ret
        all_goals exact ⟨rfl,hor.out.drew.trans o4 (by simp)⟩
      ·have g2 : ¬ ((j : Int) < (aM.length : Int)):=by omega
       have eaM : Hid (aM = bM):=by
        obtain rfl : j = aM.length:=by omega
        have h0:=hpre.out
        rw [List.take_of_length_le (Nat.le_refl _),List.take_of_length_le (by rw [c6.out]; exact Nat.le_refl _)] at h0
        exact h0
       clear hpre
       have hT : R = true:=by
        rw [hR.out]
        simp [eaF.out,eaD.out,eaM.out]
       subst hT
       clear hR
       go_wp2
       go_ret
       exact ⟨rfl,hor.out⟩

end Go.Proofs.YtildemmkhndhjaaGreatDoor
