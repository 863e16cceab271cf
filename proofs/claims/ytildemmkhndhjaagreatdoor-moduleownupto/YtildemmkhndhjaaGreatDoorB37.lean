/-
  What the proof leans on, part 37 of 48. The conditions stand in each theorem.
-/
import Derived.Test.YtildemmkhndhjaaGreatDoorB36
import Derived.Test.YtildemmkhndhjaaGreatDoorB22
import Derived.Test.YtildemmkhndhjaaGreatDoorB32
import Derived.Test.YtildemmkhndhjaaGreatDoorB27
import Derived.Test.YtildemmkhndhjaaGreatDoorB31
import Derived.Test.YtildemmkhndhjaaGreatDoorB18
import Derived.Test.YtildemmkhndhjaaGreatDoorB13
import Derived.Deep.RegionHeld3
import Derived.Test.YtildemmkhndhjaaGreatDoorB34
import Derived.Lib.SmallJoins
namespace Go.Proofs.YtildemmkhndhjaaGreatDoor
open Go.RowKit

theorem members_first {α : Type} {most : Nat} {g : List α→α→Int × Int} {l : List α} (h : ¬ most < l.length) : membersE most g l = firstE g (l.take 0) (l.drop 0):=by
 unfold membersE
 rw [if_neg h]
 rfl

theorem head_faces {c : Cl} (h : headE c = 0) : ¬ 16 < c.faces.length:=by
 intro h2
 unfold headE at h
 by_cases a : c.flags≠0∧c.flags≠1∧c.flags≠2
 ·rw [if_pos a] at h
  exact absurd h (by decide)
 ·rw [if_neg a] at h
  by_cases b : nameOK c.name = false∨nameOK c.super = false
  ·rw [if_pos b] at h
   exact absurd h (by decide)
  ·rw [if_neg b,if_pos h2] at h
   exact absurd h (by decide)

set_option maxHeartbeats 8000000 in
set_option maxRecDepth 100000 in
theorem rclass5_any {w : World} {P Q : Nat→Prop} (l : List En) {ve : Value} (hE0 : SlV w Q ve l.length (ecs l)) (hA : ∀ e∈l,e.2.1.length≤1048576) (c : Cl) (hF : ClFit c) (hps : ∀ m∈c.methods,m.sig.1.length≤2000000) {vf vd vm : Value} (hC : ClAt (SlR w P) vf vd vm c) :
  Calls Tryz.prog 95 #[ve,clV vf vd vm c] w fun e w'=>e = .returned (bpV (classE l c))∧Only [] w w':=by
 obtain ⟨hC1,hC2,mcs,hC3,hEl⟩:=hC
 obtain ⟨fo,fc,rfl,lf⟩:=SlV.shape hC1
 obtain ⟨do_,dc,rfl,ld⟩:=SlV.shape hC2
 obtain ⟨mo,mc,rfl,lm⟩:=SlV.shape hC3
 have HH:=fun W=>rhead_any c (fo:=fo) (dd:=do_) (fc:=fc) (dc:=dc) (.slice mo c.methods.length mc) hF.name hF.super lf ld W
 have H1:=fun W (hW : Only [] w W) i hi=>rface_any (P:=P) c i hi hF.faces (vd:=.slice do_ c.fields.length dc) (vm:=.slice mo c.methods.length mc) (SlV.only hC1 hW (by simp))
 have H2:=fun W (hW : Only [] w W) i hi=>rfield5_any (P:=P) c i hi hF.fields (vf:=.slice fo c.faces.length fc) (vm:=.slice mo c.methods.length mc) (SlV.only hC2 hW (by simp))
 have H3:=fun W (hW : Only [] w W) i hi=>rmethod5_any (P:=P) (Q:=Q) l (SlV.only hE0 hW (by simp)) hA c.flags c.name c.super c.methods i hi (fun m hm=>⟨hF.methods m hm,hps m hm⟩) (vf:=.slice fo c.faces.length fc) (vd:=.slice do_ c.fields.length dc) (SlV.only hC3 hW (by simp)) (hEl.imp fun _ _ _ h=>h.imp (slr_only hW (by simp)))
 obtain ⟨R,hR⟩ : ∃ R,R = classE l c:=⟨_,rfl⟩
 rw [← hR]
 unfold classE at hR
 have hf16:=head_faces (c:=c)
 unfold clV at HH H1 H2 ⊢
 clear hC1 hC2 hC3 hEl hF hps hE0 hA
 generalize headE c = he at *
 obtain ⟨cf,cn,cs,aF,aD,aM⟩:=c
 simp only at HH H1 H2 H3 hR hf16 lf ld lm ⊢
 replace HH:=hid HH
 replace H1:=hid H1
 replace H2:=hid H2
 replace H3:=hid H3
 replace hR:=hid hR
 have o1:=((Only.refl [] w).alloc (.cells #[.int .i64 cf,.string (str cn),.string (str cs),.slice fo aF.length fc,.slice do_ aD.length dc,.slice mo aM.length mc] 28)).alloc (.cells #[.int .i64 0,.int .i64 0,.int .i64 0,.int .i64 0] 54)
 have S1:=hid ((cl6_new w (.int .i64 cf) (.string (str cn)) (.string (str cs)) (.slice fo aF.length fc) (.slice do_ aD.length dc) (.slice mo aM.length mc) 28).only ((Only.refl [] _).alloc (.cells #[.int .i64 0,.int .i64 0,.int .i64 0,.int .i64 0] 54)) (by simp))
 have B1:=b4_new (w.alloc (.cells #[.int .i64 cf,.string (str cn),.string (str cs),.slice fo aF.length fc,.slice do_ aD.length dc,.slice mo aM.length mc] 28)) (.int .i64 0) (.int .i64 0) (.int .i64 0) (.int .i64 0) 54
 rw [World.size_alloc] at B1
 replace B1:=hid B1
 obtain ⟨c0,c1,c2,c3,c4,c5,_,_,_,_,_,_⟩:=S1.out
 obtain ⟨b0,b1,b2,b3,k0,k1,k2,k3⟩:=B1.out
 by_cases hz : he = 0
 case neg=>
  have hRR : R = (0,0,0,he):=by rw [hR.out]; exact orE_left hz
  subst hRR
  have n1 : (he != 0) = true:=by simpa using hz
  have m1 : (he == 0) = false:=by simpa using hz
  clear hR H1 H2 H3
  go_enter Tryz.func95,Tryz.ntmps95
  go_wp2_with fail
  refine (HH.out _).mono ?_
  rintro e w3 ⟨rfl,o3⟩
  have B3:=hid (B1.out.only o3 (by simp))
  obtain ⟨b0,b1,b2,b3,k0,k1,k2,k3⟩:=B3.out
  clear HH
  go_wp2_with fail
  obtain ⟨T,oT⟩:=B3.out.put (.int .i64 0) (.int .i64 0) (.int .i64 0) (.int .i64 he)
  obtain ⟨d0,d1,d2,d3,_,_,_,_⟩:=T
  refine bodyPost_ret (v:=.agg #[.int .i64 0,.int .i64 0,.int .i64 0,.int .i64 he]) (by simp [results,Tryz.results95,go_sem,d0,d1,d2,d3]) rfl ?_
  exact ⟨rfl,(o1.trans o3 (by simp)).next oT (by simp)⟩
 subst hz
 have h16:=hf16 rfl
 clear hf16
 have hR1 : Hid (R = orE (firstE (at0 faceE) (aF.take 0) (aF.drop 0)) (orE (membersE 64 (at0 fieldE) aD) (membersE 64 (methodE l cf) aM))):=by
  unfold Hid
  rw [hR.out,orE_right rfl,members_first h16]
 clear hR h16
 go_enter Tryz.func95,Tryz.ntmps95
 go_wp2_with fail
 refine (HH.out _).mono ?_
 rintro e w3 ⟨rfl,o3⟩
 have S3:=hid (S1.out.only o3 (by simp))
 have B3:=hid (B1.out.only o3 (by simp))
 have oo3:=hid (o1.trans o3 (by simp))
 clear HH S1 B1 o1 o3 c0 c1 c2 c3 c4 c5 b0 b1 b2 b3 k0 k1 k2 k3
 obtain ⟨c0,c1,c2,c3,c4,c5,_,_,_,_,_,_⟩:=S3.out
 obtain ⟨b0,b1,b2,b3,k0,k1,k2,k3⟩:=B3.out
 go_wp2_with fail
 clear c0 c1 c2 c3 c4 c5 b0 b1 b2 b3 k0 k1 k2 k3
 go_loopw [6] (fun v wr=>∃ j : Nat,j≤aF.length∧v = .int .i64 (j : Int)∧Hid (R = orE (firstE (at0 faceE) (aF.take j) (aF.drop j)) (orE (membersE 64 (at0 fieldE) aD) (membersE 64 (methodE l cf) aM)))∧Hid (Cl6 wr w.heap.size (.int .i64 cf) (.string (str cn)) (.string (str cs)) (.slice fo aF.length fc) (.slice do_ aD.length dc) (.slice mo aM.length mc))∧Hid (B4 wr (w.heap.size + 1) (.int .i64 0) (.int .i64 0) (.int .i64 0) (.int .i64 0))∧Hid (Only [] w wr)) (fun v _=>aF.length - (intOf v).toNat)
 case atStart=>exact ⟨0,by omega,rfl,hR1,S3,B3,oo3⟩
 case round=>
  obtain ⟨j,hj,rfl,hq,hS,hB,hor⟩:=hrel
  clear S3 B3 oo3 hR1
  obtain ⟨c0,c1,c2,c3,c4,c5,_,_,_,_,_,_⟩:=hS.out
  obtain ⟨b0,b1,b2,b3,k0,k1,k2,k3⟩:=hB.out
  by_cases hlt : j < aF.length
  ·have g1 : ((j : Int) < (aF.length : Int)):=by omega
   have HC:=H1.out wr hor.out j hlt
   have hdr:=firstE_drop (at0 faceE) aF j hlt
   have hq2:=hq.out
   rw [hdr] at hq2
   replace hq2:=hid hq2
   clear hdr hq
   have hat : (at0 faceE) (aF.take j) aF[j] = (0,faceE (aF.take j) aF[j]):=rfl
   rw [hat] at hq2
   clear hat
   generalize faceE (aF.take j) aF[j] = xe at *
   simp only at hq2
   replace HC:=hid HC
   by_cases hxe : xe = 0
   ·subst hxe
    have hq3 : Hid (R = orE (firstE (at0 faceE) (aF.take (j + 1)) (aF.drop (j + 1))) (orE (membersE 64 (at0 fieldE) aD) (membersE 64 (methodE l cf) aM))):=by
     unfold Hid
     rw [hq2.out,if_pos rfl]
    clear hq2
    go_wp2_with fail
    refine HC.out.mono ?_
    rintro e w4 ⟨rfl,o4⟩
    go_wp2_with fail
    exact ⟨⟨j + 1,by omega,by go_num,hq3,hid (hS.out.only o4 (by simp)),hid (hB.out.only o4 (by simp)),hid (hor.out.trans o4 (by simp))⟩,by simp [intOf]; omega⟩
   ·have hRR : R = (0,(j : Int),0,xe):=by
     rw [hq2.out,if_neg hxe]
     exact orE_left hxe
    subst hRR
    have n1 : (xe != 0) = true:=by simpa using hxe
    have m1 : (xe == 0) = false:=by simpa using hxe
    clear hq2
    go_wp2_with fail
    refine HC.out.mono ?_
    rintro e w4 ⟨rfl,o4⟩
    have B4':=hid (hB.out.only o4 (by simp))
    clear b0 b1 b2 b3 k0 k1 k2 k3
    obtain ⟨b0,b1,b2,b3,k0,k1,k2,k3⟩:=B4'.out
    clear HC
    go_wp2_with fail
    obtain ⟨T,oT⟩:=B4'.out.put (.int .i64 0) (.int .i64 (j : Int)) (.int .i64 0) (.int .i64 xe)
    obtain ⟨d0,d1,d2,d3,_,_,_,_⟩:=T
    refine bodyPost_ret (v:=.agg #[.int .i64 0,.int .i64 (j : Int),.int .i64 0,.int .i64 xe]) (by simp [results,Tryz.results95,go_sem,d0,d1,d2,d3]) rfl ?_
    exact ⟨rfl,(hor.out.trans o4 (by simp)).next oT (by simp)⟩
  ·have g1 : ¬ ((j : Int) < (aF.length : Int)):=by omega
   have hok : firstE (at0 faceE) (aF.take j) (aF.drop j) = ok4:=by
    rw [List.drop_of_length_le (by omega)]
    rfl
   have hq3:=hq.out
   rw [hok,orE_right rfl] at hq3
   replace hq3:=hid hq3
   clear hq hok
   by_cases hmn : 64 < aD.length
   ·have gm : (64 : Int) < (aD.length : Int):=by omega
    have hRR : R = (0,0,0,4):=by
     rw [hq3.out]
     unfold membersE
     rw [if_pos hmn]
     exact orE_left (by decide)
    subst hRR
    clear hq3
    go_wp2_with fail
    obtain ⟨T,oT⟩:=hB.out.put (.int .i64 0) (.int .i64 0) (.int .i64 0) (.int .i64 4)
    obtain ⟨d0,d1,d2,d3,_,_,_,_⟩:=T
    refine bodyPost_ret (v:=.agg #[.int .i64 0,.int .i64 0,.int .i64 0,.int .i64 4]) (by simp [results,Tryz.results95,go_sem,d0,d1,d2,d3]) rfl ?_
    exact ⟨rfl,(hor.out).next oT (by simp)⟩
   ·have gm : ¬ (64 : Int) < (aD.length : Int):=by omega
    have hR2:=hq3.out
    rw [members_first (l:=aD) hmn] at hR2
    replace hR2:=hid hR2
    clear hq3
    have S3:=hS
    have B3:=hB
    have oo3:=hor
    clear hS hB hor
    go_wp2_with fail
    clear c0 c1 c2 c3 c4 c5 b0 b1 b2 b3 k0 k1 k2 k3
    go_loopw [8] (fun v wr=>∃ j : Nat,j≤aD.length∧v = .int .i64 (j : Int)∧Hid (R = orE (firstE (at0 fieldE) (aD.take j) (aD.drop j)) (membersE 64 (methodE l cf) aM))∧Hid (Cl6 wr w.heap.size (.int .i64 cf) (.string (str cn)) (.string (str cs)) (.slice fo aF.length fc) (.slice do_ aD.length dc) (.slice mo aM.length mc))∧Hid (B4 wr (w.heap.size + 1) (.int .i64 0) (.int .i64 0) (.int .i64 0) (.int .i64 0))∧Hid (Only [] w wr)) (fun v _=>aD.length - (intOf v).toNat)
    case atStart=>exact ⟨0,by omega,rfl,hR2,S3,B3,oo3⟩
    case round=>
     obtain ⟨j,hj,rfl,hq,hS,hB,hor⟩:=hrel
     clear S3 B3 oo3 hR2
     obtain ⟨c0,c1,c2,c3,c4,c5,_,_,_,_,_,_⟩:=hS.out
     obtain ⟨b0,b1,b2,b3,k0,k1,k2,k3⟩:=hB.out
     by_cases hlt : j < aD.length
     ·have g1 : ((j : Int) < (aD.length : Int)):=by omega
      have HC:=H2.out wr hor.out j hlt
      have hdr:=firstE_drop (at0 fieldE) aD j hlt
      have hq2:=hq.out
      rw [hdr] at hq2
      replace hq2:=hid hq2
      clear hdr hq
      have hat : (at0 fieldE) (aD.take j) aD[j] = (0,fieldE (aD.take j) aD[j]):=rfl
      rw [hat] at hq2
      clear hat
      generalize fieldE (aD.take j) aD[j] = xe at *
      simp only at hq2
      replace HC:=hid HC
      by_cases hxe : xe = 0
      ·subst hxe
       have hq3 : Hid (R = orE (firstE (at0 fieldE) (aD.take (j + 1)) (aD.drop (j + 1))) (membersE 64 (methodE l cf) aM)):=by
        unfold Hid
        rw [hq2.out,if_pos rfl]
       clear hq2
       go_wp2_with fail
       refine HC.out.mono ?_
       rintro e w4 ⟨rfl,o4⟩
       go_wp2_with fail
       exact ⟨⟨j + 1,by omega,by go_num,hq3,hid (hS.out.only o4 (by simp)),hid (hB.out.only o4 (by simp)),hid (hor.out.trans o4 (by simp))⟩,by simp [intOf]; omega⟩
      ·have hRR : R = (0,(j : Int),0,xe):=by
        rw [hq2.out,if_neg hxe]
        exact orE_left hxe
       subst hRR
       have n1 : (xe != 0) = true:=by simpa using hxe
       have m1 : (xe == 0) = false:=by simpa using hxe
       clear hq2
       go_wp2_with fail
       refine HC.out.mono ?_
       rintro e w4 ⟨rfl,o4⟩
       have B4':=hid (hB.out.only o4 (by simp))
       clear b0 b1 b2 b3 k0 k1 k2 k3
       obtain ⟨b0,b1,b2,b3,k0,k1,k2,k3⟩:=B4'.out
       clear HC
       go_wp2_with fail
       obtain ⟨T,oT⟩:=B4'.out.put (.int .i64 0) (.int .i64 (j : Int)) (.int .i64 0) (.int .i64 xe)
       obtain ⟨d0,d1,d2,d3,_,_,_,_⟩:=T
       refine bodyPost_ret (v:=.agg #[.int .i64 0,.int .i64 (j : Int),.int .i64 0,.int .i64 xe]) (by simp [results,Tryz.results95,go_sem,d0,d1,d2,d3]) rfl ?_
       exact ⟨rfl,(hor.out.trans o4 (by simp)).next oT (by simp)⟩
     ·have g1 : ¬ ((j : Int) < (aD.length : Int)):=by omega
      have hok : firstE (at0 fieldE) (aD.take j) (aD.drop j) = ok4:=by
       rw [List.drop_of_length_le (by omega)]
       rfl
      have hq3:=hq.out
      rw [hok,orE_right rfl] at hq3
      replace hq3:=hid hq3
      clear hq hok
      by_cases hmn : 64 < aM.length
      ·have gm : (64 : Int) < (aM.length : Int):=by omega
       have hRR : R = (0,0,0,4):=by
        rw [hq3.out]
        unfold membersE
        rw [if_pos hmn]
       subst hRR
       clear hq3
       go_wp2_with fail
       obtain ⟨T,oT⟩:=hB.out.put (.int .i64 0) (.int .i64 0) (.int .i64 0) (.int .i64 4)
       obtain ⟨d0,d1,d2,d3,_,_,_,_⟩:=T
       refine bodyPost_ret (v:=.agg #[.int .i64 0,.int .i64 0,.int .i64 0,.int .i64 4]) (by simp [results,Tryz.results95,go_sem,d0,d1,d2,d3]) rfl ?_
       exact ⟨rfl,(hor.out).next oT (by simp)⟩
      ·have gm : ¬ (64 : Int) < (aM.length : Int):=by omega
       have hR2:=hq3.out
       rw [members_first (l:=aM) hmn] at hR2
       replace hR2:=hid hR2
       clear hq3
       have S3:=hS
       have B3:=hB
       have oo3:=hor
       clear hS hB hor
       go_wp2_with fail
       clear c0 c1 c2 c3 c4 c5 b0 b1 b2 b3 k0 k1 k2 k3
       go_loopw [10] (fun v wr=>∃ j : Nat,j≤aM.length∧v = .int .i64 (j : Int)∧Hid (R = firstE (methodE l cf) (aM.take j) (aM.drop j))∧Hid (Cl6 wr w.heap.size (.int .i64 cf) (.string (str cn)) (.string (str cs)) (.slice fo aF.length fc) (.slice do_ aD.length dc) (.slice mo aM.length mc))∧Hid (B4 wr (w.heap.size + 1) (.int .i64 0) (.int .i64 0) (.int .i64 0) (.int .i64 0))∧Hid (Only [] w wr)) (fun v _=>aM.length - (intOf v).toNat)
       case atStart=>exact ⟨0,by omega,rfl,hR2,S3,B3,oo3⟩
       case round=>
        obtain ⟨j,hj,rfl,hq,hS,hB,hor⟩:=hrel
        clear S3 B3 oo3 hR2
        obtain ⟨c0,c1,c2,c3,c4,c5,_,_,_,_,_,_⟩:=hS.out
        obtain ⟨b0,b1,b2,b3,k0,k1,k2,k3⟩:=hB.out
        by_cases hlt : j < aM.length
        ·have g1 : ((j : Int) < (aM.length : Int)):=by omega
         have HC:=H3.out wr hor.out j hlt
         have hdr:=firstE_drop (methodE l cf) aM j hlt
         have hq2:=hq.out
         rw [hdr] at hq2
         replace hq2:=hid hq2
         clear hdr hq
         generalize (methodE l cf) (aM.take j) aM[j] = x at *
         obtain ⟨xa,xe⟩:=x
         simp only at HC hq2
         replace HC:=hid HC
         by_cases hxe : xe = 0
         ·subst hxe
          have hq3 : Hid (R = firstE (methodE l cf) (aM.take (j + 1)) (aM.drop (j + 1))):=by
           unfold Hid
           rw [hq2.out,if_pos rfl]
          clear hq2
          go_wp2_with fail
          refine HC.out.mono ?_
          rintro e w4 ⟨rfl,o4⟩
          go_wp2_with fail
          exact ⟨⟨j + 1,by omega,by go_num,hq3,hid (hS.out.only o4 (by simp)),hid (hB.out.only o4 (by simp)),hid (hor.out.trans o4 (by simp))⟩,by simp [intOf]; omega⟩
         ·have hRR : R = (0,(j : Int),xa,xe):=by
           rw [hq2.out,if_neg hxe]
          subst hRR
          have n1 : (xe != 0) = true:=by simpa using hxe
          have m1 : (xe == 0) = false:=by simpa using hxe
          clear hq2
          go_wp2_with fail
          refine HC.out.mono ?_
          rintro e w4 ⟨rfl,o4⟩
          have B4':=hid (hB.out.only o4 (by simp))
          clear b0 b1 b2 b3 k0 k1 k2 k3
          obtain ⟨b0,b1,b2,b3,k0,k1,k2,k3⟩:=B4'.out
          clear HC
          go_wp2_with fail
          obtain ⟨T,oT⟩:=B4'.out.put (.int .i64 0) (.int .i64 (j : Int)) (.int .i64 xa) (.int .i64 xe)
          obtain ⟨d0,d1,d2,d3,_,_,_,_⟩:=T
          refine bodyPost_ret (v:=.agg #[.int .i64 0,.int .i64 (j : Int),.int .i64 xa,.int .i64 xe]) (by simp [results,Tryz.results95,go_sem,d0,d1,d2,d3]) rfl ?_
          exact ⟨rfl,(hor.out.trans o4 (by simp)).next oT (by simp)⟩
        ·have g1 : ¬ ((j : Int) < (aM.length : Int)):=by omega
         have hok : firstE (methodE l cf) (aM.take j) (aM.drop j) = ok4:=by
          rw [List.drop_of_length_le (by omega)]
          rfl
         have hq3:=hq.out
         rw [hok] at hq3
         replace hq3:=hid hq3
         clear hq hok
         obtain rfl:=hq3.out
         clear hq3
         go_wp2_with fail
         obtain ⟨T,oT⟩:=hB.out.put (.int .i64 0) (.int .i64 0) (.int .i64 0) (.int .i64 0)
         obtain ⟨d0,d1,d2,d3,_,_,_,_⟩:=T
         refine bodyPost_ret (v:=.agg #[.int .i64 0,.int .i64 0,.int .i64 0,.int .i64 0]) (by simp [results,Tryz.results95,go_sem,d0,d1,d2,d3]) rfl ?_
         exact ⟨rfl,(hor.out).next oT (by simp)⟩


set_option maxHeartbeats 2000000 in
theorem xs_entry {w : World} {B y K : Nat} {L : List Nat} (h : XS w B y K L) (e : En) (hl : e.2.1.length≤9223372036854775807) (hK : K + 300≤211106232532992) :
  Calls Tryz.prog 89 #[.pointer (some ⟨y,0,none⟩),enV e] w (XP w B y (K + 300) L):=by
 obtain ⟨k,t,n,a,b,c⟩:=e
 simp only [enV] at hl ⊢
 have hX1:=h.alloc (.cells #[.int .i64 k,.string (str t),.int .i64 n,.int .i64 a,.int .i64 b,.int .i64 c] 90)
 have l1 : Lo L B w (w.alloc (.cells #[.int .i64 k,.string (str t),.int .i64 n,.int .i64 a,.int .i64 b,.int .i64 c] 90)):=Lo.of0 ((Only.refl [] w).alloc _)
 have S1:=hid (cl6_new w (.int .i64 k) (.string (str t)) (.int .i64 n) (.int .i64 a) (.int .i64 b) (.int .i64 c) 90)
 have H1:=hid (xs_u1 hX1 k (by omega))
 clear h hX1
 replace l1:=hid l1
 obtain ⟨c0,c1,c2,c3,c4,c5,_,_,_,_,_,_⟩:=S1.out
 go_enter Tryz.func89,Tryz.ntmps89
 go_wp2_with fail
 refine H1.out.mono ?_
 rintro e w2 ⟨rfl,hX2,l2⟩
 have S2:=hid (S1.out.lo l2 (by simp))
 clear H1 S1 c0 c1 c2 c3 c4 c5
 obtain ⟨c0,c1,c2,c3,c4,c5,_,_,_,_,_,_⟩:=S2.out
 by_cases k1 : k = 1
 ·subst k1
  have H2:=hid (xs_text hX2 t hl (by omega))
  go_wp2_with fail
  refine H2.out.mono ?_
  rintro e w3 ⟨rfl,hX3,l3⟩
  clear H2
  go_wp2
  go_end0
  exact ⟨rfl,(hX3.tail).mono (by omega),l1.out.trans (l2.trans l3).tail⟩
 by_cases k2 : k = 2
 ·subst k2
  have H2:=hid (xs_n8 hX2 n (by omega))
  go_wp2_with fail
  refine H2.out.mono ?_
  rintro e w3 ⟨rfl,hX3,l3⟩
  clear H2
  go_wp2
  go_end0
  exact ⟨rfl,(hX3.tail).mono (by omega),l1.out.trans (l2.trans l3).tail⟩
 by_cases k3 : k = 3
 ·subst k3
  have H2:=hid (xs_u2 hX2 a (by omega))
  go_wp2_with fail
  refine H2.out.mono ?_
  rintro e w3 ⟨rfl,hX3,l3⟩
  clear H2
  go_wp2
  go_end0
  exact ⟨rfl,(hX3.tail).mono (by omega),l1.out.trans (l2.trans l3).tail⟩
 by_cases k4 : k = 4
 ·subst k4
  have H2:=hid (xs_u2 hX2 a (by omega))
  go_wp2_with fail
  refine H2.out.mono ?_
  rintro e w3 ⟨rfl,hX3,l3⟩
  clear H2
  go_wp2
  go_end0
  exact ⟨rfl,(hX3.tail).mono (by omega),l1.out.trans (l2.trans l3).tail⟩
 have k1' : (k == 1) = false:=by simpa using k1
 have k2' : (k == 2) = false:=by simpa using k2
 have k3' : (k == 3) = false:=by simpa using k3
 have k4' : (k == 4) = false:=by simpa using k4
 have H2:=hid (xs_u2 hX2 a (by omega))
 go_wp2_with fail
 refine H2.out.mono ?_
 rintro e w3 ⟨rfl,hX3,l3⟩
 clear H2
 have S3:=hid (S2.out.lo l3 (by simp))
 clear c0 c1 c2 c3 c4 c5
 obtain ⟨c0,c1,c2,c3,c4,c5,_,_,_,_,_,_⟩:=S3.out
 have H3:=hid (xs_u2 hX3 b (by omega))
 go_wp2_with fail
 refine H3.out.mono ?_
 rintro e w4 ⟨rfl,hX4,l4⟩
 clear H3
 have S4:=hid (S3.out.lo l4 (by simp))
 clear c0 c1 c2 c3 c4 c5
 obtain ⟨c0,c1,c2,c3,c4,c5,_,_,_,_,_,_⟩:=S4.out
 have H4:=hid (xs_u2 hX4 c (by omega))
 go_wp2_with fail
 refine H4.out.mono ?_
 rintro e w5 ⟨rfl,hX5,l5⟩
 clear H4
 go_wp2
 go_end0
 exact ⟨rfl,(hX5.tail).mono (by omega),l1.out.trans (((l2.trans l3).trans l4).trans l5).tail⟩

theorem stR_len (l : List Ty) (void : Bool) (t : Ty) : (stR l void t).length≤9223372036854775807:=by
 unfold stR
 split
 ·rename_i h
  obtain ⟨h1,h2,h3,_⟩:=sigCheck_ok h
  have hl:=fits_len l fun x hx=>check_fit (h2 x hx)
  have ht:=fit_len (check_fit h3)
  unfold sigText
  split
  ·simp
   omega
  ·simp
   omega
 ·simp

set_option maxHeartbeats 4000000 in
set_option maxRecDepth 100000 in
theorem xs_written {w : World} {B y K : Nat} {L : List Nat} (h : XS w B y K L) (m : Me) (hF : MeFit m) (hcl : m.code.length≤1024) (hhl : m.hands.length≤32) {vp vc vh : Value} (hM : MeAt (SlR w (· < B)) vp vc vh m) (hK : K + 12000≤211106232532992) :
  Calls Tryz.prog 93 #[.pointer (some ⟨y,0,none⟩),meV vp vc vh m] w (XP w B y (K + 12000) L):=by
 obtain ⟨fl,nm,⟨ps,vo,td,tn⟩,st,lo,code,hs⟩:=m
 obtain ⟨hM1,hM2,hM3⟩:=hM
 obtain ⟨po,pc,rfl,pl⟩:=SlV.shape hM1
 obtain ⟨co,cc,rfl,cl⟩:=SlV.shape hM2
 obtain ⟨ho,hc,rfl,hl⟩:=SlV.shape hM3
 have hF1:=hF.name
 have hF4:=hid hF.hands
 simp only [meV] at hM1 hM2 hM3 pl cl hl hF1 hF4 hcl hhl ⊢
 have HT:=hid (fun W (hW : SlV W (· < B) (.slice po ps.length pc) ps.length (tcs ps))=>by
  obtain ⟨d,hr⟩:=SlV.rs hW
  exact rsigText_any (cap:=pc) (TS.of_rs hr) pl hF.params vo (td,tn) hF.res)
 have hsl:=stR_len ps vo (td,tn)
 clear hF
 generalize stR ps vo (td,tn) = sx at *
 have hno : Hid (co = none→cc = 0):=by
  obtain ⟨co',cc',d',ev,hS⟩:=hM2
  simp only [Value.slice.injEq] at ev
  obtain ⟨rfl,_,rfl⟩:=ev
  exact hS.no
 simp only [sigV] at HT
 replace hM1:=hid hM1
 replace hM2:=hid hM2
 replace hM3:=hid hM3
 have hX1:=h.alloc (.cells #[.int .i64 fl,.string (str nm),.slice po ps.length pc,.bool vo,.int .i64 td,.string (str tn),.int .i64 st,.int .i64 lo,.slice co code.length cc,.slice ho hs.length hc] 41)
 have l1 : Hid (Lo L B w (w.alloc (.cells #[.int .i64 fl,.string (str nm),.slice po ps.length pc,.bool vo,.int .i64 td,.string (str tn),.int .i64 st,.int .i64 lo,.slice co code.length cc,.slice ho hs.length hc] 41))):=Lo.of0 ((Only.refl [] w).alloc _)
 have S1:=hid (me10_new w (.int .i64 fl) (.string (str nm)) (.slice po ps.length pc) (.bool vo) (.int .i64 td) (.string (str tn)) (.int .i64 st) (.int .i64 lo) (.slice co code.length cc) (.slice ho hs.length hc) 41)
 have H1:=hid (xs_u1 hX1 fl (by omega))
 clear h hX1
 obtain ⟨a0,a1,a2,a3,a4,a5,a6,a7,a8,a9,_,_,_,_,_,_,_,_,_,_⟩:=S1.out
 go_enter Tryz.func93,Tryz.ntmps93
 go_wp2_with fail
 refine H1.out.mono ?_
 rintro e w2 ⟨rfl,hX2,l2⟩
 have S2:=hid (S1.out.lo l2 (by simp))
 have L2:=hid (l1.out.trans l2.tail)
 clear H1 S1 l1 l2
 clear a0 a1 a2 a3 a4 a5 a6 a7 a8 a9
 obtain ⟨a0,a1,a2,a3,a4,a5,a6,a7,a8,a9,_,_,_,_,_,_,_,_,_,_⟩:=S2.out
 have H2:=hid (xs_text hX2 nm hF1 (by omega))
 go_wp2_with fail
 refine H2.out.mono ?_
 rintro e w3 ⟨rfl,hX3,l3⟩
 have S3:=hid (S2.out.lo l3 (by simp))
 have L3:=hid (L2.out.trans l3.tail)
 clear H2 S2 L2 l3 hX2
 clear a0 a1 a2 a3 a4 a5 a6 a7 a8 a9
 obtain ⟨a0,a1,a2,a3,a4,a5,a6,a7,a8,a9,_,_,_,_,_,_,_,_,_,_⟩:=S3.out
 go_wp2_with fail
 refine (HT.out _ (hM1.out.lo L3.out)).mono ?_
 rintro e w4 ⟨rfl,o4⟩
 have hX4:=hX3.only0 o4
 have S4:=hid (S3.out.only o4 (by simp))
 have L4:=hid (L3.out.trans (Lo.of0 o4))
 clear HT S3 L3 o4 hX3
 clear a0 a1 a2 a3 a4 a5 a6 a7 a8 a9
 obtain ⟨a0,a1,a2,a3,a4,a5,a6,a7,a8,a9,_,_,_,_,_,_,_,_,_,_⟩:=S4.out
 have H4:=hid (xs_text hX4 sx hsl (by omega))
 go_wp2_with fail
 refine H4.out.mono ?_
 rintro e w5 ⟨rfl,hX5,l5⟩
 have S5:=hid (S4.out.lo l5 (by simp))
 have L5:=hid (L4.out.trans l5.tail)
 clear H4 S4 L4 l5 hX4
 clear a0 a1 a2 a3 a4 a5 a6 a7 a8 a9
 obtain ⟨a0,a1,a2,a3,a4,a5,a6,a7,a8,a9,_,_,_,_,_,_,_,_,_,_⟩:=S5.out
 by_cases f2 : fl = 2
 ·subst f2
  go_wp2
  go_end0
  exact ⟨rfl,(hX5.tail).mono (by omega),L5.out⟩
 have f2' : (fl == 2) = false:=by simpa using f2
 have H5:=hid (xs_u1 hX5 st (by omega))
 go_wp2_with fail
 refine H5.out.mono ?_
 rintro e w6 ⟨rfl,hX6,l6⟩
 have S6:=hid (S5.out.lo l6 (by simp))
 have L6:=hid (L5.out.trans l6.tail)
 clear H5 S5 L5 l6 hX5
 clear a0 a1 a2 a3 a4 a5 a6 a7 a8 a9
 obtain ⟨a0,a1,a2,a3,a4,a5,a6,a7,a8,a9,_,_,_,_,_,_,_,_,_,_⟩:=S6.out
 have H6:=hid (xs_u1 hX6 lo (by omega))
 go_wp2_with fail
 refine H6.out.mono ?_
 rintro e w7 ⟨rfl,hX7,l7⟩
 have S7:=hid (S6.out.lo l7 (by simp))
 have L7:=hid (L6.out.trans l7.tail)
 clear H6 S6 L6 l7 hX6
 clear a0 a1 a2 a3 a4 a5 a6 a7 a8 a9
 obtain ⟨a0,a1,a2,a3,a4,a5,a6,a7,a8,a9,_,_,_,_,_,_,_,_,_,_⟩:=S7.out
 have H7:=hid (xs_u2 hX7 (code.length : Int) (by omega))
 go_wp2_with fail
 refine H7.out.mono ?_
 rintro e w8 ⟨rfl,hX8,l8⟩
 have S8:=hid (S7.out.lo l8 (by simp))
 have L8:=hid (L7.out.trans l8.tail)
 clear H7 S7 L7 l8 hX7
 clear a0 a1 a2 a3 a4 a5 a6 a7 a8 a9
 obtain ⟨a0,a1,a2,a3,a4,a5,a6,a7,a8,a9,_,_,_,_,_,_,_,_,_,_⟩:=S8.out
 obtain ⟨dC,rC⟩:=SlV.rs (hM2.out.lo L8.out)
 have H8:=hid (xs_bytes hX8 rC hno.out (by omega))
 go_wp2_with fail
 refine H8.out.mono ?_
 rintro e w9 ⟨rfl,hX9,l9⟩
 have S9:=hid (S8.out.lo l9 (by simp))
 have L9:=hid (L8.out.trans l9.tail)
 clear H8 S8 L8 l9 hX8
 clear a0 a1 a2 a3 a4 a5 a6 a7 a8 a9
 obtain ⟨a0,a1,a2,a3,a4,a5,a6,a7,a8,a9,_,_,_,_,_,_,_,_,_,_⟩:=S9.out
 clear rC
 have H9:=hid (xs_u1 hX9 (hs.length : Int) (by omega))
 go_wp2_with fail
 refine H9.out.mono ?_
 rintro e w10 ⟨rfl,hX10,l10⟩
 have S10:=hid (S9.out.lo l10 (by simp))
 have L10:=hid (L9.out.trans l10.tail)
 clear H9 S9 L9 l10 hX9
 clear a0 a1 a2 a3 a4 a5 a6 a7 a8 a9
 obtain ⟨a0,a1,a2,a3,a4,a5,a6,a7,a8,a9,_,_,_,_,_,_,_,_,_,_⟩:=S10.out
 go_wp2_with fail
 have X10:=hid (hX10.mono (show _≤K + 2000 + 0 * 262 by omega))
 clear a0 a1 a2 a3 a4 a5 a6 a7 a8 a9
 clear hX10
 go_loopw [6] (fun v wr=>∃ j : Nat,j≤hs.length∧v = .int .i64 (j : Int)∧Hid (XS wr B y (K + 2000 + j * 262) (w.heap.size :: L))∧Hid (Me10 wr w.heap.size (.int .i64 fl) (.string (str nm)) (.slice po ps.length pc) (.bool vo) (.int .i64 td) (.string (str tn)) (.int .i64 st) (.int .i64 lo) (.slice co code.length cc) (.slice ho hs.length hc))∧Hid (Lo L B w wr)) (fun v _=>hs.length - (intOf v).toNat)
 case atStart=>exact ⟨0,by omega,rfl,X10,S10,L10⟩
 case round=>
  obtain ⟨j,hj,rfl,hX,hS,hL⟩:=hrel
  clear X10 S10 L10
  obtain ⟨a0,a1,a2,a3,a4,a5,a6,a7,a8,a9,_,_,_,_,_,_,_,_,_,_⟩:=hS.out
  by_cases hlt : j < hs.length
  ·have g1 : ((j : Int) < (hs.length : Int)):=by omega
   obtain ⟨dH,rH⟩:=SlV.rs (hM3.out.lo hL.out)
   obtain ⟨off,rfl,y0,y1,y2,y3⟩:=hd_cells rH hlt
   have hfit:=hF4.out _ (List.getElem_mem hlt)
   clear rH
   generalize hs[j] = x at *
   obtain ⟨xf,xt,xa,xn⟩:=x
   simp only at y0 y1 y2 y3 hfit
   have X1:=hX.out.alloc (.cells #[.int .i64 xf,.int .i64 xt,.int .i64 xa,.string (str xn)] 46)
   have q1 : Hid (Lo (w.heap.size :: L) B wr (wr.alloc (.cells #[.int .i64 xf,.int .i64 xt,.int .i64 xa,.string (str xn)] 46))):=Lo.of0 ((Only.refl [] wr).alloc _)
   have T1:=hid (b4_new wr (.int .i64 xf) (.int .i64 xt) (.int .i64 xa) (.string (str xn)) 46)
   obtain ⟨d0,d1,d2,d3,_,_,_,_⟩:=T1.out
   have H1:=hid (xs_u2 X1 xf (by omega))
   go_wp2_with fail
   refine H1.out.mono ?_
   rintro e v2 ⟨rfl,X2,l2⟩
   have T2:=hid (T1.out.lo l2 (by simp))
   have q2:=hid (q1.out.trans l2.tail)
   clear H1 T1 q1 l2 X1
   clear d0 d1 d2 d3
   obtain ⟨d0,d1,d2,d3,_,_,_,_⟩:=T2.out
   have H2:=hid (xs_u2 X2 xt (by omega))
   go_wp2_with fail
   refine H2.out.mono ?_
   rintro e v3 ⟨rfl,X3,l3⟩
   have T3:=hid (T2.out.lo l3 (by simp))
   have q3:=hid (q2.out.trans l3.tail)
   clear H2 T2 q2 l3 X2
   clear d0 d1 d2 d3
   obtain ⟨d0,d1,d2,d3,_,_,_,_⟩:=T3.out
   have H3:=hid (xs_u2 X3 xa (by omega))
   go_wp2_with fail
   refine H3.out.mono ?_
   rintro e v4 ⟨rfl,X4,l4⟩
   have T4:=hid (T3.out.lo l4 (by simp))
   have q4:=hid (q3.out.trans l4.tail)
   clear H3 T3 q3 l4 X3
   clear d0 d1 d2 d3
   obtain ⟨d0,d1,d2,d3,_,_,_,_⟩:=T4.out
   have H4:=hid (xs_text X4 xn hfit (by omega))
   go_wp2_with fail
   refine H4.out.mono ?_
   rintro e v5 ⟨rfl,X5,l5⟩
   have T5:=hid (T4.out.lo l5 (by simp))
   have q5:=hid (q4.out.trans l5.tail)
   clear H4 T4 q4 l5 X4
   clear d0 d1 d2 d3
   obtain ⟨d0,d1,d2,d3,_,_,_,_⟩:=T5.out
   go_wp2_with fail
   exact ⟨⟨j + 1,by omega,by go_num,hid ((X5.tail).mono (by omega)),hid (hS.out.lo q5.out (by simp)),hid (hL.out.trans q5.out.tail)⟩,by simp [intOf]; omega⟩
  ·have g1 : ¬ ((j : Int) < (hs.length : Int)):=by omega
   go_wp2
   go_end0
   exact ⟨rfl,(hX.out.tail).mono (by omega),hL.out⟩


/-- What was wrong, as an error says it. -/
def tBad (t : St) : Bp:=match t with
 | .inl f=>(0,0,f.1,f.2)
 | .inr _=>ok4

theorem keepF {w z z' : World} {sb r : Nat} (ho : z = z') (h : z.cell? ⟨sb,0,none⟩ = some (.pointer (some ⟨r,0,none⟩))∧Only [] w z) : z'.cell? ⟨sb,0,none⟩ = some (.pointer (some ⟨r,0,none⟩))∧Only [] w z':=by
 subst ho
 exact h

theorem keepA {w z : World} {sb r : Nat} (o : Obj) (h : z.cell? ⟨sb,0,none⟩ = some (.pointer (some ⟨r,0,none⟩))∧Only [] w z) : (z.alloc o).cell? ⟨sb,0,none⟩ = some (.pointer (some ⟨r,0,none⟩))∧Only [] w (z.alloc o):=
 ⟨cell_alloc o h.1,h.2.alloc o⟩

theorem keepD {w z : World} {sb r : Nat} (h : z.cell? ⟨sb,0,none⟩ = some (.pointer (some ⟨r,0,none⟩))∧Only [] w z) : z.drew.cell? ⟨sb,0,none⟩ = some (.pointer (some ⟨r,0,none⟩))∧Only [] w z.drew:=⟨h.1,h.2.drew⟩

set_option maxHeartbeats 2000000 in
theorem fault_src {w : World} {sb r d : Nat} {t : St} (h : Sc w sb r d t) :
  Calls Tryz.prog 33 #[.pointer (some ⟨sb,0,none⟩)] w fun e w'=>∃ v,e = .returned v∧EB w' sb v (tBad t)∧Only [] w w':=by
 have HF:=hid (fine_src h)
 cases h with
 | fine h=>
  go_enter Tryz.func33,Tryz.ntmps33
  go_wp2_with (go_at_call 84; refine HF.out.mono ?_; rintro e w' ⟨rfl,rfl⟩)
  go_ret
  exact ⟨_,rfl,.no rfl,Only.refl _ _⟩
 | cut he h=>
  rename_i l n e
  have hlt : sb < w.heap.size:=World.block_lt_of_cell? w _ h.c0
  have HA:=hid (fun W (hW : Only [] w W)=>at_any (h.rd.only hW (by simp) (by simp)))
  have HE:=hid (fun W (hW : Only [] w W)=>err_any (h.rd.only hW (by simp) (by simp)))
  simp only at HA HE
  obtain ⟨c0,c1,_⟩:=h
  have c0h:=hid c0
  go_enter Tryz.func33,Tryz.ntmps33
  go_wp2_with (go_at_call 84; refine HF.out.mono ?_; rintro e w' ⟨rfl,rfl⟩)
  go_region_held3 (fun w'=>w'.cell? ⟨sb,0,none⟩ = some (.pointer (some ⟨r,0,none⟩))∧Only [] w w')
   (first | (with_reducible exact ⟨c0h.out,Only.refl _ _⟩) | (with_reducible exact keepD ⟨c0h.out,Only.refl _ _⟩) | (with_reducible exact keepF (by assumption) (by assumption)) | (with_reducible exact keepA _ (by assumption)))
   (first
    | (go_at_call 83; (with_reducible refine (HA.out _ ?_).mono ?_); (simp [*]); rintro e w1 ⟨rfl,hw1⟩)
    | (go_at_call 85; (with_reducible refine (HE.out _ ?_).mono ?_); (simp [*]); rintro e w1 ⟨rfl,hw1⟩))
  rename_i wx hwx hH
  have hO:=hH.2
  have hsz : w.heap.size = w1.heap.size:=by
   subst hwx
   subst hw1
   rfl
  clear hH
  go_wp2_with fail
  go_ret
  exact ⟨_,rfl,.bad he (by omega) (bad_new w1 0 0 (n : Int) e),hO⟩
 | bad he h hq hn=>
  obtain ⟨c0,c1,_⟩:=h
  go_enter Tryz.func33,Tryz.ntmps33
  go_wp2_with (go_at_call 84; refine HF.out.mono ?_; rintro e w' ⟨rfl,rfl⟩)
  go_ret
  exact ⟨_,rfl,.bad he (by omega) hq,Only.refl _ _⟩


theorem rs_fresh (w : World) (cs : Array Value) (t : TypeId) (fr : Nat × Nat) : RS (w.alloc (.cells cs t fr)) (some ⟨w.heap.size,0,none⟩) cs.toList w.heap.size:=
 .inr ⟨0,rfl,fun j u hj=>by
  rw [Nat.zero_add,World.cell?_alloc_mark]
  simpa using hj⟩

set_option maxHeartbeats 4000000 in
theorem wmod_any {w : World} {B p g : Nat} {out : List UInt8} (h : WrE w B p g (out,0)) (m : Mo) (hg : MoGood m) (hF : MoFit m) {P : Nat→Prop} {vp vc : Value} (hM : MoAt (SlR w P) vp vc m) (hPB : ∀ d,P d→d < B) (hsz : out.length≤1000000000000) :
  Calls Tryz.prog 25 #[tgV p,.agg #[vp,vc]] w fun r w'=>r = .returned (.tuple #[])∧WTo w B p g w' (out ++ encM m,0):=by
 obtain ⟨hp0,ccs,hc0,hCE⟩:=hM
 obtain ⟨po,pc,pd,rfl,hP0⟩:=hp0
 obtain ⟨co,cc,cd,rfl,hC0⟩:=hc0
 have hclF:=hF.classes
 clear hF
 obtain ⟨pl,cl⟩:=m
 obtain ⟨hmp,hmc,hplG,hclG⟩:=hg
 simp only at hmp hmc hplG hclG hclF hP0 hC0 hCE
 unfold encM
 simp only
 have hl:=h.lt
 have hT1:=WTo.refl (h.only (((Only.refl [] w).alloc (.cells #[.pointer (some ⟨p,0,none⟩)] 76)).alloc (.cells #[.slice po pl.length pc,.slice co cl.length cc] 32)) (by simp) (by simp))
 have hO:=hid (((Only.refl [p,g] w).alloc (.cells #[.pointer (some ⟨p,0,none⟩)] 76)).alloc (.cells #[.slice po pl.length pc,.slice co cl.length cc] 32))
 have q:=box1 w #[.pointer (some ⟨p,0,none⟩)] 76 (.cells #[.slice po pl.length pc,.slice co cl.length cc] 32) (i:=0) rfl
 have q0:=box2 w #[.slice po pl.length pc,.slice co cl.length cc] 32 (.cells #[.pointer (some ⟨p,0,none⟩)] 76) (i:=0) rfl
 have q1:=box2 w #[.slice po pl.length pc,.slice co cl.length cc] 32 (.cells #[.pointer (some ⟨p,0,none⟩)] 76) (i:=1) rfl
 have Q:=hid (And.intro q ((And.intro q0 q1)))
 clear q q0 q1
 have hp1 : w.heap.size≠p:=by omega
 have hg1 : w.heap.size≠g:=by omega
 have hp2 : w.heap.size + 1≠p:=by omega
 have hg2 : w.heap.size + 1≠g:=by omega
 unfold tgV
 have hB:=hid hl
 have RP:=hid hP0
 have RC:=hid hC0
 have RCE:=hid hCE
 have hGe:=hid hplG
 have hGc:=hid hclG
 have hFc:=hid hclF
 clear hP0 hC0 hCE hplG hclG hclF
 have hElen : (pl.flatMap encEn).length≤1250000:=by
  have:=flat_le encEn 300 pl fun x hx=>encEn_len (hGe.out x hx)
  omega
 have HM:=bytes_lift (hT1.alloc (.cells #[.int .u8 75,.int .u8 69,.int .u8 89,.int .u8 49] 5 (4,5))) (bs:=magicL) (cap:=4) (rs_fresh _ #[.int .u8 75,.int .u8 69,.int .u8 89,.int .u8 49] 5 (4,5)) (by simp) (by simp [magicL]; omega)
 simp only [World.size_alloc] at HM
 replace HM:=hid HM
 have kc:=Joins.run_convert_bytes_const_at (P:=Tryz.prog) ((w.alloc (.cells #[.pointer (some ⟨p,0,none⟩)] 76)).alloc (.cells #[.slice po pl.length pc,.slice co cl.length cc] 32)) 38 5 #[.int .u8 75,.int .u8 69,.int .u8 89,.int .u8 49] 4 4 (w.heap.size + 1 + 1) (by simp) Tryz.underlying38 Tryz.underlying5
 go_enter Tryz.func25,Tryz.ntmps25
 obtain ⟨q,q0,q1⟩:=Q.out
 go_wp2_with fail
 refine HM.out.mono ?_
 rintro e w2 ⟨rfl,hT2⟩
 clear HM
 obtain ⟨q,q0,q1⟩:=Q.out
 replace q:=hT2.box q hp1 hg1
 replace q0:=hT2.box q0 hp2 hg2
 replace q1:=hT2.box q1 hp2 hg2
 have HV:=u2_lift hT2 [(pl.length : Int)] (by simp; omega) (by simp [magicL]; omega)
 simp only [List.map_cons,List.map_nil,List.length_cons,List.length_nil,Nat.zero_add,List.flatMap_cons,List.flatMap_nil,List.append_nil] at HV
 replace HV:=hid HV
 go_wp2_with fail
 refine HV.out.mono ?_
 rintro e w9 ⟨rfl,hT3⟩
 clear HV
 obtain ⟨q,q0,q1⟩:=Q.out
 replace q:=hT3.box q hp1 hg1
 replace q0:=hT3.box q0 hp2 hg2
 replace q1:=hT3.box q1 hp2 hg2
 go_wp2_with fail
 obtain ⟨OUT,hOUT⟩ : ∃ O,O = out ++ magicL ++ e2 (pl.length : Int):=⟨_,rfl⟩
 rw [← hOUT] at hT3
 have hlen : OUT.length≤out.length + 10:=by rw [hOUT]; simp [e2,magicL,toBE_length]
 replace hOUT:=hid hOUT
 have hst : Hid (WTo ((w.alloc (.cells #[.pointer (some ⟨p,0,none⟩)] 76)).alloc (.cells #[.slice po pl.length pc,.slice co cl.length cc] 32)) B p g w9 (OUT ++ (pl.take 0).flatMap encEn,0)):=by simpa [Hid] using hT3
 clear q q0 q1 hT2 hT3
 go_loopw [23] (fun i wr=>∃ (j : Nat),j≤pl.length∧i = .int .i64 (j : Int)∧Hid (WTo ((w.alloc (.cells #[.pointer (some ⟨p,0,none⟩)] 76)).alloc (.cells #[.slice po pl.length pc,.slice co cl.length cc] 32)) B p g wr (OUT ++ (pl.take j).flatMap encEn,0))) (fun i _=>pl.length - (intOf i).toNat)
 case atStart=>exact ⟨0,by omega,rfl,hst⟩
 case round=>
  obtain ⟨j,hj,rfl,hT⟩:=hrel
  clear hst
  by_cases hlt : j < pl.length
  ·have g4 : ((j : Int) < (pl.length : Int)):=by omega
   have hOw:=((((Only.refl [p,g] w).alloc (.cells #[.pointer (some ⟨p,0,none⟩)] 76)).alloc (.cells #[.slice po pl.length pc,.slice co cl.length cc] 32)).trans hT.out.only (by simp))
   have RH2:=RP.out.rs.only hOw (fun hn=>by have:=hPB _ (RP.out.ok hn); have:=hB.out; simp; omega)
   obtain ⟨off,rfl,hcell⟩ : ∃ off,po = some ⟨pd,off,none⟩∧_:=(ES.of_rs RH2).resolve_left (fun e=>by rw [e] at hlt; simp at hlt)
   obtain ⟨c0,c1,c2,c3,c4,c5⟩:=hcell j hlt
   clear hcell
   have hy:=hGe.out pl[j] (List.getElem_mem hlt)
   have hfl : ((pl.take j).flatMap encEn).length≤1300000:=by
    have:=flat_le encEn 300 (pl.take j) fun x hx=>encEn_len (hGe.out x (List.mem_of_mem_take hx))
    have h2 : (pl.take j).length≤4096:=by rw [List.length_take]; omega
    omega
   have hsucc:=hid (flat_take_succ encEn pl j hlt)
   obtain ⟨q,_⟩:=Q.out
   replace q:=hT.out.box q hp1 hg1
   clear RH2
   generalize pl[j] = y at *
   generalize (pl.take j).flatMap encEn = fl2 at *
   have qa:=cell_alloc (.cells #[.int .i64 y.1,.string (str y.2.1),.int .i64 y.2.2.1,.int .i64 y.2.2.2.1,.int .i64 y.2.2.2.2.1,.int .i64 y.2.2.2.2.2] 90) q
   obtain ⟨g',hT2,hgl,hpl,hback⟩:=hT.out.hereA (.cells #[.int .i64 y.1,.string (str y.2.1),.int .i64 y.2.2.1,.int .i64 y.2.2.2.1,.int .i64 y.2.2.2.2.1,.int .i64 y.2.2.2.2.2] 90)
   obtain ⟨gz,hW2,hz2,hz3⟩:=hT2
   have HV:=(wentry_any hW2 y hy (by simp; omega)).mono fun _ _ h=>And.intro h.1 (wto_trans hz3 hz2 h.2)
   unfold tgV enV at HV
   clear hOw
   replace HV:=hid HV
   go_wp2_with fail
   refine HV.out.mono ?_
   rintro e w3 ⟨rfl,hT4⟩
   clear HV
   go_wp2_with fail
   refine ⟨⟨j + 1,by omega,by go_num,?_⟩,by simp [intOf]; omega⟩
   have:=hback _ _ hT4
   rw [hsucc.out]
   simpa [Hid] using this
  ·have g4 : ¬ ((j : Int) < (pl.length : Int)):=by omega
   rw [List.take_of_length_le (by omega)] at hT
   have hT7:=hT.out
   obtain ⟨q,q0,q1⟩:=Q.out
   replace q:=hT7.box q hp1 hg1
   replace q0:=hT7.box q0 hp2 hg2
   replace q1:=hT7.box q1 hp2 hg2
   clear hT
   have HV:=u1_lift hT7 [(cl.length : Int)] (by simp; omega) (by rw [List.length_append]; simp only [List.length_cons,List.length_nil]; omega)
   simp only [List.map_cons,List.map_nil,List.length_cons,List.length_nil,Nat.zero_add,List.flatMap_cons,List.flatMap_nil,List.append_nil] at HV
   replace HV:=hid HV
   go_wp2_with fail
   refine HV.out.mono ?_
   rintro e w10 ⟨rfl,hT8⟩
   clear HV
   obtain ⟨q,q0,q1⟩:=Q.out
   replace q:=hT8.box q hp1 hg1
   replace q0:=hT8.box q0 hp2 hg2
   replace q1:=hT8.box q1 hp2 hg2
   go_wp2_with fail
   obtain ⟨OUT2,hOUT2⟩ : ∃ O,O = OUT ++ pl.flatMap encEn ++ e1 (cl.length : Int):=⟨_,rfl⟩
   rw [← hOUT2] at hT8
   have hlen2 : OUT2.length≤OUT.length + 1300000:=by rw [hOUT2,List.length_append,List.length_append]; simp only [e1,List.length_cons,List.length_nil]; omega
   replace hOUT2:=hid hOUT2
   have hst : Hid (WTo ((w.alloc (.cells #[.pointer (some ⟨p,0,none⟩)] 76)).alloc (.cells #[.slice po pl.length pc,.slice co cl.length cc] 32)) B p g w10 (OUT2 ++ (cl.take 0).flatMap encCl,0)):=by simpa [Hid] using hT8
   clear q q0 q1 hT7 hT8
   go_loopw [41] (fun i wr=>∃ (j : Nat),j≤cl.length∧i = .int .i64 (j : Int)∧Hid (WTo ((w.alloc (.cells #[.pointer (some ⟨p,0,none⟩)] 76)).alloc (.cells #[.slice po pl.length pc,.slice co cl.length cc] 32)) B p g wr (OUT2 ++ (cl.take j).flatMap encCl,0))) (fun i _=>cl.length - (intOf i).toNat)
   case atStart=>exact ⟨0,by omega,rfl,hst⟩
   case round=>
    obtain ⟨j,hj,rfl,hT⟩:=hrel
    clear hst
    by_cases hlt : j < cl.length
    ·have g4 : ((j : Int) < (cl.length : Int)):=by omega
     have hOw:=((((Only.refl [p,g] w).alloc (.cells #[.pointer (some ⟨p,0,none⟩)] 76)).alloc (.cells #[.slice po pl.length pc,.slice co cl.length cc] 32)).trans hT.out.only (by simp))
     have RH2:=RC.out.rs.only hOw (fun hn=>by have:=hPB _ (RC.out.ok hn); have:=hB.out; simp; omega)
     obtain ⟨off,vf,vd,vm,rfl,hMA,c0,c1,c2,c3,c4,c5⟩:=cl_cells RH2 RCE.out hlt
     obtain ⟨fo,fc,_,rfl,_⟩:=hMA.faces
     obtain ⟨dO,dc,_,rfl,_⟩:=hMA.fields
     obtain ⟨_,⟨mo,mc,_,rfl,_⟩,_⟩:=hMA.methods
     have hyF:=hFc.out cl[j] (List.getElem_mem hlt)
     have hy:=hGc.out cl[j] (List.getElem_mem hlt)
     have hfl : ((cl.take j).flatMap encCl).length≤20000000:=by
      have:=flat_le encCl 300000 (cl.take j) fun x hx=>encCl_len (hGc.out x (List.mem_of_mem_take hx))
      have h2 : (cl.take j).length≤64:=by rw [List.length_take]; omega
      omega
     have hsucc:=hid (flat_take_succ encCl cl j hlt)
     obtain ⟨q,_⟩:=Q.out
     replace q:=hT.out.box q hp1 hg1
     clear RH2
     generalize cl[j] = y at *
     generalize (cl.take j).flatMap encCl = fl2 at *
     have qa:=cell_alloc (.cells #[.int .i64 y.flags,.string (str y.name),.string (str y.super),.slice fo y.faces.length fc,.slice dO y.fields.length dc,.slice mo y.methods.length mc] 28) q
     obtain ⟨g',hT2,hgl,hpl,hback⟩:=hT.out.hereA (.cells #[.int .i64 y.flags,.string (str y.name),.string (str y.super),.slice fo y.faces.length fc,.slice dO y.fields.length dc,.slice mo y.methods.length mc] 28)
     obtain ⟨gz,hW2,hz2,hz3⟩:=hT2
     have hMA2:=hMA.only (hOw.alloc (.cells #[.int .i64 y.flags,.string (str y.name),.string (str y.super),.slice fo y.faces.length fc,.slice dO y.fields.length dc,.slice mo y.methods.length mc] 28)) (fun d hd=>by have:=hPB d hd; have:=hB.out; simp; omega)
     have HV:=(wcl_any hW2 y hy hyF hMA2 hPB (by simp; omega)).mono fun _ _ h=>And.intro h.1 (wto_trans hz3 hz2 h.2)
     unfold tgV clV at HV
     clear hMA hMA2 hOw
     replace HV:=hid HV
     go_wp2_with fail
     refine HV.out.mono ?_
     rintro e w3 ⟨rfl,hT4⟩
     clear HV
     go_wp2_with fail
     refine ⟨⟨j + 1,by omega,by go_num,?_⟩,by simp [intOf]; omega⟩
     have:=hback _ _ hT4
     rw [hsucc.out]
     simpa [Hid] using this
    ·have g4 : ¬ ((j : Int) < (cl.length : Int)):=by omega
     go_wp2_with fail
     go_end0
     refine ⟨rfl,?_⟩
     have:=wto_trans hO.out (.inl rfl) hT.out
     rw [List.take_of_length_le (by omega),hOUT2.out,hOUT.out] at this
     simpa using this


theorem encM_len {m : Mo} (g : MoGood m) : (encM m).length≤30000000:=by
 have h1:=flat_le encEn 300 m.pool fun x hx=>encEn_len (g.pool x hx)
 have h2:=flat_le encCl 300000 m.classes fun x hx=>encCl_len (g.classes x hx)
 have h3:=g.manyP
 have h4:=g.manyC
 unfold encM
 simp only [List.length_append,magicL,e1,e2,toBE_length,List.length_cons,List.length_nil]
 omega

set_option maxHeartbeats 4000000 in
theorem mwrite_any {w : World} (hg : Ety w) {P : Nat→Prop} (m : Mo) (hF : MoFit m) (hN : ∀ e∈m.pool,-9223372036854775808≤e.2.2.1∧e.2.2.1≤9223372036854775807) {vp vc : Value} (hM : MoAt (SlR w P) vp vc m) :
  Calls Tryz.prog 10 #[.agg #[vp,vc]] w fun e w'=>∃ ao cap v,e = .returned (.tuple #[.slice ao (writeM m).1.length cap,v])∧w'.ownsRow w.heap.size 5 1 (.slice ao (writeM m).1.length cap) (writeM m).1.length (bcs (writeM m).1)∧EB w' w.heap.size v (writeM m).2∧Only [] w w':=by
 have hM' : MoAt (SlR w fun d=>d < w.heap.size) vp vc m:=hM.mono fun d _ h=>h
 obtain ⟨po,pc,_,rfl,_⟩:=hM.pool
 obtain ⟨_,⟨co,cc,_,rfl,_⟩,_⟩:=hM.classes
 have o0:=(Only.refl [] w).alloc (.cells #[.slice po m.pool.length pc,.slice co m.classes.length cc] 32)
 have b0 : Hid ((w.alloc (.cells #[.slice po m.pool.length pc,.slice co m.classes.length cc] 32)).cell? ⟨w.heap.size,0,none⟩ = some (.slice po m.pool.length pc)∧(w.alloc (.cells #[.slice po m.pool.length pc,.slice co m.classes.length cc] 32)).cell? ⟨w.heap.size,1,none⟩ = some (.slice co m.classes.length cc)):=⟨by rw [cell_new]; rfl,by rw [cell_new]; rfl⟩
 have hs0 : Hid (w.heap.size < (w.alloc (.cells #[.slice po m.pool.length pc,.slice co m.classes.length cc] 32)).heap.size):=by simp [Hid]
 have HC:=hid (mcheck_any (hg.only0 o0) (P:=P) m hF (hM.only0 o0))
 have hGood : Hid ((checkM m).2.2.2 = 0→MoGood m):=fun h=>mo_good h hN
 clear hM hg hN
 replace hM':=hid hM'
 replace hF:=hid hF
 obtain ⟨R,hR⟩ : ∃ R,R = writeM m:=⟨_,rfl⟩
 rw [← hR]
 unfold writeM at hR
 generalize checkM m = X at *
 replace hR:=hid hR
 by_cases hX : X.2.2.2 = 0
 ·have hG:=hGood.out hX
  have hlen:=encM_len hG
  replace hG:=hid hG
  go_enter Tryz.func10,Tryz.ntmps10
  go_wp2_with fail
  refine HC.out.mono ?_
  rintro e w1 ⟨v,rfl,hev,ho1⟩
  obtain rfl : v = .nilIface:=by
   rcases hev.ev.nil_iff with ⟨_,h⟩ | ⟨h,_⟩
   ·exact h
   ·exact absurd hX h
  clear hev
  have o1:=hid (o0.next ho1 (by simp))
  have hs1 : Hid (w.heap.size < w1.heap.size):=Nat.lt_of_lt_of_le hs0.out ho1.size
  have b1 : Hid (w1.cell? ⟨w.heap.size,0,none⟩ = some (.slice po m.pool.length pc)∧w1.cell? ⟨w.heap.size,1,none⟩ = some (.slice co m.classes.length cc)):=⟨(ho1.cell (p:=⟨w.heap.size,0,none⟩) hs0.out (by simp)).trans b0.out.1,(ho1.cell (p:=⟨w.heap.size,1,none⟩) hs0.out (by simp)).trans b0.out.2⟩
  have HW:=hid (newWriter_any w1 w1.heap.size (Nat.le_refl _))
  clear HC b0
  go_wp2_with fail
  refine HW.out.mono ?_
  rintro e w2 ⟨rfl,hW2,ho2⟩
  clear HW
  have hs2:=hW2.lt
  have oB:=(Only.refl [] w2).alloc (.cells #[.pointer (some ⟨w1.heap.size,0,none⟩)] 76)
  have o2:=hid (o1.out.next (ho2.next oB (by simp)) (by simp))
  have c0:=((ho2.next oB (by simp)).cell (p:=⟨w.heap.size,0,none⟩) hs1.out (by simp)).trans b1.out.1
  have c1:=((ho2.next oB (by simp)).cell (p:=⟨w.heap.size,1,none⟩) hs1.out (by simp)).trans b1.out.2
  have ct : Hid ((w2.alloc (.cells #[.pointer (some ⟨w1.heap.size,0,none⟩)] 76)).cell? ⟨w2.heap.size,0,none⟩ = some (.pointer (some ⟨w1.heap.size,0,none⟩))):=by rw [cell_new]; rfl
  have HT:=wmod_any (hW2.only oB (by simp) (by simp)) m hG.out hF.out (hM'.out.only0 o2.out) (fun d hd=>by have:=hs1.out; omega) (by simp)
  unfold tgV at HT
  rw [List.nil_append] at HT
  replace HT:=hid HT
  go_wp2_with fail
  refine HT.out.mono ?_
  rintro e w3 ⟨rfl,hT⟩
  clear HT c0 c1
  generalize encM m = bs at *
  have t3:=hT.box ct.out (by omega) (by omega)
  have o3:=hid (o2.out.next (hT.only) (by simp; have:=hs1.out; omega))
  obtain ⟨g',hW3,_,_⟩:=hT
  have HL:=hid (wlen_any hW3)
  have HD:=hid (wdone_any hW3 (by simp only; omega))
  simp only at HL HD
  go_wp2_with fail
  refine HL.out.mono ?_
  rintro e w4 ⟨rfl,rfl⟩
  by_cases hbig : 262144 < bs.length
  ·have gb : (262144 : Int) < (bs.length : Int):=by omega
   clear HL HD
   go_wp2_with fail
   go_ret2
   have hRR : R = ([],0,0,0,5):=by rw [hR.out,if_pos hX,if_pos hbig]
   subst hRR
   exact ⟨none,0,_,rfl,World.ownsRow_nil _ _ _ _,.bad (by decide) (by have:=o3.out.size; omega) (bad_new _ 0 0 0 5),o3.out.alloc _⟩
  ·have gb : ¬ (262144 : Int) < (bs.length : Int):=by omega
   have ed : wDone (bs,0) = bs:=by simp [wDone]
   rw [ed] at HD
   clear HL
   go_wp2_with fail
   refine HD.out.mono ?_
   rintro e w5 ⟨ao,cap,rfl,hown,ho5⟩
   go_wp2_with fail
   go_ret2
   have hRR : R = (bs,ok4):=by rw [hR.out,if_pos hX,if_neg hbig]
   subst hRR
   exact ⟨ao,cap,_,rfl,rows_mono hown o3.out.size,.no rfl,o3.out.next ho5 (by simp)⟩
 ·have hRR : R = ([],X):=by rw [hR.out,if_neg hX]
  subst hRR
  go_enter Tryz.func10,Tryz.ntmps10
  go_wp2_with fail
  refine HC.out.mono ?_
  rintro e w1 ⟨v,rfl,hev,ho1⟩
  rcases hev.ev.nil_iff with ⟨h,_⟩ | ⟨_,t,u,rfl⟩
  ·exact absurd h hX
  go_wp2_with fail
  go_ret2
  exact ⟨none,0,_,rfl,World.ownsRow_nil _ _ _ _,hev.down o0.size,o0.next ho1 (by simp)⟩

end Go.Proofs.YtildemmkhndhjaaGreatDoor
