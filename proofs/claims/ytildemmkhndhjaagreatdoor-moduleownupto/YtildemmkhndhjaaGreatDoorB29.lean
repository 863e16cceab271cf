/-
  What the proof leans on, part 29 of 48. The conditions stand in each theorem.
-/
import Derived.Test.YtildemmkhndhjaaGreatDoorB21
import Derived.Test.YtildemmkhndhjaaGreatDoorB28
import Derived.Test.YtildemmkhndhjaaGreatDoorB22
namespace Go.Proofs.YtildemmkhndhjaaGreatDoor
open Go.RowKit

set_option maxHeartbeats 4000000 in
set_option maxRecDepth 100000 in
theorem rbody_any {w : World} {P Q : Nat→Prop} (l : List En) {ve : Value} (hE0 : SlV w Q ve l.length (ecs l)) (hA : ∀ e∈l,e.2.1.length≤1048576) (m : Me) (hF : MeFit m) (hps : m.sig.1.length≤2000000) {vp vc vh : Value} (hM : MeAt (SlR w P) vp vc vh m) :
  Calls Tryz.prog 183 #[ve,meV vp vc vh m] w fun e w'=>e = .returned (.tuple #[.int .i64 (bodyE l m).1,.int .i64 (bodyE l m).2])∧Only [] w w':=by
 obtain ⟨eo,ec,ed,rfl,hE1⟩:=hE0
 have hM0:=hM
 obtain ⟨po,pc,pd,rfl,hP⟩:=hM.params
 obtain ⟨co,cc,cd,rfl,hC⟩:=hM.code
 obtain ⟨ho,hc,hd,rfl,hH⟩:=hM.hands
 have hlp : m.sig.1.length≤9223372036854775807:=by have:=hP.le; have:=hP.max; omega
 have hlc : m.code.length≤9223372036854775807:=by have:=hC.le; have:=hC.max; omega
 have hlh : m.hands.length≤9223372036854775807:=by have:=hH.le; have:=hH.max; omega
 have hll : l.length≤9223372036854775807:=by have:=hE1.le; have:=hE1.max; omega
 have HK:=fun W (hW : Only [] w W)=>rcheck4_any (cap:=cc) (ecap:=ec) (hC.rs.only0 hW) hC.le hC.max (ES.of_rs (hE1.rs.only0 hW)) hll hA m.locals
 have HB:=fun W (hW : Only [] w W) (hs : m.code.length≤100000)=>rhandlers_any (P:=P) m hF hs (hM0.only0 hW)
 have hsm:=checkI_small (code:=m.code) (l:=l) (locals:=m.locals)
 have hhI : handedE m = if m.flags = 4 then (m.sig.1.length : Int) else (m.sig.1.length : Int) + 1:=rfl
 obtain ⟨R,hR⟩ : ∃ R,R = bodyE l m:=⟨_,rfl⟩
 rw [← hR]
 unfold bodyE at hR
 clear hM hM0 hP hC hH hE1 hA hF
 unfold meV at HB ⊢
 generalize handlersE m = hE at *
 generalize handedE m = hI at *
 generalize checkI m.code l m.locals = cI at *
 obtain ⟨ca,ce⟩:=cI
 obtain ⟨fl,nm,⟨ps,vo,td,tn⟩,st,lo,code,hs⟩:=m
 simp only at HK HB hsm hlp hlc hlh hR hhI hps ⊢
 replace HK:=hid HK
 replace HB:=hid HB
 replace hR:=hid hR
 have o0:=(Only.refl [] w).alloc (.cells #[.int .i64 fl,.string (str nm),.slice po ps.length pc,.bool vo,.int .i64 td,.string (str tn),.int .i64 st,.int .i64 lo,.slice co code.length cc,.slice ho hs.length hc] 41)
 have S1:=hid (me10_new w (.int .i64 fl) (.string (str nm)) (.slice po ps.length pc) (.bool vo) (.int .i64 td) (.string (str tn)) (.int .i64 st) (.int .i64 lo) (.slice co code.length cc) (.slice ho hs.length hc) 41)
 by_cases f2 : fl = 2
 ·subst f2
  by_cases h1 : st = 0
  ·subst h1
   by_cases h2 : lo = 0
   ·subst h2
    by_cases h3 : 0 < code.length
    ·have g3 : (0 : Int) < (code.length : Int):=by omega
     have hRR : R = (0,1):=by
      rw [hR.out]
      simp [h3]
     subst hRR
     clear hR
     go_enter Tryz.func183,Tryz.ntmps183
     go_wp2
     go_ret2
     exact ⟨rfl,o0⟩
    ·have g3 : ¬ (0 : Int) < (code.length : Int):=by omega
     by_cases h4 : 0 < hs.length
     ·have g4 : (0 : Int) < (hs.length : Int):=by omega
      have hRR : R = (0,1):=by
       rw [hR.out]
       simp [h4]
      subst hRR
      clear hR
      go_enter Tryz.func183,Tryz.ntmps183
      go_wp2
      go_ret2
      exact ⟨rfl,o0⟩
     ·have g4 : ¬ (0 : Int) < (hs.length : Int):=by omega
      have hRR : R = (0,0):=by
       rw [hR.out]
       simp [h3,h4]
      subst hRR
      clear hR
      go_enter Tryz.func183,Tryz.ntmps183
      go_wp2
      go_ret2
      exact ⟨rfl,o0⟩
   ·have n2 : (lo != 0) = true:=by simpa using h2
    have m2 : (lo == 0) = false:=by simpa using h2
    have hRR : R = (0,1):=by
     rw [hR.out]
     simp [h2]
    subst hRR
    clear hR
    go_enter Tryz.func183,Tryz.ntmps183
    go_wp2
    go_ret2
    exact ⟨rfl,o0⟩
  ·have n1 : (st != 0) = true:=by simpa using h1
   have m1 : (st == 0) = false:=by simpa using h1
   have hRR : R = (0,1):=by
    rw [hR.out]
    simp [h1]
   subst hRR
   clear hR
   go_enter Tryz.func183,Tryz.ntmps183
   go_wp2
   go_ret2
   exact ⟨rfl,o0⟩
 ·have f2' : (fl == 2) = false:=by simpa using f2
  by_cases c0 : st < 0
  case pos=>
   have hRR : R = (0,1):=by
    rw [hR.out]
    simp [f2,c0]
   subst hRR
   clear hR
   go_enter Tryz.func183,Tryz.ntmps183
   go_wp2
   go_ret2
   exact ⟨rfl,o0⟩
  by_cases c1 : 64 < st
  case pos=>
   have hRR : R = (0,1):=by
    rw [hR.out]
    simp [f2,c1]
   subst hRR
   clear hR
   go_enter Tryz.func183,Tryz.ntmps183
   go_wp2
   go_ret2
   exact ⟨rfl,o0⟩
  by_cases c2 : lo < 0
  case pos=>
   have hRR : R = (0,1):=by
    rw [hR.out]
    simp [f2,c2]
   subst hRR
   clear hR
   go_enter Tryz.func183,Tryz.ntmps183
   go_wp2
   go_ret2
   exact ⟨rfl,o0⟩
  by_cases c3 : 64 < lo
  case pos=>
   have hRR : R = (0,1):=by
    rw [hR.out]
    simp [f2,c3]
   subst hRR
   clear hR
   go_enter Tryz.func183,Tryz.ntmps183
   go_wp2
   go_ret2
   exact ⟨rfl,o0⟩
  have hR4 : Hid (R = if lo < hI then (0,43) else if ce = 0 then hE else (ca,ce)):=by
   unfold Hid
   rw [hR.out,if_neg f2,if_neg (by omega)]
  clear hR
  by_cases f4 : fl = 4
  ·subst f4
   obtain rfl : hI = (ps.length : Int):=by rw [hhI]; simp
   clear hhI
   by_cases c4 : lo < (ps.length : Int)
   ·have hRR : R = (0,43):=by rw [hR4.out,if_pos c4]
    subst hRR
    clear hR4 HK HB
    have gl : lo < (ps.length : Int):=c4
    go_enter Tryz.func183,Tryz.ntmps183
    go_wp2
    go_ret2
    exact ⟨rfl,o0⟩
   ·have gl : ¬ lo < (ps.length : Int):=c4
    by_cases c5 : ce = 0
    ·have hRR : R = hE:=by rw [hR4.out,if_neg c4,if_pos c5]
     have hsm2:=hsm c5
     subst hRR c5
     clear hR4
     go_enter Tryz.func183,Tryz.ntmps183
     go_wp2_with fail
     refine (HK.out _ o0).mono ?_
     rintro e w3 ⟨rfl,o3⟩
     have HB3:=hid (HB.out w3 (o0.trans o3 (by simp)) (by omega))
     obtain ⟨a0,a1,a2,a3,a4,a5,a6,a7,a8,a9,_,_,_,_,_,_,_,_,_,_⟩:=S1.out.only o3 (by simp)
     clear HB HK
     go_wp2_with fail
     refine HB3.out.mono ?_
     rintro e w4 ⟨rfl,o4⟩
     go_wp2_with fail
     go_ret2
     exact ⟨rfl,(o0.trans o3 (by simp)).trans o4 (by simp)⟩
    ·have n5 : (ce != 0) = true:=by simpa using c5
     have m5 : (ce == 0) = false:=by simpa using c5
     have hRR : R = (ca,ce):=by rw [hR4.out,if_neg c4,if_neg c5]
     subst hRR
     clear hR4 HB
     go_enter Tryz.func183,Tryz.ntmps183
     go_wp2_with fail
     refine (HK.out _ o0).mono ?_
     rintro e w3 ⟨rfl,o3⟩
     go_wp2_with fail
     go_ret2
     exact ⟨rfl,o0.trans o3 (by simp)⟩
  ·have n4 : (fl != 4) = true:=by simpa using f4
   have m4 : (fl == 4) = false:=by simpa using f4
   obtain rfl : hI = (ps.length : Int) + 1:=by rw [hhI,if_neg f4]
   clear hhI
   by_cases c4 : lo < (ps.length : Int) + 1
   ·have hRR : R = (0,43):=by rw [hR4.out,if_pos c4]
    subst hRR
    clear hR4 HK HB
    have gl : lo < (ps.length : Int) + 1:=c4
    go_enter Tryz.func183,Tryz.ntmps183
    go_wp2
    go_ret2
    exact ⟨rfl,o0⟩
   ·have gl : ¬ lo < (ps.length : Int) + 1:=c4
    by_cases c5 : ce = 0
    ·have hRR : R = hE:=by rw [hR4.out,if_neg c4,if_pos c5]
     have hsm2:=hsm c5
     subst hRR c5
     clear hR4
     go_enter Tryz.func183,Tryz.ntmps183
     go_wp2_with fail
     refine (HK.out _ o0).mono ?_
     rintro e w3 ⟨rfl,o3⟩
     have HB3:=hid (HB.out w3 (o0.trans o3 (by simp)) (by omega))
     obtain ⟨a0,a1,a2,a3,a4,a5,a6,a7,a8,a9,_,_,_,_,_,_,_,_,_,_⟩:=S1.out.only o3 (by simp)
     clear HB HK
     go_wp2_with fail
     refine HB3.out.mono ?_
     rintro e w4 ⟨rfl,o4⟩
     go_wp2_with fail
     go_ret2
     exact ⟨rfl,(o0.trans o3 (by simp)).trans o4 (by simp)⟩
    ·have n5 : (ce != 0) = true:=by simpa using c5
     have m5 : (ce == 0) = false:=by simpa using c5
     have hRR : R = (ca,ce):=by rw [hR4.out,if_neg c4,if_neg c5]
     subst hRR
     clear hR4 HB
     go_enter Tryz.func183,Tryz.ntmps183
     go_wp2_with fail
     refine (HK.out _ o0).mono ?_
     rintro e w3 ⟨rfl,o3⟩
     go_wp2_with fail
     go_ret2
     exact ⟨rfl,o0.trans o3 (by simp)⟩

end Go.Proofs.YtildemmkhndhjaaGreatDoor
