/-
  What the proof leans on, part 19 of 48. The conditions stand in each theorem.
-/
import Derived.Test.YtildemmkhndhjaaGreatDoorB18
import Derived.Test.YtildemmkhndhjaaGreatDoorB08
namespace Go.Proofs.YtildemmkhndhjaaGreatDoor
open Go.RowKit

theorem used_no {l : List En} {e : En} (h1 : 1≤e.1) (h6 : e.1≤6) (h : e≠usedE e) : wrongE l e = 1:=by
 unfold wrongE
 rw [if_neg (by omega),if_pos h]

set_option maxHeartbeats 1000000 in
set_option maxRecDepth 100000 in
theorem rwrong_any {w : World} {ao : Option Addr} {l : List En} {d cap : Nat} (hE : ES w ao l d) (hl : l.length≤9223372036854775807) (hA : ∀ e∈l,e.2.1.length≤1048576) (j : Nat) (hj : j < l.length) :
  Calls Tryz.prog 151 #[.slice ao l.length cap,.int .i64 (j : Int)] w fun r w'=>r = .returned (.int .i64 (wrongE l l[j]))∧Only [] w w':=by
 have g2 : ((j : Int) < (l.length : Int)):=by omega
 have htl:=hA l[j] (List.getElem_mem hj)
 obtain ⟨off,hao,hc⟩:=hE.at hj
 have o0:=(Only.refl [] w).alloc (.cells #[.int .i64 l[j].1,.string (str l[j].2.1),.int .i64 l[j].2.2.1,.int .i64 l[j].2.2.2.1,.int .i64 l[j].2.2.2.2.1,.int .i64 l[j].2.2.2.2.2] 90)
 have E0:=enAt_new w l[j] 90
 have hw : ∃ r,r = wrongE l l[j]:=⟨_,rfl⟩
 obtain ⟨r,hr⟩:=hw
 rw [← hr]
 have hno:=used_no (l:=l) (e:=l[j])
 have hof:=wrong_of (l:=l) (e:=l[j])
 rw [← hr] at hno hof
 have HIS:=fun W (hW : Only [] w W) (i : Int)=>ris_any (cap:=cap) (hE.only hW (by simp)) hl i 3
 have HWN:=fun W (hW : Only [] w W) (i : Int)=>rtextN_any (cap:=cap) (hE.only hW (by simp)) hl hA i
 have HWM:=fun W (hW : Only [] w W) (i : Int)=>rtextM_any (cap:=cap) (hE.only hW (by simp)) hl hA i
 have HWT:=fun W (hW : Only [] w W) (i : Int)=>rtextT_any (cap:=cap) (hE.only hW (by simp)) hl hA i
 have HWS:=fun W (hW : Only [] w W) (i : Int)=>rtextS_any (cap:=cap) (hE.only hW (by simp)) hl hA i
 have hk36 : l[j].1 < 1∨6 < l[j].1→r = 3:=by
  intro h
  rw [hr]
  unfold wrongE
  rw [if_pos h]
 generalize l[j] = e at *
 obtain ⟨k,t,n,a,b,c⟩:=e
 obtain ⟨y0,y1,y2,y3,y4,y5⟩:=hc
 simp only at *
 replace HIS:=hid HIS
 replace HWN:=hid HWN
 replace HWM:=hid HWM
 replace HWT:=hid HWT
 replace HWS:=hid HWS
 replace hno:=hid hno
 replace hof:=hid hof
 replace E0:=hid E0
 clear hA hE hr
 have htt:=str_toList t
 have htz:=str_size t
 subst hao
 have hb : k < 1∨6 < k∨(1≤k∧k≤6):=by omega
 rcases hb with hk | hk | ⟨hk1,hk2⟩
 ·obtain rfl:=hk36 (.inl hk)
  clear hk36
  go_enter Tryz.func151,Tryz.ntmps151
  go_wp2
  go_ret
  exact ⟨rfl,o0⟩
 ·obtain rfl:=hk36 (.inr hk)
  have hk' : ¬ (k < 1):=by omega
  clear hk36
  go_enter Tryz.func151,Tryz.ntmps151
  go_wp2
  go_ret
  exact ⟨rfl,o0⟩
 clear hk36
 rcases (by omega : k = 1∨k = 2∨k = 3∨k = 4∨k = 5∨k = 6) with rfl | rfl | rfl | rfl | rfl | rfl
 ·by_cases hn0 : n = 0
  ·subst hn0
   by_cases ha0 : a = 0
   ·subst ha0
    by_cases hb0 : b = 0
    ·subst hb0
     by_cases hc0 : c = 0
     ·subst hc0
      by_cases hlo : 255 < t.length
      ·have g3 : (255 < (t.length : Int)):=by omega
       have er : r = 5:=by rw [hof.out (by omega) (by omega) (by simp [usedE])]; simp [longE,hlo]
       subst er
       clear hlo hno hof
       go_enter Tryz.func151,Tryz.ntmps151
       go_wp2
       go_ret
       exact ⟨rfl,o0⟩
      ·have g3 : ¬ (255 < (t.length : Int)):=by omega
       have er : r = 0:=by rw [hof.out (by omega) (by omega) (by simp [usedE])]; simp [longE,hlo]
       subst er
       clear hlo hno hof
       go_enter Tryz.func151,Tryz.ntmps151
       go_wp2
       go_ret
       exact ⟨rfl,o0⟩
     ·have er : r = 1:=hno.out (by omega) (by omega) (by simp [usedE,hc0])
      have gc : (c == 0) = false:=by simpa using hc0
      subst er
      clear hno hof
      go_enter Tryz.func151,Tryz.ntmps151
      go_wp2
      go_ret
      exact ⟨rfl,o0⟩
    ·have er : r = 1:=hno.out (by omega) (by omega) (by simp [usedE,hb0])
     have gb : (b == 0) = false:=by simpa using hb0
     subst er
     clear hno hof
     go_enter Tryz.func151,Tryz.ntmps151
     go_wp2
     go_ret
     exact ⟨rfl,o0⟩
   ·have er : r = 1:=hno.out (by omega) (by omega) (by simp [usedE,ha0])
    have ga : (a == 0) = false:=by simpa using ha0
    subst er
    clear hno hof
    go_enter Tryz.func151,Tryz.ntmps151
    go_wp2
    go_ret
    exact ⟨rfl,o0⟩
  ·have er : r = 1:=hno.out (by omega) (by omega) (by simp [usedE,hn0])
   have gn : (n == 0) = false:=by simpa using hn0
   subst er
   clear hno hof
   go_enter Tryz.func151,Tryz.ntmps151
   go_wp2
   go_ret
   exact ⟨rfl,o0⟩
 ·by_cases ht0 : t = []
  ·subst ht0
   by_cases ha0 : a = 0
   ·subst ha0
    by_cases hb0 : b = 0
    ·subst hb0
     by_cases hc0 : c = 0
     ·subst hc0
      have er : r = 0:=by rw [hof.out (by omega) (by omega) (by simp [usedE])]; simp
      subst er
      clear hno hof
      go_enter Tryz.func151,Tryz.ntmps151
      go_wp2
      go_ret
      exact ⟨rfl,o0⟩
     ·have er : r = 1:=hno.out (by omega) (by omega) (by simp [usedE,hc0])
      have gc : (c == 0) = false:=by simpa using hc0
      subst er
      clear hno hof
      go_enter Tryz.func151,Tryz.ntmps151
      go_wp2
      go_ret
      exact ⟨rfl,o0⟩
    ·have er : r = 1:=hno.out (by omega) (by omega) (by simp [usedE,hb0])
     have gb : (b == 0) = false:=by simpa using hb0
     subst er
     clear hno hof
     go_enter Tryz.func151,Tryz.ntmps151
     go_wp2
     go_ret
     exact ⟨rfl,o0⟩
   ·have er : r = 1:=hno.out (by omega) (by omega) (by simp [usedE,ha0])
    have ga : (a == 0) = false:=by simpa using ha0
    subst er
    clear hno hof
    go_enter Tryz.func151,Tryz.ntmps151
    go_wp2
    go_ret
    exact ⟨rfl,o0⟩
  ·have er : r = 1:=hno.out (by omega) (by omega) (by simp [usedE,ht0])
   have gt : t.isEmpty = false:=by simpa using ht0
   subst er
   clear hno hof
   go_enter Tryz.func151,Tryz.ntmps151
   go_wp2
   go_ret
   exact ⟨rfl,o0⟩
 ·by_cases ht0 : t = []
  ·subst ht0
   by_cases hn0 : n = 0
   ·subst hn0
    by_cases hb0 : b = 0
    ·subst hb0
     by_cases hc0 : c = 0
     ·subst hc0
      have er : r = wText l a fName:=by rw [hof.out (by omega) (by omega) (by simp [usedE])]; simp
      subst er
      clear hno hof
      go_enter Tryz.func151,Tryz.ntmps151
      go_wp2_with (go_at_call 180; refine (HWN.out _ o0 a).mono ?_; rintro e w1 ⟨rfl,ho1⟩)
      go_ret
      exact ⟨rfl,o0.next ho1 (by simp)⟩
     ·have er : r = 1:=hno.out (by omega) (by omega) (by simp [usedE,hc0])
      have gc : (c == 0) = false:=by simpa using hc0
      subst er
      clear hno hof
      go_enter Tryz.func151,Tryz.ntmps151
      go_wp2
      go_ret
      exact ⟨rfl,o0⟩
    ·have er : r = 1:=hno.out (by omega) (by omega) (by simp [usedE,hb0])
     have gb : (b == 0) = false:=by simpa using hb0
     subst er
     clear hno hof
     go_enter Tryz.func151,Tryz.ntmps151
     go_wp2
     go_ret
     exact ⟨rfl,o0⟩
   ·have er : r = 1:=hno.out (by omega) (by omega) (by simp [usedE,hn0])
    have gn : (n == 0) = false:=by simpa using hn0
    subst er
    clear hno hof
    go_enter Tryz.func151,Tryz.ntmps151
    go_wp2
    go_ret
    exact ⟨rfl,o0⟩
  ·have er : r = 1:=hno.out (by omega) (by omega) (by simp [usedE,ht0])
   have gt : t.isEmpty = false:=by simpa using ht0
   subst er
   clear hno hof
   go_enter Tryz.func151,Tryz.ntmps151
   go_wp2
   go_ret
   exact ⟨rfl,o0⟩
 ·by_cases ht0 : t = []
  ·subst ht0
   by_cases hn0 : n = 0
   ·subst hn0
    by_cases hb0 : b = 0
    ·subst hb0
     by_cases hc0 : c = 0
     ·subst hc0
      have er : r = wText l a fType:=by rw [hof.out (by omega) (by omega) (by simp [usedE])]; simp
      subst er
      clear hno hof
      go_enter Tryz.func151,Tryz.ntmps151
      go_wp2_with (go_at_call 180; refine (HWT.out _ o0 a).mono ?_; rintro e w1 ⟨rfl,ho1⟩)
      go_ret
      exact ⟨rfl,o0.next ho1 (by simp)⟩
     ·have er : r = 1:=hno.out (by omega) (by omega) (by simp [usedE,hc0])
      have gc : (c == 0) = false:=by simpa using hc0
      subst er
      clear hno hof
      go_enter Tryz.func151,Tryz.ntmps151
      go_wp2
      go_ret
      exact ⟨rfl,o0⟩
    ·have er : r = 1:=hno.out (by omega) (by omega) (by simp [usedE,hb0])
     have gb : (b == 0) = false:=by simpa using hb0
     subst er
     clear hno hof
     go_enter Tryz.func151,Tryz.ntmps151
     go_wp2
     go_ret
     exact ⟨rfl,o0⟩
   ·have er : r = 1:=hno.out (by omega) (by omega) (by simp [usedE,hn0])
    have gn : (n == 0) = false:=by simpa using hn0
    subst er
    clear hno hof
    go_enter Tryz.func151,Tryz.ntmps151
    go_wp2
    go_ret
    exact ⟨rfl,o0⟩
  ·have er : r = 1:=hno.out (by omega) (by omega) (by simp [usedE,ht0])
   have gt : t.isEmpty = false:=by simpa using ht0
   subst er
   clear hno hof
   go_enter Tryz.func151,Tryz.ntmps151
   go_wp2
   go_ret
   exact ⟨rfl,o0⟩
 ·by_cases ht0 : t = []
  ·subst ht0
   by_cases hn0 : n = 0
   ·subst hn0
    have er : r = or3 (wClass l a) (wText l b fName) (wText l c fType):=by rw [hof.out (by omega) (by omega) (by simp [usedE])]; simp
    replace er:=hid er
    clear hno hof
    have HH:=HIS.out _ o0 a
    cases hcl : hasE l a 3 with
    | false=>
     rw [hcl] at HH
     have e2 : r = 16:=by rw [er.out]; simp [or3,wClass,hcl]
     subst e2
     clear hcl er
     replace HH:=hid HH
     go_enter Tryz.func151,Tryz.ntmps151
     go_wp2_with (go_at_call 181; refine HH.out.mono ?_; rintro e w' ⟨rfl,rfl⟩)
     go_ret
     exact ⟨rfl,o0⟩
    | true=>
     rw [hcl] at HH
     have e2 : r = if wText l b fName = 0 then wText l c fType else wText l b fName:=by rw [er.out]; simp [or3,wClass,hcl]
     clear hcl er
     have HB:=HWN.out _ o0 b
     replace HH:=hid HH
     by_cases hwb : wText l b fName = 0
     ·rw [hwb] at HB e2
      simp only [if_true] at e2
      subst e2
      clear hwb
      replace HB:=hid HB
      go_enter Tryz.func151,Tryz.ntmps151
      go_wp2_with (first | (go_at_call 181; refine HH.out.mono ?_; rintro e w' ⟨rfl,rfl⟩) | fail)
      refine HB.out.mono ?_
      rintro e w1 ⟨rfl,ho1⟩
      have o1:=o0.next ho1 (by simp)
      have HCC:=hid (HWT.out _ o1 c)
      obtain ⟨e0,e1,e2,e3,e4,e5⟩:=E0.out.only ho1 (by simp)
      simp only [Nat.zero_add] at e0 e1 e2 e3 e4 e5
      go_wp2_with fail
      refine HCC.out.mono ?_
      rintro e w2 ⟨rfl,ho2⟩
      go_wp2
      go_ret
      exact ⟨rfl,o1.next ho2 (by simp)⟩
     ·simp only [hwb,if_false] at e2
      generalize wText l b fName = x at *
      have g3 : (x == 0) = false:=by simpa using hwb
      subst e2
      clear hwb
      replace HB:=hid HB
      go_enter Tryz.func151,Tryz.ntmps151
      go_wp2_with (first | (go_at_call 181; refine HH.out.mono ?_; rintro e w' ⟨rfl,rfl⟩) | fail)
      refine HB.out.mono ?_
      rintro e w1 ⟨rfl,ho1⟩
      go_wp2
      go_ret
      exact ⟨rfl,o0.next ho1 (by simp)⟩
   ·have er : r = 1:=hno.out (by omega) (by omega) (by simp [usedE,hn0])
    have gn : (n == 0) = false:=by simpa using hn0
    subst er
    clear hno hof
    go_enter Tryz.func151,Tryz.ntmps151
    go_wp2
    go_ret
    exact ⟨rfl,o0⟩
  ·have er : r = 1:=hno.out (by omega) (by omega) (by simp [usedE,ht0])
   have gt : t.isEmpty = false:=by simpa using ht0
   subst er
   clear hno hof
   go_enter Tryz.func151,Tryz.ntmps151
   go_wp2
   go_ret
   exact ⟨rfl,o0⟩
 ·by_cases ht0 : t = []
  ·subst ht0
   by_cases hn0 : n = 0
   ·subst hn0
    have er : r = or3 (wClass l a) (wText l b fMethod) (wText l c fSig):=by rw [hof.out (by omega) (by omega) (by simp [usedE])]; simp
    replace er:=hid er
    clear hno hof
    have HH:=HIS.out _ o0 a
    cases hcl : hasE l a 3 with
    | false=>
     rw [hcl] at HH
     have e2 : r = 16:=by rw [er.out]; simp [or3,wClass,hcl]
     subst e2
     clear hcl er
     replace HH:=hid HH
     go_enter Tryz.func151,Tryz.ntmps151
     go_wp2_with (go_at_call 181; refine HH.out.mono ?_; rintro e w' ⟨rfl,rfl⟩)
     go_ret
     exact ⟨rfl,o0⟩
    | true=>
     rw [hcl] at HH
     have e2 : r = if wText l b fMethod = 0 then wText l c fSig else wText l b fMethod:=by rw [er.out]; simp [or3,wClass,hcl]
     clear hcl er
     have HB:=HWM.out _ o0 b
     replace HH:=hid HH
     by_cases hwb : wText l b fMethod = 0
     ·rw [hwb] at HB e2
      simp only [if_true] at e2
      subst e2
      clear hwb
      replace HB:=hid HB
      go_enter Tryz.func151,Tryz.ntmps151
      go_wp2_with (first | (go_at_call 181; refine HH.out.mono ?_; rintro e w' ⟨rfl,rfl⟩) | fail)
      refine HB.out.mono ?_
      rintro e w1 ⟨rfl,ho1⟩
      have o1:=o0.next ho1 (by simp)
      have HCC:=hid (HWS.out _ o1 c)
      obtain ⟨e0,e1,e2,e3,e4,e5⟩:=E0.out.only ho1 (by simp)
      simp only [Nat.zero_add] at e0 e1 e2 e3 e4 e5
      go_wp2_with fail
      refine HCC.out.mono ?_
      rintro e w2 ⟨rfl,ho2⟩
      go_wp2
      go_ret
      exact ⟨rfl,o1.next ho2 (by simp)⟩
     ·simp only [hwb,if_false] at e2
      generalize wText l b fMethod = x at *
      have g3 : (x == 0) = false:=by simpa using hwb
      subst e2
      clear hwb
      replace HB:=hid HB
      go_enter Tryz.func151,Tryz.ntmps151
      go_wp2_with (first | (go_at_call 181; refine HH.out.mono ?_; rintro e w' ⟨rfl,rfl⟩) | fail)
      refine HB.out.mono ?_
      rintro e w1 ⟨rfl,ho1⟩
      go_wp2
      go_ret
      exact ⟨rfl,o0.next ho1 (by simp)⟩
   ·have er : r = 1:=hno.out (by omega) (by omega) (by simp [usedE,hn0])
    have gn : (n == 0) = false:=by simpa using hn0
    subst er
    clear hno hof
    go_enter Tryz.func151,Tryz.ntmps151
    go_wp2
    go_ret
    exact ⟨rfl,o0⟩
  ·have er : r = 1:=hno.out (by omega) (by omega) (by simp [usedE,ht0])
   have gt : t.isEmpty = false:=by simpa using ht0
   subst er
   clear hno hof
   go_enter Tryz.func151,Tryz.ntmps151
   go_wp2
   go_ret
   exact ⟨rfl,o0⟩

set_option maxHeartbeats 400000 in
set_option maxRecDepth 100000 in
theorem rcheckE_any {w : World} {ao : Option Addr} {l : List En} {d cap : Nat} (hE : ES w ao l d) (hl : l.length≤9223372036854775807) (hA : ∀ e∈l,e.2.1.length≤1048576) :
  Calls Tryz.prog 94 #[.slice ao l.length cap] w fun r w'=>r = .returned (.tuple #[.int .i64 (checkE l).1,.int .i64 (checkE l).2])∧Only [] w w':=by
 have hx : ∃ x,x = checkE l:=⟨_,rfl⟩
 obtain ⟨x,hx⟩:=hx
 rw [← hx]
 by_cases h : 4096 < l.length
 ·have g1 : (4096 < (l.length : Int)):=by omega
  have e1 : x = (4096,4):=by rw [hx]; simp [checkE,h]
  subst e1
  clear hx h
  go_enter Tryz.func94,Tryz.ntmps94
  go_wp2
  go_ret2
  exact ⟨rfl,Only.refl _ _⟩
 ·have g1 : ¬ (4096 < (l.length : Int)):=by omega
  have e1 : x = firstWrong l l 0:=by rw [hx]; simp [checkE,h]
  clear hx
  replace e1:=hid e1
  go_enter Tryz.func94,Tryz.ntmps94
  go_wp2
  go_loopw [4] (fun i wr=>∃ k : Nat,k≤l.length∧i = .int .i64 (k : Int)∧(∀ j (hj : j < l.length),j < k→wrongE l l[j] = 0)∧Only [] w wr) (fun i _=>l.length - (intOf i).toNat)
  case atStart=>exact ⟨0,by omega,rfl,fun j _ h=>by omega,Only.refl _ _⟩
  case round=>
   obtain ⟨k,hk,rfl,hok,hor⟩:=hrel
   by_cases hlt : k < l.length
   ·have g2 : ((k : Int) < (l.length : Int)):=by omega
    have HW:=rwrong_any (cap:=cap) (hE.only hor (by simp)) hl hA k hlt
    by_cases hz : wrongE l l[k] = 0
    ·rw [hz] at HW
     have hnx : ∀ j (hj : j < l.length),j < k + 1→wrongE l l[j] = 0:=by
      intro j hj hjk
      by_cases e : j = k
      ·subst e
       exact hz
      ·exact hok j hj (by omega)
     clear hok hz
     replace hnx:=hid hnx
     replace HW:=hid HW
     go_wp2_with (go_at_call 151; refine HW.out.mono ?_; rintro e w2 ⟨rfl,ho2⟩)
     exact ⟨⟨k + 1,by omega,by go_num,hnx.out,hor.next ho2 (by simp)⟩,by simp [intOf]; omega⟩
    ·have hat:=firstWrong_at (l:=l) (r:=l) (i:=0) hlt (fun j hj=>hok j (by omega) hj) hz
     rw [← e1.out] at hat
     generalize wrongE l l[k] = c at *
     have g3 : (c == 0) = false:=by simpa using hz
     replace hat:=hid hat
     clear hok hz
     replace HW:=hid HW
     go_wp2_with (go_at_call 151; refine HW.out.mono ?_; rintro e w2 ⟨rfl,ho2⟩)
     go_ret2
     exact ⟨by rw [hat.out]; simp,hor.next ho2 (by simp)⟩
   ·have g2 : ¬ ((k : Int) < (l.length : Int)):=by omega
    obtain rfl : k = l.length:=by omega
    have hall:=firstWrong_ok (l:=l) (r:=l) (i:=0) fun e he=>by
     obtain ⟨j,hj,rfl⟩:=List.getElem_of_mem he
     exact hok j hj hj
    rw [← e1.out] at hall
    clear hok
    replace hall:=hid hall
    go_wp2
    go_ret2
    exact ⟨by rw [hall.out]; rfl,hor⟩

end Go.Proofs.YtildemmkhndhjaaGreatDoor
