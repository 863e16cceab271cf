/-
  What the proof leans on, part 21 of 48. The conditions stand in each theorem.
-/
import Derived.Test.YtildemmkhndhjaaGreatDoorB20
namespace Go.Proofs.YtildemmkhndhjaaGreatDoor
open Go.RowKit

theorem handsE_dropR (all : List In) (n j : Nat) (l : List Hd) (h : j < l.length) : handsE all n j (l.drop j) = if handE all n l[j] = 0 then handsE all n (j + 1) (l.drop (j + 1)) else ((j : Int),handE all n l[j]):=by
 rw [List.drop_eq_getElem_cons h]
 rfl

set_option maxHeartbeats 4000000 in
set_option maxRecDepth 100000 in
theorem rhandlers_any {w : World} {P : Nat→Prop} (m : Me) (hF : MeFit m) (hcs : m.code.length≤100000) {vp vc vh : Value} (hA : MeAt (SlR w P) vp vc vh m) :
  Calls Tryz.prog 202 #[meV vp vc vh m] w fun e w'=>e = .returned (.tuple #[.int .i64 (handlersE m).1,.int .i64 (handlersE m).2])∧Only [] w w':=by
 obtain ⟨hA1,hA2,hA3⟩:=hA
 obtain ⟨po,pc,rfl,pl⟩:=SlV.shape hA1
 obtain ⟨co,cc,rfl,cl⟩:=SlV.shape hA2
 obtain ⟨ho,hc,rfl,hl⟩:=SlV.shape hA3
 obtain ⟨d2,r2⟩:=SlV.rs hA2
 obtain ⟨d3,r3⟩:=SlV.rs hA3
 obtain ⟨co',cc',d2',ev,hcode⟩:=hA2
 simp only [Value.slice.injEq] at ev
 obtain ⟨rfl,_,rfl⟩:=ev
 clear hA1 hA3
 have o1:=(Only.refl [] w).alloc (.cells #[.int .i64 m.flags,.string (str m.name),.slice po m.sig.1.length pc,.bool m.sig.2.1,.int .i64 m.sig.2.2.1,.string (str m.sig.2.2.2),.int .i64 m.stack,.int .i64 m.locals,.slice co m.code.length cc,.slice ho m.hands.length hc] 41)
 have S1:=me10_new w (.int .i64 m.flags) (.string (str m.name)) (.slice po m.sig.1.length pc) (.bool m.sig.2.1) (.int .i64 m.sig.2.2.1) (.string (str m.sig.2.2.2)) (.int .i64 m.stack) (.int .i64 m.locals) (.slice co m.code.length cc) (.slice ho m.hands.length hc) 41
 obtain ⟨R,hR⟩ : ∃ R,R = handlersE m:=⟨_,rfl⟩
 rw [← hR]
 unfold handlersE at hR
 unfold meV
 by_cases hbig : 32 < m.hands.length
 ·have gb : (32 : Int) < (m.hands.length : Int):=by omega
  have hRR : R = (0,4):=by rw [hR,if_pos hbig]
  subst hRR
  obtain ⟨a0,a1,a2,a3,a4,a5,a6,a7,a8,a9,_,_,_,_,_,_,_,_,_,_⟩:=S1
  go_enter Tryz.func202,Tryz.ntmps202
  go_wp2
  go_ret2
  exact ⟨rfl,o1⟩
 ·have gb : ¬ (32 : Int) < (m.hands.length : Int):=by omega
  rw [if_neg hbig] at hR
  have HA:=hid (rall_any (cap:=cc) (r2.only0 o1) hcode.le hcode.max hcs)
  obtain ⟨a0,a1,a2,a3,a4,a5,a6,a7,a8,a9,_,_,_,_,_,_,_,_,_,_⟩:=S1
  have S1:=hid (me10_new w (.int .i64 m.flags) (.string (str m.name)) (.slice po m.sig.1.length pc) (.bool m.sig.2.1) (.int .i64 m.sig.2.2.1) (.string (str m.sig.2.2.2)) (.int .i64 m.stack) (.int .i64 m.locals) (.slice co m.code.length cc) (.slice ho m.hands.length hc) 41)
  have hbeg:=hid (begE_all m.code)
  replace hR:=hid hR
  go_enter Tryz.func202,Tryz.ntmps202
  go_wp2_with fail
  refine HA.out.mono ?_
  rintro e w2 ⟨ao,cap,rfl,hown,ho2⟩
  obtain ⟨q1,_,_,q4,_⟩:=RS.of_owns hown
  obtain ⟨dI,hI⟩ : ∃ dI,RS w2 ao (qcs (allR m.code).1) dI:=⟨_,q1⟩
  have hIl:=all_len m.code
  have HP:=hid (fun W (hW : Only [] w2 W) x=>rplaceZ_any (cap:=cap) (hI.only0 hW) (by omega) x)
  have o2:=hid (o1.trans ho2 (by simp))
  have S2:=hid (S1.out.only ho2 (by simp))
  clear hown q1 q4 hI HA S1 o1 a0 a1 a2 a3 a4 a5 a6 a7 a8 a9
  go_wp2_with fail
  go_loopw [7] (fun v wr=>∃ j : Nat,j≤m.hands.length∧v = .int .i64 (j : Int)∧Hid (R = handsE (allR m.code).1 m.code.length j (m.hands.drop j))∧Hid (Me10 wr w.heap.size (.int .i64 m.flags) (.string (str m.name)) (.slice po m.sig.1.length pc) (.bool m.sig.2.1) (.int .i64 m.sig.2.2.1) (.string (str m.sig.2.2.2)) (.int .i64 m.stack) (.int .i64 m.locals) (.slice co m.code.length cc) (.slice ho m.hands.length hc))∧Hid (Only [] w2 wr)) (fun v _=>m.hands.length - (intOf v).toNat)
  case atStart=>exact ⟨0,by omega,rfl,hid (by rw [hR.out]; rfl),S2,hid (Only.refl _ _)⟩
  case round=>
   obtain ⟨j,hj,rfl,hR2,hS,ho⟩:=hrel
   clear S2 hR
   obtain ⟨a0,a1,a2,a3,a4,a5,a6,a7,a8,a9,_,_,_,_,_,_,_,_,_,_⟩:=hS.out
   by_cases hlt : j < m.hands.length
   ·have g1 : ((j : Int) < (m.hands.length : Int)):=by omega
    obtain ⟨off,hoe,y0,y1,y2,y3⟩:=hd_cells ((r3.only0 o2.out).only0 ho.out) hlt
    subst hoe
    have hfit:=hF.hands _ (List.getElem_mem hlt)
    have a8':=fun o=>cell_alloc o a8
    have hE:=handsE_dropR (allR m.code).1 m.code.length j m.hands hlt
    rw [← hR2.out] at hE
    unfold handE at hE
    rw [hbeg.out,hbeg.out,hbeg.out] at hE
    generalize m.hands[j] = h at *
    obtain ⟨hf,ht,ha,hn⟩:=h
    simp only at *
    have oh:=hid (ho.out.alloc (.cells #[.int .i64 hf,.int .i64 ht,.int .i64 ha,.string (str hn)] 46))
    have oo:=hid (o2.out.trans oh.out (by simp))
    have HN:=hid (fun W=>rname_any hn hfit W)
    generalize hbF : anyZ (allR m.code).1 hf = bF at *
    generalize hbT : anyZ (allR m.code).1 ht = bT at *
    generalize hbA : anyZ (allR m.code).1 ha = bA at *
    generalize nameOK hn = bN at *
    replace hE:=hid hE
    clear hR2
    cases bF with
    | false=>
     have hRR : R = ((j : Int),19):=by
      rw [hE.out]
      simp
     subst hRR
     clear hE
     go_wp2_with fail
     refine (HP.out _ oh.out hf).mono ?_
     rintro e w' ⟨⟨k1,rfl,hk1⟩,rfl⟩
     rw [hbF] at hk1
     have gk1 : k1 < 0:=by simpa using hk1
     clear hk1
     go_wp2_with fail
     go_ret2
     exact ⟨rfl,oo.out⟩
    | true=>
     cases bT with
     | false=>
      by_cases hq : ht = (m.code.length : Int)
      ·subst hq
       have gq : ((m.code.length : Int) != (m.code.length : Int)) = false:=by simp
       have gq2 : ((m.code.length : Int) == (m.code.length : Int)) = true:=by simp
       by_cases hle : (m.code.length : Int)≤hf
       ·have gle : (hf < (m.code.length : Int)) = False:=by simp; omega
        have glf : (m.code.length : Int)≤hf:=hle
        have hRR : R = ((j : Int),19):=by
         rw [hE.out]
         simp [hle]
        subst hRR
        clear hE
        go_wp2_with fail
        refine (HP.out _ oh.out hf).mono ?_
        rintro e w' ⟨⟨k1,rfl,hk1⟩,rfl⟩
        rw [hbF] at hk1
        have gk1 : ¬ (k1 < 0):=by simpa using hk1
        clear hk1
        go_wp2_with fail
        refine (HP.out _ oh.out (m.code.length : Int)).mono ?_
        rintro e w' ⟨⟨k2,rfl,hk2⟩,rfl⟩
        rw [hbT] at hk2
        have gk2 : k2 < 0:=by simpa using hk2
        clear hk2
        go_wp2_with fail
        go_ret2
        exact ⟨rfl,oo.out⟩
       ·have gle : ¬ ((m.code.length : Int)≤hf):=hle
        cases bA with
        | false=>
         have hRR : R = ((j : Int),18):=by
          rw [hE.out]
          simp [hle]
         subst hRR
         clear hE
         go_wp2_with fail
         refine (HP.out _ oh.out hf).mono ?_
         rintro e w' ⟨⟨k1,rfl,hk1⟩,rfl⟩
         rw [hbF] at hk1
         have gk1 : ¬ (k1 < 0):=by simpa using hk1
         clear hk1
         go_wp2_with fail
         refine (HP.out _ oh.out (m.code.length : Int)).mono ?_
         rintro e w' ⟨⟨k2,rfl,hk2⟩,rfl⟩
         rw [hbT] at hk2
         have gk2 : k2 < 0:=by simpa using hk2
         clear hk2
         go_wp2_with fail
         refine (HP.out _ oh.out ha).mono ?_
         rintro e w' ⟨⟨k3,rfl,hk3⟩,rfl⟩
         rw [hbA] at hk3
         have gk3 : k3 < 0:=by simpa using hk3
         clear hk3
         go_wp2_with fail
         go_ret2
         exact ⟨rfl,oo.out⟩
        | true=>
         cases bN with
         | false=>
          have hRR : R = ((j : Int),14):=by
           rw [hE.out]
           simp [hle]
          subst hRR
          clear hE
          go_wp2_with fail
          refine (HP.out _ oh.out hf).mono ?_
          rintro e w' ⟨⟨k1,rfl,hk1⟩,rfl⟩
          rw [hbF] at hk1
          have gk1 : ¬ (k1 < 0):=by simpa using hk1
          clear hk1
          go_wp2_with fail
          refine (HP.out _ oh.out (m.code.length : Int)).mono ?_
          rintro e w' ⟨⟨k2,rfl,hk2⟩,rfl⟩
          rw [hbT] at hk2
          have gk2 : k2 < 0:=by simpa using hk2
          clear hk2
          go_wp2_with fail
          refine (HP.out _ oh.out ha).mono ?_
          rintro e w' ⟨⟨k3,rfl,hk3⟩,rfl⟩
          rw [hbA] at hk3
          have gk3 : ¬ (k3 < 0):=by simpa using hk3
          clear hk3
          go_wp2_with fail
          refine (HN.out _).mono ?_
          rintro e w' ⟨rfl,rfl⟩
          go_wp2_with fail
          go_ret2
          exact ⟨rfl,oo.out⟩
         | true=>
          have hR3 : Hid (R = handsE (allR m.code).1 m.code.length (j + 1) (m.hands.drop (j + 1))):=by
           unfold Hid
           rw [hE.out]
           simp [hle]
          clear hE
          go_wp2_with fail
          refine (HP.out _ oh.out hf).mono ?_
          rintro e w' ⟨⟨k1,rfl,hk1⟩,rfl⟩
          rw [hbF] at hk1
          have gk1 : ¬ (k1 < 0):=by simpa using hk1
          clear hk1
          go_wp2_with fail
          refine (HP.out _ oh.out (m.code.length : Int)).mono ?_
          rintro e w' ⟨⟨k2,rfl,hk2⟩,rfl⟩
          rw [hbT] at hk2
          have gk2 : k2 < 0:=by simpa using hk2
          clear hk2
          go_wp2_with fail
          refine (HP.out _ oh.out ha).mono ?_
          rintro e w' ⟨⟨k3,rfl,hk3⟩,rfl⟩
          rw [hbA] at hk3
          have gk3 : ¬ (k3 < 0):=by simpa using hk3
          clear hk3
          go_wp2_with fail
          refine (HN.out _).mono ?_
          rintro e w' ⟨rfl,rfl⟩
          go_wp2_with fail
          exact ⟨⟨j + 1,by omega,by go_num,hR3,hid (hS.out.only ((Only.refl [] wr).alloc _) (by simp)),oh⟩,by simp [intOf]; omega⟩
      ·have gq : (ht != (m.code.length : Int)) = true:=by simpa using hq
       have gq2 : (ht == (m.code.length : Int)) = false:=by simpa using hq
       have hRR : R = ((j : Int),19):=by
        rw [hE.out]
        simp [hq]
       subst hRR
       clear hE
       go_wp2_with fail
       refine (HP.out _ oh.out hf).mono ?_
       rintro e w' ⟨⟨k1,rfl,hk1⟩,rfl⟩
       rw [hbF] at hk1
       have gk1 : ¬ (k1 < 0):=by simpa using hk1
       clear hk1
       go_wp2_with fail
       refine (HP.out _ oh.out ht).mono ?_
       rintro e w' ⟨⟨k2,rfl,hk2⟩,rfl⟩
       rw [hbT] at hk2
       have gk2 : k2 < 0:=by simpa using hk2
       clear hk2
       go_wp2_with fail
       go_ret2
       exact ⟨rfl,oo.out⟩
     | true=>
      by_cases hle : ht≤hf
      ·have gle : (hf < ht) = False:=by simp; omega
       have glf : ht≤hf:=hle
       have hRR : R = ((j : Int),19):=by
        rw [hE.out]
        simp [hle]
       subst hRR
       clear hE
       go_wp2_with fail
       refine (HP.out _ oh.out hf).mono ?_
       rintro e w' ⟨⟨k1,rfl,hk1⟩,rfl⟩
       rw [hbF] at hk1
       have gk1 : ¬ (k1 < 0):=by simpa using hk1
       clear hk1
       go_wp2_with fail
       refine (HP.out _ oh.out ht).mono ?_
       rintro e w' ⟨⟨k2,rfl,hk2⟩,rfl⟩
       rw [hbT] at hk2
       have gk2 : ¬ (k2 < 0):=by simpa using hk2
       clear hk2
       go_wp2_with fail
       go_ret2
       exact ⟨rfl,oo.out⟩
      ·have gle : ¬ (ht≤hf):=hle
       cases bA with
       | false=>
        have hRR : R = ((j : Int),18):=by
         rw [hE.out]
         simp [hle]
        subst hRR
        clear hE
        go_wp2_with fail
        refine (HP.out _ oh.out hf).mono ?_
        rintro e w' ⟨⟨k1,rfl,hk1⟩,rfl⟩
        rw [hbF] at hk1
        have gk1 : ¬ (k1 < 0):=by simpa using hk1
        clear hk1
        go_wp2_with fail
        refine (HP.out _ oh.out ht).mono ?_
        rintro e w' ⟨⟨k2,rfl,hk2⟩,rfl⟩
        rw [hbT] at hk2
        have gk2 : ¬ (k2 < 0):=by simpa using hk2
        clear hk2
        go_wp2_with fail
        refine (HP.out _ oh.out ha).mono ?_
        rintro e w' ⟨⟨k3,rfl,hk3⟩,rfl⟩
        rw [hbA] at hk3
        have gk3 : k3 < 0:=by simpa using hk3
        clear hk3
        go_wp2_with fail
        go_ret2
        exact ⟨rfl,oo.out⟩
       | true=>
        cases bN with
        | false=>
         have hRR : R = ((j : Int),14):=by
          rw [hE.out]
          simp [hle]
         subst hRR
         clear hE
         go_wp2_with fail
         refine (HP.out _ oh.out hf).mono ?_
         rintro e w' ⟨⟨k1,rfl,hk1⟩,rfl⟩
         rw [hbF] at hk1
         have gk1 : ¬ (k1 < 0):=by simpa using hk1
         clear hk1
         go_wp2_with fail
         refine (HP.out _ oh.out ht).mono ?_
         rintro e w' ⟨⟨k2,rfl,hk2⟩,rfl⟩
         rw [hbT] at hk2
         have gk2 : ¬ (k2 < 0):=by simpa using hk2
         clear hk2
         go_wp2_with fail
         refine (HP.out _ oh.out ha).mono ?_
         rintro e w' ⟨⟨k3,rfl,hk3⟩,rfl⟩
         rw [hbA] at hk3
         have gk3 : ¬ (k3 < 0):=by simpa using hk3
         clear hk3
         go_wp2_with fail
         refine (HN.out _).mono ?_
         rintro e w' ⟨rfl,rfl⟩
         go_wp2_with fail
         go_ret2
         exact ⟨rfl,oo.out⟩
        | true=>
         have hR3 : Hid (R = handsE (allR m.code).1 m.code.length (j + 1) (m.hands.drop (j + 1))):=by
          unfold Hid
          rw [hE.out]
          simp [hle]
         clear hE
         go_wp2_with fail
         refine (HP.out _ oh.out hf).mono ?_
         rintro e w' ⟨⟨k1,rfl,hk1⟩,rfl⟩
         rw [hbF] at hk1
         have gk1 : ¬ (k1 < 0):=by simpa using hk1
         clear hk1
         go_wp2_with fail
         refine (HP.out _ oh.out ht).mono ?_
         rintro e w' ⟨⟨k2,rfl,hk2⟩,rfl⟩
         rw [hbT] at hk2
         have gk2 : ¬ (k2 < 0):=by simpa using hk2
         clear hk2
         go_wp2_with fail
         refine (HP.out _ oh.out ha).mono ?_
         rintro e w' ⟨⟨k3,rfl,hk3⟩,rfl⟩
         rw [hbA] at hk3
         have gk3 : ¬ (k3 < 0):=by simpa using hk3
         clear hk3
         go_wp2_with fail
         refine (HN.out _).mono ?_
         rintro e w' ⟨rfl,rfl⟩
         go_wp2_with fail
         exact ⟨⟨j + 1,by omega,by go_num,hR3,hid (hS.out.only ((Only.refl [] wr).alloc _) (by simp)),oh⟩,by simp [intOf]; omega⟩
   ·have g1 : ¬ ((j : Int) < (m.hands.length : Int)):=by omega
    have hRR : R = (0,0):=by
     rw [hR2.out,List.drop_of_length_le (by omega)]
     rfl
    subst hRR
    clear hR2
    go_wp2
    go_ret2
    exact ⟨rfl,o2.out.trans ho.out (by simp)⟩

end Go.Proofs.YtildemmkhndhjaaGreatDoor
