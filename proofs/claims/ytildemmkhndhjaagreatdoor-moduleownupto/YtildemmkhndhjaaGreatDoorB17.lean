/-
  What the proof leans on, part 17 of 48. The conditions stand in each theorem.
-/
import Derived.Test.YtildemmkhndhjaaGreatDoorB15
import Derived.Test.YtildemmkhndhjaaGreatDoorB13
import Derived.Test.YtildemmkhndhjaaGreatDoorB09
import Derived.Test.YtildemmkhndhjaaGreatDoorB12
import Derived.Deep.DeepCutAuto
namespace Go.Proofs.YtildemmkhndhjaaGreatDoor
open Go.RowKit

set_option maxHeartbeats 4000000 in
theorem checkField_any {w : World} {ao : Option Addr} {l : List Fd} {d cap : Nat} (hS : RS w ao (fcs l) d) (hl : l.length≤9223372036854775807) (f : Fd) (h1 : f.2.1.length≤9223372036854775807) (h2 : f.2.2.2.length≤9223372036854775807) :
  Calls Tryz.prog 50 #[.slice ao l.length cap,fdV f] w fun e w'=>e = .returned (bareV (fieldE l f))∧Only [] w w':=by
 obtain ⟨fl,nm,td,tn⟩:=f
 simp only at h1 h2
 have o0:=(Only.refl [] w).alloc (.cells #[.int .i64 fl,.string (str nm),.int .i64 td,.string (str tn)] 44)
 have N1:=name_any nm h1 (w.alloc (.cells #[.int .i64 fl,.string (str nm),.int .i64 td,.string (str tn)] 44))
 have K1:=check_any (td,tn) h2 (w.alloc (.cells #[.int .i64 fl,.string (str nm),.int .i64 td,.string (str tn)] 44))
 have bc : (w.alloc (.cells #[.int .i64 fl,.string (str nm),.int .i64 td,.string (str tn)] 44)).cell? ⟨w.heap.size,1,none⟩ = some (.string (str nm)):=by rw [cell_new]; rfl
 have C1:=fun W (ho : Only [] (w.alloc (.cells #[.int .i64 fl,.string (str nm),.int .i64 td,.string (str tn)] 44)) W)=>contains_fd (cap:=cap) (hS.only0 (o0.next ho (by simp))) hl w.heap.size nm ((ho.cell (p:=⟨w.heap.size,1,none⟩) (by simp) (by simp)).trans bc)
 unfold fieldE fdV
 unfold tyV at K1
 simp only
 generalize nameOK nm = b1 at *
 generalize tyCheck (td,tn) = te at *
 generalize (l.any fun g=>decide (g.2.1 = nm)) = z at *
 replace N1:=hid N1
 replace K1:=hid K1
 replace C1:=hid C1
 clear bc
 by_cases hf : fl≠0∧fl≠4
 ·rw [if_pos hf]
  obtain ⟨g0,g4⟩:=hf
  have g0' : (fl == 0) = false:=by simpa using g0
  have g4' : (fl == 4) = false:=by simpa using g4
  have g0n : (fl != 0) = true:=by simpa using g0
  have g4n : (fl != 4) = true:=by simpa using g4
  go_enter Tryz.func50,Tryz.ntmps50
  go_wp2_with fail
  go_ret
  exact ⟨rfl,o0⟩
 ·rw [if_neg hf]
  have hf' : fl = 0∨fl = 4:=by omega
  clear hf
  cases b1 with
  | false=>
   rw [if_neg (by simp)]
   rcases hf' with rfl | rfl
   all_goals
    go_enter Tryz.func50,Tryz.ntmps50
    go_wp2_with fail
    refine N1.out.mono ?_
    rintro e w' ⟨rfl,rfl⟩
    go_wp2_with fail
    go_ret
    exact ⟨rfl,o0⟩
  | true=>
   rw [if_pos rfl]
   by_cases he : te = 0
   ·subst he
    rw [if_pos rfl]
    cases z with
    | true=>
     rw [if_pos rfl]
     rcases hf' with rfl | rfl
     all_goals
      go_enter Tryz.func50,Tryz.ntmps50
      go_wp2_with fail
      refine N1.out.mono ?_
      rintro e w' ⟨rfl,rfl⟩
      go_wp2_with fail
      refine K1.out.mono ?_
      rintro e w1 ⟨rfl,ho1⟩
      go_wp2_with fail
      refine (C1.out _ ho1).mono ?_
      rintro e w2 ⟨rfl,ho2⟩
      go_wp2_with fail
      go_ret
      exact ⟨rfl,(o0.next ho1 (by simp)).next ho2 (by simp)⟩
    | false=>
     rw [if_neg (by simp)]
     rcases hf' with rfl | rfl
     all_goals
      go_enter Tryz.func50,Tryz.ntmps50
      go_wp2_with fail
      refine N1.out.mono ?_
      rintro e w' ⟨rfl,rfl⟩
      go_wp2_with fail
      refine K1.out.mono ?_
      rintro e w1 ⟨rfl,ho1⟩
      go_wp2_with fail
      refine (C1.out _ ho1).mono ?_
      rintro e w2 ⟨rfl,ho2⟩
      go_wp2_with fail
      go_ret
      exact ⟨rfl,(o0.next ho1 (by simp)).next ho2 (by simp)⟩
   ·rw [if_neg he]
    have he' : (te == 0) = false:=by simpa using he
    have hbv : bareV te = .iface 63 (.int .i64 te):=by unfold bareV; rw [if_neg he]
    rw [hbv]
    clear hbv
    rcases hf' with rfl | rfl
    all_goals
     go_enter Tryz.func50,Tryz.ntmps50
     go_wp2_with fail
     refine N1.out.mono ?_
     rintro e w' ⟨rfl,rfl⟩
     go_wp2_with fail
     refine K1.out.mono ?_
     rintro e w1 ⟨rfl,ho1⟩
     go_wp2_with fail
     go_ret
     exact ⟨rfl,o0.next ho1 (by simp)⟩

theorem meBlk_new (w : World) (m : Me) (vp vc vh : Value) : MeBlk (w.alloc (.cells #[.int .i64 m.flags,.string (str m.name),vp,.bool m.sig.2.1,.int .i64 m.sig.2.2.1,.string (str m.sig.2.2.2),.int .i64 m.stack,.int .i64 m.locals,vc,vh] 41)) w.heap.size vp m:=
 ⟨by rw [cell_new]; rfl,by rw [cell_new]; rfl,by rw [cell_new]; rfl,by rw [cell_new]; rfl,by rw [cell_new]; rfl⟩

set_option maxHeartbeats 4000000 in
theorem checkHeading_any {w : World} {P Q : Nat→Prop} {ao : Option Addr} {l : List Me} {cs : List Value} {d cap : Nat} (hS : RS w ao cs d) (hE : Els 10 (MeC (SlR w P)) cs l) (hl : l.length≤9223372036854775807) (m : Me) (hF : MeFit m) {vp vc vh : Value} (hq : SlV w Q vp m.sig.1.length (tcs m.sig.1)) :
  Calls Tryz.prog 53 #[.slice ao l.length cap,meV vp vc vh m] w fun e w'=>e = .returned (bareV (headingE l m))∧Only [] w w':=by
 have hq0:=hq
 obtain ⟨po,pc,pd,rfl,hP⟩:=hq
 have hB0:=meBlk_new w m (.slice po m.sig.1.length pc) vc vh
 have o0:=(Only.refl [] w).alloc (.cells #[.int .i64 m.flags,.string (str m.name),.slice po m.sig.1.length pc,.bool m.sig.2.1,.int .i64 m.sig.2.2.1,.string (str m.sig.2.2.2),.int .i64 m.stack,.int .i64 m.locals,vc,vh] 41)
 have C1:=fun W (ho : Only [] (w.alloc (.cells #[.int .i64 m.flags,.string (str m.name),.slice po m.sig.1.length pc,.bool m.sig.2.1,.int .i64 m.sig.2.2.1,.string (str m.sig.2.2.2),.int .i64 m.stack,.int .i64 m.locals,vc,vh] 41)) W)=>
  contains_me (P:=P) (Q:=Q) (cap:=cap) (hS.only0 (o0.next ho (by simp))) (hE.imp fun _ _ _ h=>h.imp (slr_only (o0.next ho (by simp)) (by simp))) hl w.heap.size (hB0.only ho (by simp)) (hq0.only (o0.next ho (by simp)) (by simp))
 have N1:=method_any m.name hF.name (w.alloc (.cells #[.int .i64 m.flags,.string (str m.name),.slice po m.sig.1.length pc,.bool m.sig.2.1,.int .i64 m.sig.2.2.1,.string (str m.sig.2.2.2),.int .i64 m.stack,.int .i64 m.locals,vc,vh] 41))
 have T1:=sigText_any (cap:=pc) (TS.of_rs (hP.rs.only0 o0)) (by have:=hP.le; have:=hP.max; omega) hF.params m.sig.2.1 m.sig.2.2 hF.res
 unfold headingE
 have hst : sigCheck m.sig.1 m.sig.2.1 m.sig.2.2 = 0→stR m.sig.1 m.sig.2.1 m.sig.2.2 = sigText m.sig.1 m.sig.2.1 m.sig.2.2:=fun h=>by unfold stR; rw [if_pos h]
 clear hS hE hq0 hP hB0 hF
 obtain ⟨fl,nm,⟨ps,vo,td,tn⟩,st,lo,code,hs⟩:=m
 unfold meV
 unfold sigV at T1
 simp only at C1 N1 T1 o0 hst ⊢
 generalize methodOK nm = b1 at *
 generalize sigCheck ps vo (td,tn) = se at *
 generalize sigText ps vo (td,tn) = tx at *
 generalize stR ps vo (td,tn) = sx at *
 generalize (l.any fun n=>decide (n.name = nm) && sameR n.sig (ps,vo,td,tn)) = z at *
 have tsz:=str_size sx
 replace N1:=hid N1
 replace T1:=hid T1
 replace C1:=hid C1
 by_cases hf : fl≠0∧fl≠2∧fl≠4
 ·rw [if_pos hf]
  obtain ⟨g0,g2,g4⟩:=hf
  have g0' : (fl == 0) = false:=by simpa using g0
  have g2' : (fl == 2) = false:=by simpa using g2
  have g4' : (fl == 4) = false:=by simpa using g4
  go_enter Tryz.func53,Tryz.ntmps53
  go_wp2_with fail
  go_ret
  exact ⟨rfl,o0⟩
 ·rw [if_neg hf]
  have hf' : fl = 0∨fl = 2∨fl = 4:=by omega
  clear hf
  cases b1 with
  | false=>
   rw [if_neg (by simp)]
   rcases hf' with rfl | rfl | rfl
   all_goals
    go_enter Tryz.func53,Tryz.ntmps53
    go_wp2_with fail
    refine N1.out.mono ?_
    rintro e w' ⟨rfl,rfl⟩
    go_wp2_with fail
    go_ret
    exact ⟨rfl,o0⟩
  | true=>
   rw [if_pos rfl]
   by_cases he : se = 0
   ·subst he
    rw [if_pos rfl]
    obtain rfl:=hst rfl
    by_cases hx : 255 < sx.length
    ·rw [if_pos hx]
     have gx : (255 : Int) < ((str sx).size : Int):=by omega
     rcases hf' with rfl | rfl | rfl
     all_goals
      go_enter Tryz.func53,Tryz.ntmps53
      go_wp2_with fail
      refine N1.out.mono ?_
      rintro e w' ⟨rfl,rfl⟩
      go_wp2_with fail
      refine T1.out.mono ?_
      rintro e w1 ⟨rfl,ho1⟩
      go_wp2_with fail
      go_ret
      exact ⟨rfl,o0.next ho1 (by simp)⟩
    ·rw [if_neg hx]
     have gx : ¬ (255 : Int) < ((str sx).size : Int):=by omega
     cases z with
     | true=>
      rw [if_pos rfl]
      rcases hf' with rfl | rfl | rfl
      all_goals
       go_enter Tryz.func53,Tryz.ntmps53
       go_wp2_with fail
       refine N1.out.mono ?_
       rintro e w' ⟨rfl,rfl⟩
       go_wp2_with fail
       refine T1.out.mono ?_
       rintro e w1 ⟨rfl,ho1⟩
       go_wp2_with fail
       refine (C1.out _ ho1).mono ?_
       rintro e w2 ⟨rfl,ho2⟩
       go_wp2_with fail
       go_ret
       exact ⟨rfl,(o0.next ho1 (by simp)).next ho2 (by simp)⟩
     | false=>
      rw [if_neg (by simp)]
      rcases hf' with rfl | rfl | rfl
      all_goals
       go_enter Tryz.func53,Tryz.ntmps53
       go_wp2_with fail
       refine N1.out.mono ?_
       rintro e w' ⟨rfl,rfl⟩
       go_wp2_with fail
       refine T1.out.mono ?_
       rintro e w1 ⟨rfl,ho1⟩
       go_wp2_with fail
       refine (C1.out _ ho1).mono ?_
       rintro e w2 ⟨rfl,ho2⟩
       go_wp2_with fail
       go_ret
       exact ⟨rfl,(o0.next ho1 (by simp)).next ho2 (by simp)⟩
   ·rw [if_neg he]
    have he' : (se == 0) = false:=by simpa using he
    have hbv : bareV se = .iface 63 (.int .i64 se):=by unfold bareV; rw [if_neg he]
    rw [hbv]
    clear hbv
    rcases hf' with rfl | rfl | rfl
    all_goals
     go_enter Tryz.func53,Tryz.ntmps53
     go_wp2_with fail
     refine N1.out.mono ?_
     rintro e w' ⟨rfl,rfl⟩
     go_wp2_with fail
     refine T1.out.mono ?_
     rintro e w1 ⟨rfl,ho1⟩
     go_wp2_with fail
     go_ret
     exact ⟨rfl,o0.next ho1 (by simp)⟩


theorem SlV.rs {w : World} {P : Nat→Prop} {ao : Option Addr} {n cap : Nat} {cs : List Value} (h : SlV w P (.slice ao n cap) n cs) : ∃ d,RS w ao cs d:=by
 obtain ⟨a,c,d,e,h⟩:=h
 simp only [Value.slice.injEq] at e
 obtain ⟨rfl,_,rfl⟩:=e
 exact ⟨d,h.rs⟩

theorem SlV.shape {w : World} {P : Nat→Prop} {v : Value} {n : Nat} {cs : List Value} (h : SlV w P v n cs) : ∃ ao cap,v = .slice ao n cap∧n≤9223372036854775807:=by
 obtain ⟨a,c,d,e,h⟩:=h
 have:=h.le
 have:=h.max
 exact ⟨a,c,e,by omega⟩

set_option maxHeartbeats 4000000 in
set_option maxRecDepth 100000 in
theorem rsame_method {w : World} {P Q : Nat→Prop} (a b : Me) {vp vc vh up uc uh : Value} (hA : MeAt (SlR w P) vp vc vh a) (hB : MeAt (SlR w Q) up uc uh b) :
  Calls Tryz.prog 86 #[meV vp vc vh a,meV up uc uh b] w fun e w'=>e = .returned (.bool (decide (a = b)))∧Only [] w w':=by
 obtain ⟨af,an,⟨al,av,at_⟩,ast,aloc,ac,ah⟩:=a
 obtain ⟨bf,bn,⟨bl,bv,bt⟩,bst,bloc,bc,bh⟩:=b
 obtain ⟨hA1,hA2,hA3⟩:=hA
 obtain ⟨hB1,hB2,hB3⟩:=hB
 obtain ⟨po,pcap,rfl,pl⟩:=SlV.shape hA1
 obtain ⟨co,ccap,rfl,cl⟩:=SlV.shape hA2
 obtain ⟨ho,hcap,rfl,hl⟩:=SlV.shape hA3
 obtain ⟨qo,qcap,rfl,ql⟩:=SlV.shape hB1
 obtain ⟨eo,ecap,rfl,el⟩:=SlV.shape hB2
 obtain ⟨go,gcap,rfl,gl⟩:=SlV.shape hB3
 obtain ⟨d1,r1⟩:=SlV.rs hA1
 obtain ⟨d2,r2⟩:=SlV.rs hA2
 obtain ⟨d3,r3⟩:=SlV.rs hA3
 obtain ⟨d4,r4⟩:=SlV.rs hB1
 obtain ⟨d5,r5⟩:=SlV.rs hB2
 obtain ⟨d6,r6⟩:=SlV.rs hB3
 clear hA1 hA2 hA3 hB1 hB2 hB3
 simp only at pl cl hl ql el gl r1 r2 r3 r4 r5 r6
 have o1:=((Only.refl [] w).alloc (.cells #[.int .i64 af,.string (str an),.slice po al.length pcap,.bool av,.int .i64 at_.1,.string (str at_.2),.int .i64 ast,.int .i64 aloc,.slice co ac.length ccap,.slice ho ah.length hcap] 41)).alloc (.cells #[.int .i64 bf,.string (str bn),.slice qo bl.length qcap,.bool bv,.int .i64 bt.1,.string (str bt.2),.int .i64 bst,.int .i64 bloc,.slice eo bc.length ecap,.slice go bh.length gcap] 41)
 have HS:=hid (rsame_any (cap:=pcap) (bap:=qcap) (TS.of_rs (r1.only0 o1)) (TS.of_rs (r4.only0 o1)) pl av bv at_ bt)
 have kA:=fun w' (h : Only [] ((w.alloc (.cells #[.int .i64 af,.string (str an),.slice po al.length pcap,.bool av,.int .i64 at_.1,.string (str at_.2),.int .i64 ast,.int .i64 aloc,.slice co ac.length ccap,.slice ho ah.length hcap] 41)).alloc (.cells #[.int .i64 bf,.string (str bn),.slice qo bl.length qcap,.bool bv,.int .i64 bt.1,.string (str bt.2),.int .i64 bst,.int .i64 bloc,.slice eo bc.length ecap,.slice go bh.length gcap] 41)) w')=>(r2.only0 (o1.trans h (by simp))).conv ccap
 have kB:=fun w' (h : Only [] ((w.alloc (.cells #[.int .i64 af,.string (str an),.slice po al.length pcap,.bool av,.int .i64 at_.1,.string (str at_.2),.int .i64 ast,.int .i64 aloc,.slice co ac.length ccap,.slice ho ah.length hcap] 41)).alloc (.cells #[.int .i64 bf,.string (str bn),.slice qo bl.length qcap,.bool bv,.int .i64 bt.1,.string (str bt.2),.int .i64 bst,.int .i64 bloc,.slice eo bc.length ecap,.slice go bh.length gcap] 41)) w')=>(r5.only0 (o1.trans h (by simp))).conv ecap
 have SA:=hid ((me10_new w (.int .i64 af) (.string (str an)) (.slice po al.length pcap) (.bool av) (.int .i64 at_.1) (.string (str at_.2)) (.int .i64 ast) (.int .i64 aloc) (.slice co ac.length ccap) (.slice ho ah.length hcap) 41).only ((Only.refl [] _).alloc (.cells #[.int .i64 bf,.string (str bn),.slice qo bl.length qcap,.bool bv,.int .i64 bt.1,.string (str bt.2),.int .i64 bst,.int .i64 bloc,.slice eo bc.length ecap,.slice go bh.length gcap] 41)) (by simp))
 have SB:=me10_new (w.alloc (.cells #[.int .i64 af,.string (str an),.slice po al.length pcap,.bool av,.int .i64 at_.1,.string (str at_.2),.int .i64 ast,.int .i64 aloc,.slice co ac.length ccap,.slice ho ah.length hcap] 41)) (.int .i64 bf) (.string (str bn)) (.slice qo bl.length qcap) (.bool bv) (.int .i64 bt.1) (.string (str bt.2)) (.int .i64 bst) (.int .i64 bloc) (.slice eo bc.length ecap) (.slice go bh.length gcap) 41
 rw [World.size_alloc] at SB
 replace SB:=hid SB
 simp only [sigV] at HS
 simp only [meV]
 obtain ⟨R,hR⟩ : ∃ R,R = decide ((⟨af,an,(al,av,at_),ast,aloc,ac,ah⟩ : Me) = ⟨bf,bn,(bl,bv,bt),bst,bloc,bc,bh⟩):=⟨_,rfl⟩
 rw [← hR]
 replace hR:=hid hR
 replace o1:=hid o1
 replace kA:=hid kA
 replace kB:=hid kB
 by_cases c1 : af = bf
 case neg=>
  have hF : R = false:=by
   rw [hR.out]
   simp [c1]
  subst hF
  have n1 : (af == bf) = false:=by simpa using c1
  have m1 : (af != bf) = true:=by simpa using c1
  clear hR
  go_enter Tryz.func86,Tryz.ntmps86
  go_wp2
  go_ret
  exact ⟨rfl,o1.out⟩
 subst c1
 by_cases c2 : an = bn
 case neg=>
  have hF : R = false:=by
   rw [hR.out]
   simp [c2]
  subst hF
  have n2 : (an == bn) = false:=by simpa using c2
  have m2 : (an != bn) = true:=by simpa using c2
  have p2 : ¬ ((str an).toList = (str bn).toList):=by rw [str_toList,str_toList]; exact c2
  have q2 : ((str an).toList == (str bn).toList) = false:=by simpa using p2
  have s2 : ((str an).toList != (str bn).toList) = true:=by simpa using p2
  clear hR
  go_enter Tryz.func86,Tryz.ntmps86
  go_wp2
  go_ret
  exact ⟨rfl,o1.out⟩
 subst c2
 by_cases c3 : ((al,av,at_) : Sg) = (bl,bv,bt)
 case neg=>
  have hF : R = false:=by
   rw [hR.out]
   simp [show ¬ (((al,av,at_) : Sg) = (bl,bv,bt)) from c3]
  subst hF
  have hs : sameR (al,av,at_) (bl,bv,bt) = false:=by simp [sameR,c3]
  rw [hs] at HS
  clear hR
  go_enter Tryz.func86,Tryz.ntmps86
  go_wp2_with (go_at_call 145; refine HS.out.mono ?_; rintro e w3 ⟨rfl,o3⟩; have ka:=kA.out w3 o3; have kb:=kB.out w3 o3; have SA3:=hid (SA.out.only o3 (by simp)); have SB3:=hid (SB.out.only o3 (by simp)); obtain ⟨a0,a1,a2,a3,a4,a5,a6,a7,a8,a9,_,_,_,_,_,_,_,_,_,_⟩:=SA3.out; obtain ⟨b0,b1,b2,b3,b4,b5,b6,b7,b8,b9,_,_,_,_,_,_,_,_,_,_⟩:=SB3.out)
  go_ret
  exact ⟨rfl,o1.out.trans o3 (by simp)⟩
 have hs : sameR (al,av,at_) (bl,bv,bt) = true:=by simp [sameR,c3]
 rw [hs] at HS
 replace c3:=hid c3
 by_cases c4 : ast = bst
 case neg=>
  have hF : R = false:=by
   rw [hR.out]
   simp [c4]
  subst hF
  have n4 : (ast == bst) = false:=by simpa using c4
  have m4 : (ast != bst) = true:=by simpa using c4
  clear hR
  go_enter Tryz.func86,Tryz.ntmps86
  go_wp2_with (go_at_call 145; refine HS.out.mono ?_; rintro e w3 ⟨rfl,o3⟩; have ka:=kA.out w3 o3; have kb:=kB.out w3 o3; have SA3:=hid (SA.out.only o3 (by simp)); have SB3:=hid (SB.out.only o3 (by simp)); obtain ⟨a0,a1,a2,a3,a4,a5,a6,a7,a8,a9,_,_,_,_,_,_,_,_,_,_⟩:=SA3.out; obtain ⟨b0,b1,b2,b3,b4,b5,b6,b7,b8,b9,_,_,_,_,_,_,_,_,_,_⟩:=SB3.out)
  go_ret
  exact ⟨rfl,o1.out.trans o3 (by simp)⟩
 subst c4
 by_cases c5 : aloc = bloc
 case neg=>
  have hF : R = false:=by
   rw [hR.out]
   simp [c5]
  subst hF
  have n5 : (aloc == bloc) = false:=by simpa using c5
  have m5 : (aloc != bloc) = true:=by simpa using c5
  clear hR
  go_enter Tryz.func86,Tryz.ntmps86
  go_wp2_with (go_at_call 145; refine HS.out.mono ?_; rintro e w3 ⟨rfl,o3⟩; have ka:=kA.out w3 o3; have kb:=kB.out w3 o3; have SA3:=hid (SA.out.only o3 (by simp)); have SB3:=hid (SB.out.only o3 (by simp)); obtain ⟨a0,a1,a2,a3,a4,a5,a6,a7,a8,a9,_,_,_,_,_,_,_,_,_,_⟩:=SA3.out; obtain ⟨b0,b1,b2,b3,b4,b5,b6,b7,b8,b9,_,_,_,_,_,_,_,_,_,_⟩:=SB3.out)
  go_ret
  exact ⟨rfl,o1.out.trans o3 (by simp)⟩
 subst c5
 by_cases c6 : ac = bc
 case neg=>
  have hF : R = false:=by
   rw [hR.out]
   simp [c6]
  subst hF
  have n6 : (ac == bc) = false:=by simpa using c6
  have m6 : (ac != bc) = true:=by simpa using c6
  have p6 : ¬ ((str ac).toList = (str bc).toList):=by rw [str_toList,str_toList]; exact c6
  have q6 : ((str ac).toList == (str bc).toList) = false:=by simpa using p6
  have s6 : ((str ac).toList != (str bc).toList) = true:=by simpa using p6
  clear hR
  go_enter Tryz.func86,Tryz.ntmps86
  go_wp2_with (go_at_call 145; refine HS.out.mono ?_; rintro e w3 ⟨rfl,o3⟩; have ka:=kA.out w3 o3; have kb:=kB.out w3 o3; have SA3:=hid (SA.out.only o3 (by simp)); have SB3:=hid (SB.out.only o3 (by simp)); obtain ⟨a0,a1,a2,a3,a4,a5,a6,a7,a8,a9,_,_,_,_,_,_,_,_,_,_⟩:=SA3.out; obtain ⟨b0,b1,b2,b3,b4,b5,b6,b7,b8,b9,_,_,_,_,_,_,_,_,_,_⟩:=SB3.out)
  go_ret
  exact ⟨rfl,o1.out.trans o3 (by simp)⟩
 subst c6
 by_cases c7 : ah.length = bh.length
 case neg=>
  have hF : R = false:=by
   rw [hR.out]
   simp [show ¬ (ah = bh) from fun e=>c7 (by rw [e])]
  subst hF
  have n7 : ((ah.length : Int) != (bh.length : Int)) = true:=by simpa using (by omega : ¬ ((ah.length : Int) = (bh.length : Int)))
  have m7 : ¬ ((ah.length : Int) = (bh.length : Int)):=by omega
  clear hR
  go_enter Tryz.func86,Tryz.ntmps86
  go_wp2_with (go_at_call 145; refine HS.out.mono ?_; rintro e w3 ⟨rfl,o3⟩; have ka:=kA.out w3 o3; have kb:=kB.out w3 o3; have SA3:=hid (SA.out.only o3 (by simp)); have SB3:=hid (SB.out.only o3 (by simp)); obtain ⟨a0,a1,a2,a3,a4,a5,a6,a7,a8,a9,_,_,_,_,_,_,_,_,_,_⟩:=SA3.out; obtain ⟨b0,b1,b2,b3,b4,b5,b6,b7,b8,b9,_,_,_,_,_,_,_,_,_,_⟩:=SB3.out)
  go_ret
  exact ⟨rfl,o1.out.trans o3 (by simp)⟩
 have n7 : ((ah.length : Int) != (bh.length : Int)) = false:=by simp [c7]
 have m7 : ((ah.length : Int) == (bh.length : Int)) = true:=by simp [c7]
 replace c7:=hid c7
 go_enter Tryz.func86,Tryz.ntmps86
 go_wp2_with (go_at_call 145; refine HS.out.mono ?_; rintro e w3 ⟨rfl,o3⟩; have ka:=kA.out w3 o3; have kb:=kB.out w3 o3; have SA3:=hid (SA.out.only o3 (by simp)); have SB3:=hid (SB.out.only o3 (by simp)); obtain ⟨a0,a1,a2,a3,a4,a5,a6,a7,a8,a9,_,_,_,_,_,_,_,_,_,_⟩:=SA3.out; obtain ⟨b0,b1,b2,b3,b4,b5,b6,b7,b8,b9,_,_,_,_,_,_,_,_,_,_⟩:=SB3.out)
 clear a0 a1 a2 a3 a4 a5 a6 a7 a8 a9 b0 b1 b2 b3 b4 b5 b6 b7 b8 b9 ka kb SA SB HS kA kB
 have o4:=hid (o1.out.trans o3 (by simp))
 clear o3 o1
 go_loopw [5] (fun i wr=>∃ j : Nat,j≤ah.length∧i = .int .i64 (j : Int)∧Hid (ah.take j = bh.take j)∧Hid (Me10 wr w.heap.size (.int .i64 af) (.string (str an)) (.slice po al.length pcap) (.bool av) (.int .i64 at_.1) (.string (str at_.2)) (.int .i64 ast) (.int .i64 aloc) (.slice co ac.length ccap) (.slice ho ah.length hcap))∧Hid (Me10 wr (w.heap.size + 1) (.int .i64 af) (.string (str an)) (.slice qo bl.length qcap) (.bool bv) (.int .i64 bt.1) (.string (str bt.2)) (.int .i64 ast) (.int .i64 aloc) (.slice eo ac.length ecap) (.slice go bh.length gcap))∧Hid (Only [] w wr)) (fun i _=>ah.length - (intOf i).toNat)
 case atStart=>exact ⟨0,by omega,rfl,hid (by simp),SA3,SB3,o4⟩
 case round=>
  obtain ⟨j,hj,rfl,hpre,hSA,hSB,hor⟩:=hrel
  clear SA3 SB3 o4
  obtain ⟨a0,a1,a2,a3,a4,a5,a6,a7,a8,a9,_,_,_,_,_,_,_,_,_,_⟩:=hSA.out
  obtain ⟨b0,b1,b2,b3,b4,b5,b6,b7,b8,b9,_,_,_,_,_,_,_,_,_,_⟩:=hSB.out
  by_cases hlt : j < ah.length
  ·have g2 : ((j : Int) < (ah.length : Int)):=by omega
   have hlt2 : j < bh.length:=by rw [← c7.out]; exact hlt
   have g3 : ((j : Int) < (bh.length : Int)):=by omega
   obtain ⟨off,rfl,y0,y1,y2,y3⟩:=hd_cells (r3.only0 hor.out) hlt
   obtain ⟨off2,rfl,z0,z1,z2,z3⟩:=hd_cells (r6.only0 hor.out) hlt2
   have hnx : ah[j] = bh[j]→ah.take (j + 1) = bh.take (j + 1):=by
    intro e
    rw [List.take_succ_eq_append_getElem hlt,List.take_succ_eq_append_getElem hlt2,hpre.out,e]
   have hno : ah[j]≠bh[j]→ah≠bh:=by
    intro e1 e2
    apply e1
    simp [e2]
   have hqt:=neq_hd ah[j] bh[j]
   generalize ah[j] = s at *
   generalize bh[j] = t at *
   obtain ⟨s1,s2,s3,s4⟩:=s
   obtain ⟨t1,t2,t3,t4⟩:=t
   simp only [hdV] at hqt
   clear hpre
   by_cases hs : (s1,s2,s3,s4) = (t1,t2,t3,t4)
   ·have hnx:=hid (hnx hs)
    simp only [hs,decide_true,Bool.not_true] at hqt
    clear hs hno
    go_wp2_with fail
    go_region
    go_wp2
    exact ⟨⟨j + 1,by omega,by go_num,hnx,hid (hSA.out.only (Only.refl [] _).drew (by simp)),hid (hSB.out.only (Only.refl [] _).drew (by simp)),hid hor.out.drew⟩,by simp [intOf]; omega⟩
   ·have hF : R = false:=by
     rw [hR.out]
     simp [hno hs]
    subst hF
    simp only [hs,decide_false,Bool.not_false] at hqt
    clear hs hno hnx hR
    go_wp2_with fail
    go_region
    go_wp2
    go_ret
    exact ⟨rfl,hor.out.drew⟩
  ·have g2 : ¬ ((j : Int) < (ah.length : Int)):=by omega
   have hT : R = true:=by
    obtain rfl : j = ah.length:=by omega
    have h0:=hpre.out
    rw [List.take_of_length_le (Nat.le_refl _),List.take_of_length_le (by rw [c7.out]; exact Nat.le_refl _)] at h0
    rw [hR.out]
    obtain ⟨k1,k2,k3⟩ : al = bl∧av = bv∧at_ = bt:=by simpa using c3.out
    simp [h0,k1,k2,k3]
   subst hT
   clear hR
   go_wp2
   go_ret
   exact ⟨rfl,hor.out⟩


theorem pList_snoc {α : Type} {p : Pr α} : ∀ (k : Nat) (u u1 u2 : Rs) (xs : List α) (y : α),pList p k u = .inr (xs,u1)→p u1 = .inr (y,u2)→pList p (k + 1) u = .inr (xs ++ [y],u2):=by
 intro k
 induction k with
 | zero=>
  intro u u1 u2 xs y h h1
  simp only [pList,pDone,Sum.inr.injEq,Prod.mk.injEq] at h
  obtain ⟨rfl,rfl⟩:=h
  simp [pList,pBind,pDone,h1]
 | succ k ih=>
  intro u u1 u2 xs y h h1
  rw [pList] at h ⊢
  unfold pBind at h ⊢
  cases hp : p u with
  | inl f=>rw [hp] at h; cases h
  | inr z=>
   obtain ⟨x,v⟩:=z
   simp only [hp] at h ⊢
   cases hq : pList p k v with
   | inl f=>rw [hq] at h; cases h
   | inr z2=>
    obtain ⟨ys,v1⟩:=z2
    simp only [hq,pDone,Sum.inr.injEq,Prod.mk.injEq] at h
    obtain ⟨rfl,rfl⟩:=h
    rw [ih v v1 u2 ys y hq h1]
    rfl

theorem pList_fail {α : Type} {p : Pr α} : ∀ (k n : Nat) (u u1 : Rs) (xs : List α) (f : Int × Int),pList p k u = .inr (xs,u1)→p u1 = .inl f→k < n→pList p n u = .inl f:=by
 intro k
 induction k with
 | zero=>
  intro n u u1 xs f h h1 hn
  simp only [pList,pDone,Sum.inr.injEq,Prod.mk.injEq] at h
  obtain ⟨rfl,rfl⟩:=h
  cases n with
  | zero=>omega
  | succ n=>simp [pList,pBind,h1]
 | succ k ih=>
  intro n u u1 xs f h h1 hn
  cases n with
  | zero=>omega
  | succ n=>
   rw [pList] at h ⊢
   unfold pBind at h ⊢
   cases hp : p u with
   | inl f=>rw [hp] at h; cases h
   | inr z=>
    obtain ⟨x,v⟩:=z
    simp only [hp] at h ⊢
    cases hq : pList p k v with
    | inl f=>rw [hq] at h; cases h
    | inr z2=>
     obtain ⟨ys,v1⟩:=z2
     simp only [hq,pDone,Sum.inr.injEq,Prod.mk.injEq] at h
     obtain ⟨rfl,rfl⟩:=h
     rw [ih n v v1 ys f hq h1 (by omega)]

/-- How far n elements are read: all up to here, or the first that was wrong. -/
def Far {α : Type} (p : Pr α) (n : Nat) (t0 : St) (xs : List α) (t1 : St) : Prop:=match t0 with
 | .inl f=>t1 = .inl f
 | .inr u=>(∃ u1,t1 = .inr u1∧pList p xs.length u = .inr (xs,u1))∨∃ f,t1 = .inl f∧pList p n u = .inl f

theorem far_start {α : Type} (p : Pr α) (n : Nat) (t0 : St) : Far p n t0 [] t0:=by
 cases t0 with
 | inl f=>rfl
 | inr u=>exact .inl ⟨u,rfl,rfl⟩

theorem far_step {α : Type} {p : Pr α} {n : Nat} {t0 t1 t2 : St} {xs : List α} {y : α} (h : Far p n t0 xs t1) (hf : isFine t1 = true) (hy : Out p t1 y t2) (hn : xs.length < n) : Far p n t0 (xs ++ [y]) t2:=by
 cases t1 with
 | inl f=>cases hf
 | inr v=>
  cases t0 with
  | inl f=>cases h
  | inr u=>
   rcases h with ⟨u1,hu,hl⟩ | ⟨f,hf,_⟩
   ·have e:=Sum.inr.inj hu
    subst e
    unfold Out at hy
    simp only at hy
    cases hp : p v with
    | inl f=>
     simp only [hp] at hy
     exact .inr ⟨f,hy,pList_fail _ n _ _ _ f hl hp hn⟩
    | inr z=>
     obtain ⟨y',u2⟩:=z
     simp only [hp] at hy
     obtain ⟨rfl,rfl⟩:=hy
     refine .inl ⟨u2,rfl,?_⟩
     rw [List.length_append]
     exact pList_snoc _ _ _ _ _ _ hl hp
   ·cases hf

/-- What reading so many came to, when it ended. -/
theorem out_rows {α : Type} {p : Pr α} {k most n at_ : Nat} {t t0 t1 : St} {xs : List α} (hc : Out (pU k) t n t0) (ha : ∀ u,t = .inr u→at_ = u.2)
  (h : (most < n∧t1 = tRefuse (at_ : Int) 4 t0)∨(¬ most < n∧Far p n t0 xs t1∧(isFine t1 = true→xs.length = n))) : Out (pRows k most p) t xs t1:=by
 unfold Out at hc ⊢
 cases t with
 | inl f=>
  simp only at hc
  subst hc
  rcases h with ⟨_,rfl⟩ | ⟨_,h,_⟩
  ·rfl
  ·exact h
 | inr u=>
  have ha:=ha u rfl
  simp only [pRows,pBind] at hc ⊢
  cases hp : pU k u with
  | inl f=>
   simp only [hp] at hc ⊢
   subst hc
   rcases h with ⟨_,rfl⟩ | ⟨_,h,_⟩
   ·rfl
   ·exact h
  | inr z=>
   obtain ⟨m,u'⟩:=z
   simp only [hp] at hc ⊢
   obtain ⟨rfl,rfl⟩:=hc
   rcases h with ⟨hm,rfl⟩ | ⟨hm,h,hl⟩
   ·rw [if_pos hm,ha]
    rfl
   ·rw [if_neg hm]
    rcases h with ⟨u1,rfl,h⟩ | ⟨f,rfl,h⟩
    ·rw [hl rfl] at h
     simp [h]
    ·simp only [h]

/-- A row that is grown is not what was wrong. -/
theorem Sc.row {w w' : World} {sb r d B : Nat} {t : St} (h : Sc w sb r d t) {e : TypeId} {k m n' cap cap' : Nat} {ao ao' : Option Addr} {xs ys : List Value} (hown : w.ownsRow B e k (.slice ao m cap) m xs) (hA : Appd w w' B e k ao ao' m n' cap' ys) (hB : sb < B∧r < B∧d < B) {u : Value} (hu : ∀ x,u≠.int .i64 x) (hc : ao≠none→xs[0]? = some u∨xs[1]? = some u∨xs[3]? = some u) : Sc w' sb r d t:=by
 cases ao with
 | none=>exact h.only0 hA.only
 | some a=>
  obtain ⟨q1,_,_,_,q5⟩:=RS.of_owns hown
  obtain ⟨b1,b2,b3⟩:=q5 a rfl
  have hcell : ∀ i v,xs[i]? = some v→w.cell? ⟨a.block,i,none⟩ = some v:=by
   intro i v hv
   have:=q1.cells i v hv
   rw [b3,Addr.add_lit,Nat.zero_add] at this
   exact this
  have ho : Only [a.block] w w':=hA.only
  refine h.other hu ?_ (by omega) ho
  rcases hc (by simp) with h | h | h
  ·exact .inl (hcell 0 u h)
  ·exact .inr (.inl (hcell 1 u h))
  ·exact .inr (.inr (hcell 3 u h))

def sliceLen (v : Value) : Nat:=match v with
 | .slice _ n _=>n
 | _=>0

end Go.Proofs.YtildemmkhndhjaaGreatDoor
