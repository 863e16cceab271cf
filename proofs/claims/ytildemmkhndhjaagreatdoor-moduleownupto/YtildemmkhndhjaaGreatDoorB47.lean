/-
  What the proof leans on, part 47 of 48. The conditions stand in each theorem.
-/
import Derived.Test.YtildemmkhndhjaaGreatDoorB40
import Derived.Test.YtildemmkhndhjaaGreatDoorB24
import Derived.Test.YtildemmkhndhjaaGreatDoorB46
import Derived.Test.YtildemmkhndhjaaGreatDoorB37
import Derived.Test.YtildemmkhndhjaaGreatDoorB31
import Derived.Test.YtildemmkhndhjaaGreatDoorB14
namespace Go.Proofs.YtildemmkhndhjaaGreatDoor
open Go.RowKit

theorem twin_any {w : World} {P : Nat→Prop} (m : Mo) (hS : MoSm 1048576 m) {vp vc : Value} (hM : MoAt (SlR w P) vp vc m) : Calls Tryz.prog 16 #[.agg #[vp,vc]] w (TwPost w m):=
 twin_of (fun _ _ c hS _ _ _ hC _ _ hq hP=>twinClass_any c hS hC hq hP) m hS hM


theorem nil_of_ok {w : World} {B : Nat} {v : Value} {b : Bp} (h : EB w B v b) (hb : b.2.2.2 = 0) : v = .nilIface:=by
 rcases h.cases_nil with ⟨_,e⟩ | ⟨hn,_⟩
 ·exact e
 ·exact absurd hb hn

set_option maxHeartbeats 8000000 in
set_option maxRecDepth 100000 in
theorem modown_any {w : World} (hg : Ety w) {P : Nat→Prop} (m : Mo) (hm : MoSm 1048576 m) {vp vc : Value} (hM0 : MoAt (SlR w P) vp vc m) :
  Calls Tryz.prog 5 #[.agg #[vp,vc]] w fun e w'=>e = .returned (.bool true)∧Only [] w w':=by
 have hM : MoAt (SlR w (· < w.heap.size)) vp vc m:=hM0.mono fun d _ h=>h
 clear hM0
 have nm:=fun e he=>(hm.pool e he).2.2
 obtain ⟨hP1,_,hC1,_⟩:=id hM
 obtain ⟨po,pc,rfl,_⟩:=SlV.shape hP1
 obtain ⟨co,cc,rfl,_⟩:=SlV.shape hC1
 clear hP1 hC1
 have wk:=hid (fun h=>read_enc (m:=m) nm h)
 have HK:=hid (fun W (hW : Only [] w W)=>known5 (hg.only0 hW))
 have H1:=hid (fun W (hW : Only [] w W)=>small5_any m hm.fit (fun e he=>(hm.pool e he).1) (fun c hc x hx=>Nat.le_trans ((hm.classes c hc).methods x hx).sig.n (by decide)) nm (hM.only0 hW))
 have H3:=hid (fun W (hW : Only [] w W)=>mwrite_any (hg.only0 hW) m hm.fit nm (hM.only0 hW))
 have H4:=hid (fun W (hW : Only [] w W)=>twin_any m hm (hM.only0 hW))
 have HM:=hid hM
 have HG:=hid hg
 have HS:=hid hm
 have HN:=hid nm
 clear hg hm nm hM
 have o1:=(Only.refl [] w).alloc (.cells #[.slice po m.pool.length pc,.slice co m.classes.length cc] 32)
 have A1:=hid (mo2_new w (.slice po m.pool.length pc) (.slice co m.classes.length cc) 32)
 have z1 : w.heap.size + 1 = (w.alloc (.cells #[.slice po m.pool.length pc,.slice co m.classes.length cc] 32)).heap.size:=by simp
 go_enter Tryz.func5,Tryz.ntmps5
 go_wp2_with fail
 refine (HK.out _ o1).mono ?_
 rintro e w2 ⟨rfl,o2⟩
 have A2:=hid (A1.out.only o2 (by simp))
 have O2:=hid (o1.trans o2 (by simp))
 have s2:=hid (show w.heap.size + 1≤w2.heap.size by have:=o2.size; omega)
 clear HK A1 o1 o2 z1
 obtain ⟨a0,a1,_,_⟩:=A2.out
 go_wp2_with fail
 refine (H1.out _ O2.out).mono ?_
 rintro e w3 ⟨b1,rfl,o3⟩
 have A3:=hid (A2.out.only o3 (by simp))
 have O3:=hid (O2.out.trans o3 (by simp))
 have s3:=hid (show w.heap.size + 1≤w3.heap.size by have:=o3.size; have:=s2.out; omega)
 clear H1 A2 O2 o3 a0 a1 s2
 obtain ⟨a0,a1,_,_⟩:=A3.out
 cases b1 with
 | false=>
  go_wp2_with fail
  go_ret
  exact ⟨rfl,O3.out⟩
 | true=>
  go_wp2_with fail
  refine (H3.out _ O3.out).mono ?_
  rintro e w5 ⟨xo,xc,v5,rfl,own5,ev5,o5⟩
  have A5:=hid (A3.out.only o5 (by simp))
  have O5:=hid (O3.out.trans o5 (by simp))
  have ev5':=hid (ev5.cases_nil)
  have q5:=RS.of_owns own5
  have R5:=hid q5.1
  have L5:=hid (show ∀ a,xo = some a→w.heap.size + 1≤a.block∧a.block < w5.heap.size from fun a ha=>⟨by have:=(q5.2.2.2.2 a ha).1; have:=s3.out; omega,(q5.2.2.2.2 a ha).2.1⟩)
  have n5:=q5.2.2.2.1
  have c5 : (writeM m).1.length≤xc:=q5.2.1
  have s5:=hid (show w.heap.size + 1≤w5.heap.size by have:=o5.size; have:=s3.out; omega)
  clear A3 O3 o5 own5 ev5 a0 a1 q5 s3
  rcases ev5'.out with ⟨z5,rfl⟩ | ⟨z5,p5,rfl,_,_⟩
  ·obtain ⟨em,hR,hL,gm⟩:=wk.out z5
   clear wk ev5'
   rw [em] at R5 c5 ⊢
   have GM:=hid gm
   have Z5:=hid z5
   have EM:=hid em
   have ER:=hid hR
   clear gm z5 em hR
   go_wp2_with (at_builtin; go_loud (refine wpList_append_any (ys:=bcs (encM m)) rfl (.tmp 26) (.tmp 27) elByte Tryz.underlying38 rfl rfl rfl (rows_made5 w5 5 1 rfl) (R5.out.only0 ((Only.refl [] w5).alloc _)) (bcs_length _) (bcs_one _) n5 (by omega) (by simp) ?_); rintro mo mc w6 hA6)
   have o6:=hA6.next (rows_made5 w5 5 1 rfl) ((Only.refl [] w5).alloc _)
   have own6:=hA6.own
   simp only [Nat.zero_add,List.nil_append] at own6
   have q6:=RS.of_owns own6
   have V6:=hid (show OwR w6 w5.heap.size (fun d=>w5.heap.size≤d∧d < w6.heap.size) 5 1 (.slice mo (encM m).length mc) (encM m).length (bcs (encM m)) from ⟨own6,fun g hgg=>own6.lt g hgg⟩)
   have R6:=hid q6.1
   have n6:=q6.2.2.2.1
   have A6:=hid (A5.out.only o6 (by simp))
   have O6:=hid (O5.out.trans o6 (by simp))
   have R5b:=hid (R5.out.only0 o6)
   have s6:=hid o6.size
   clear hA6 own6 q6 A5 O5 R5 o6 n5 c5
   have HR:=hid (fun W (hW : Only [] w6 W)=>mread_any ((HG.out.only0 O6.out).only0 hW) (bs_of_rs (R6.out.only0 hW)) n6 (by omega))
   have HR2:=HR.out
   rw [ER.out] at HR2
   replace HR2:=hid HR2
   clear HR
   refine (HR2.out _ (Only.refl [] _)).mono ?_
   rintro e w7 ⟨xp,xk,xv,rfl,ex,_,_,X7,o7⟩
   obtain ⟨xo1,xc1,xo2,xc2,rfl,rfl⟩:=own_shape X7
   obtain rfl:=nil_of_ok ex rfl
   have X7:=hid (own_mark X7)
   have s7:=hid o7.size
   have A7:=hid (A6.out.only o7 (by simp))
   clear ex
   have o8 : Only [] w6 (w7.alloc (.cells #[.slice xo1 m.pool.length xc1,.slice xo2 m.classes.length xc2] 32)):=o7.alloc _
   have E8:=hid (mo2_new w7 (.slice xo1 m.pool.length xc1) (.slice xo2 m.classes.length xc2) 32)
   have A8:=hid (A7.out.only ((Only.refl [] w7).alloc (.cells #[.slice xo1 m.pool.length xc1,.slice xo2 m.classes.length xc2] 32)) (by simp))
   have s8 : w7.heap.size + 1 = (w7.alloc (.cells #[.slice xo1 m.pool.length xc1,.slice xo2 m.classes.length xc2] 32)).heap.size:=by simp
   have X8:=hid (own_far X7.out ((Only.refl [] w7).alloc (.cells #[.slice xo1 m.pool.length xc1,.slice xo2 m.classes.length xc2] 32)) (by simp))
   go_wp2_with fail
   refine (HR2.out _ o8).mono ?_
   rintro e w9 ⟨yp,yk,yv,rfl,ey,_,_,Y9,o9⟩
   obtain ⟨yo1,yc1,yo2,yc2,rfl,rfl⟩:=own_shape Y9
   obtain rfl:=nil_of_ok ey rfl
   rw [← s8] at Y9
   have Y9:=hid (own_mark Y9)
   have s9:=hid (show w7.heap.size + 1≤w9.heap.size by rw [s8]; exact o9.size)
   have X9:=hid (own_far X8.out o9 (by simp))
   have E9:=hid (E8.out.only o9 (by simp))
   have O9:=hid (O6.out.trans (o8.trans o9 (by simp)) (by simp))
   have A10:=hid ((A8.out.only o9 (by simp)).only ((Only.refl [] w9).alloc (.cells #[.slice yo1 m.pool.length yc1,.slice yo2 m.classes.length yc2] 32)) (by simp))
   have F10:=hid (mo2_new w9 (.slice yo1 m.pool.length yc1) (.slice yo2 m.classes.length yc2) 32)
   have E10:=hid (E9.out.only ((Only.refl [] w9).alloc (.cells #[.slice yo1 m.pool.length yc1,.slice yo2 m.classes.length yc2] 32)) (by simp))
   have X10:=hid (own_far X9.out ((Only.refl [] w9).alloc (.cells #[.slice yo1 m.pool.length yc1,.slice yo2 m.classes.length yc2] 32)) (by simp))
   have Y10:=hid (own_far Y9.out ((Only.refl [] w9).alloc (.cells #[.slice yo1 m.pool.length yc1,.slice yo2 m.classes.length yc2] 32)) (by simp))
   have V10:=hid (owr_only (o8.trans o9 (by simp) |>.alloc (.cells #[.slice yo1 m.pool.length yc1,.slice yo2 m.classes.length yc2] 32)) (by simp) _ _ _ _ _ V6.out)
   have R10:=hid ((R5b.out.only0 (o8.trans o9 (by simp))).only0 ((Only.refl [] w9).alloc (.cells #[.slice yo1 m.pool.length yc1,.slice yo2 m.classes.length yc2] 32)))
   have O10:=hid (O9.out.alloc (.cells #[.slice yo1 m.pool.length yc1,.slice yo2 m.classes.length yc2] 32))
   have s10 : w9.heap.size + 1 = (w9.alloc (.cells #[.slice yo1 m.pool.length yc1,.slice yo2 m.classes.length yc2] 32)).heap.size:=by simp
   clear E8 A8 X8 X9 Y9 E9 O9 A7 X7 HR2 V6 R5b A6 O6 s8 ey o7 o8 o9
   obtain ⟨a0,a1,_,_⟩:=A10.out
   go_wp2_with fail
   refine (H4.out _ O10.out).mono ?_
   rintro e w11 ⟨zp,zk,rfl,Z11,o11⟩
   obtain ⟨zo1,zc1,zo2,zc2,rfl,rfl⟩:=own_shape Z11
   rw [← s10] at Z11
   have Z11:=hid (own_mark Z11)
   have s11:=hid (show w9.heap.size + 1≤w11.heap.size by rw [s10]; exact o11.size)
   have o12:=(o11.alloc (.cells #[.slice zo1 m.pool.length zc1,.slice zo2 m.classes.length zc2] 32))
   have A12:=hid (A10.out.only o12 (by simp))
   have F12:=hid (F10.out.only o12 (by simp))
   have E12:=hid (E10.out.only o12 (by simp))
   have G12:=hid (mo2_new w11 (.slice zo1 m.pool.length zc1) (.slice zo2 m.classes.length zc2) 32)
   have X12:=hid (own_far X10.out o12 (by simp))
   have Y12:=hid (own_far Y10.out o12 (by simp))
   have Z12:=hid (own_far Z11.out ((Only.refl [] w11).alloc (.cells #[.slice zo1 m.pool.length zc1,.slice zo2 m.classes.length zc2] 32)) (by simp))
   have V12:=hid (owr_only o12 (by simp) _ _ _ _ _ V10.out)
   have R12:=hid (R10.out.only0 o12)
   have O12:=hid (O10.out.trans o12 (by simp))
   have s12 : w11.heap.size + 1 = (w11.alloc (.cells #[.slice zo1 m.pool.length zc1,.slice zo2 m.classes.length zc2] 32)).heap.size:=by simp
   clear A10 F10 E10 X10 Y10 V10 R10 O10 s10 Z11 o11 o12 a0 a1 H4
   obtain ⟨e0,e1,_,_⟩:=E12.out
   go_wp2_with fail
   obtain ⟨kp,kc⟩:=good_kinds (Z:=fun d=>(w6.heap.size≤d∧d < w7.heap.size)∨(w11.alloc (.cells #[.slice zo1 m.pool.length zc1,.slice zo2 m.classes.length zc2] 32)).heap.size≤d) GM.out X12.out (fun d hd _ _=>.inl hd)
   refine (spoil_any kp kc GM.out.manyC (by have:=GM.out.manyP; omega) (fun d hd=>.inr hd)).mono ?_
   rintro e w13 ⟨rfl,S,oS,hS0⟩
   have hS : ∀ d,d∈S→(w6.heap.size≤d∧d < w7.heap.size)∨w11.heap.size + 1≤d:=fun d hd=>by rw [s12]; exact hS0 d hd
   have t5:=L5.out
   have t6:=s6.out
   have t7:=s7.out
   have t9:=s9.out
   have t11:=s11.out
   have t2:=s5.out
   have t13:=oS.size
   rw [← s12] at t13
   have A13:=hid (A12.out.only oS (fun h=>by have:=hS _ h; omega))
   have F13:=hid (F12.out.only oS (fun h=>by have:=hS _ h; omega))
   have G13:=hid (G12.out.only oS (fun h=>by have:=hS _ h; omega))
   have Y13:=hid (own_far Y12.out oS (fun d hd h=>by have:=hS _ h; omega))
   have Z13:=hid (own_far Z12.out oS (fun d hd h=>by have:=hS _ h; omega))
   have V13:=hid (owr_only oS (fun d hd h=>by have:=hS _ h; omega) _ _ _ _ _ V12.out)
   have R13:=hid (show RS w13 xo (bcs (encM m)) ((xo.map (·.block)).getD 0) from by
    cases xo with
    | none=>exact R12.out.only oS (fun hn=>by rcases R12.out with h | ⟨_,h,_⟩; exact absurd h hn; cases h)
    | some a=>exact R12.out.only oS (fun _ h=>by have:=t5 a rfl; have:=hS _ h; simp at this; omega))
   have O13:=hid (O12.out.next oS (fun x hx=>by have:=hS x hx; omega))
   clear A12 F12 E12 G12 X12 Y12 Z12 V12 R12 O12 oS hS hS0 s12 kp kc e0 e1
   obtain ⟨e0,e1,_,_⟩:=G13.out
   go_wp2_with fail
   obtain ⟨kp,kc⟩:=good_kinds (Z:=fun d=>(w9.heap.size + 1≤d∧d < w11.heap.size)∨w13.heap.size≤d) GM.out Z13.out (fun d hd _ _=>.inl hd)
   refine (spoil_any kp kc GM.out.manyC (by have:=GM.out.manyP; omega) (fun d hd=>.inr hd)).mono ?_
   rintro e w14 ⟨rfl,S2,oS2,hS⟩
   have t14:=oS2.size
   have A14:=hid (A13.out.only oS2 (fun h=>by have:=hS _ h; omega))
   have F14:=hid (F13.out.only oS2 (fun h=>by have:=hS _ h; omega))
   have Y14:=hid (own_far Y13.out oS2 (fun d hd h=>by have:=hS _ h; omega))
   have V14:=hid (owr_only oS2 (fun d hd h=>by have:=hS _ h; omega) _ _ _ _ _ V13.out)
   have R14:=hid (show RS w14 xo (bcs (encM m)) ((xo.map (·.block)).getD 0) from by
    cases xo with
    | none=>exact R13.out.only oS2 (fun hn=>by rcases R13.out with h | ⟨_,h,_⟩; exact absurd h hn; cases h)
    | some a=>exact R13.out.only oS2 (fun _ h=>by have:=t5 a rfl; have:=hS _ h; simp at this; omega))
   have O14:=hid (O13.out.next oS2 (fun x hx=>by have:=hS x hx; omega))
   clear A13 F13 G13 Y13 Z13 V13 R13 O13 oS2 hS kp kc e0 e1
   have q5 : (encM m).length≤262144:=by omega
   go_wp2_with fail
   go_loopw [11] (fun i wr=>∃ j : Nat,j≤(encM m).length∧i = .int .i64 (j : Int)∧(∃ xs,OwR wr w5.heap.size (fun d=>w5.heap.size≤d∧d < w6.heap.size) 5 1 (.slice mo (encM m).length mc) (encM m).length xs)∧∃ U,Only U w14 wr∧∀ x,x∈U→w5.heap.size≤x∧x < w6.heap.size) (fun i _=>(encM m).length - (intOf i).toNat)
   case atStart=>exact ⟨0,by omega,rfl,⟨_,V14.out⟩,[],Only.refl [] w14,by simp⟩
   case round=>
    obtain ⟨j,hj,rfl,⟨xs,hv⟩,U,oU,hU⟩:=hrel
    by_cases hlt : j < (encM m).length
    ·have g2 : ((j : Int) < ((encM m).length : Int)):=by omega
     obtain ⟨g,c,rfl,hg,y0,f0,hv2⟩:=byte_put hv hlt (.int .u8 238)
     have o2:=(oU.mono (S':=g :: U) (fun x hx=>.inl (List.mem_cons_of_mem _ hx))).setCell (p:=⟨g,j,none⟩) (.inl (by simp)) (.int .u8 238)
     clear hv
     go_wp2
     exact ⟨⟨j + 1,by omega,by go_num,⟨_,hv2⟩,g :: U,o2,fun x hx=>by rcases List.mem_cons.1 hx with rfl | hx; exact hg; exact hU x hx⟩,by simp [intOf]; omega⟩
    ·have g2 : ¬ ((j : Int) < ((encM m).length : Int)):=by omega
     have A15:=hid (A14.out.only oU (fun h=>by have:=hU _ h; omega))
     have F15:=hid (F14.out.only oU (fun h=>by have:=hU _ h; omega))
     have Y15:=hid (own_far Y14.out oU (fun d hd h=>by have:=hU _ h; omega))
     have R15:=hid (show RS wr xo (bcs (encM m)) ((xo.map (·.block)).getD 0) from by
      cases xo with
      | none=>exact R14.out.only oU (fun hn=>by rcases R14.out with h | ⟨_,h,_⟩; exact absurd h hn; cases h)
      | some a=>exact R14.out.only oU (fun _ h=>by have:=t5 a rfl; have:=hU _ h; simp at this; omega))
     have O15:=hid (O14.out.next oU (fun x hx=>by have:=hU x hx; omega))
     clear A14 F14 Y14 V14 R14 O14 oU hU hv
     obtain ⟨a0,a1,_,_⟩:=A15.out
     go_wp2_with fail
     refine (H3.out _ O15.out).mono ?_
     rintro e w16 ⟨ko,kcap,v16,rfl,own16,ev16,o16⟩
     obtain rfl:=nil_of_ok ev16 Z5.out
     rw [EM.out] at own16 ⊢
     have rx:=hid (RS.of_owns own16).1
     have R16:=hid (R15.out.only0 o16)
     have A16:=hid (A15.out.only o16 (by simp))
     have F16:=hid (F15.out.only o16 (by simp))
     have Y16:=hid (own_read (own_far Y15.out o16 (by simp)))
     have O16:=hid (O15.out.trans o16 (by simp))
     obtain ⟨a0,a1,_,_⟩:=A16.out
     obtain ⟨b0,b1,_,_⟩:=F16.out
     have hst:=str_toList (encM m)
     have HQ:=hid (fun W (hW : Only [] w16 W)=>rsame_module m m (Y16.out.only0 hW) (HM.out.only0 (O16.out.trans hW (by simp))))
     have hdec : decide (m = m) = true:=by simp
     rw [hdec] at HQ
     clear A15 F15 Y15 R15 O15 own16 ev16 o16 A16 F16 Y16 H3 HM HG HS HN GM Z5 EM ER R6 L5 hdec
     generalize encM m = ea at *
     go_wp2_with fail
     refine (HQ.out _ (Only.refl [] _)).mono ?_
     rintro e w17 ⟨rfl,o17⟩
     have kx:=(rx.out.only0 o17).conv kcap
     have ky:=(R16.out.only0 o17).conv xc
     go_wp2_with fail
     go_ret
     exact ⟨rfl,O16.out.trans o17 (by simp)⟩
  ·unfold badV
   go_wp2_with fail
   go_ret
   exact ⟨rfl,O5.out⟩

theorem MoSm.mono {B C : Nat} {m : Mo} (h : MoSm B m) (hC : B≤C) : MoSm C m:=⟨Nat.le_trans h.np hC,fun e he=>⟨Nat.le_trans (h.pool e he).1 hC,(h.pool e he).2⟩,Nat.le_trans h.nc hC,fun c hc=>(h.classes c hc).mono hC⟩

theorem own_walk {w : World} (hg : Ety w) {m : Mo} {P : Nat→Prop} {vp vc : Value} (hM : MoAt (SlR w P) vp vc m) (hm : MoSm 1048576 m) :
  Calls Tryz.prog 5 #[.agg #[vp,vc]] w fun e w'=>e = .returned (.bool true)∧Below w.heap.size w w':=
 (modown_any hg m hm hM).mono fun _ _ h=>⟨h.1,h.2.below (Nat.le_refl _) (by simp)⟩

end Go.Proofs.YtildemmkhndhjaaGreatDoor
