/-
  What the proof leans on, part 45 of 48. The conditions stand in each theorem.
-/
import Derived.Test.YtildemmkhndhjaaGreatDoorB37
import Derived.Test.YtildemmkhndhjaaGreatDoorB44
import Derived.Test.YtildemmkhndhjaaGreatDoorB27
namespace Go.Proofs.YtildemmkhndhjaaGreatDoor
open Go.RowKit

theorem xs_new (w : World) (B : Nat) (hB : B≤w.heap.size) (L : List Nat) (hL : ∀ b,b∈L→b < w.heap.size) : XS (w.alloc (.cells #[.slice none 0 0,.int .i64 0] 152)) B w.heap.size 0 L:=by
 refine ⟨w.heap.size,([],0),⟨none,0,{ c0:=by rw [cell_new]; rfl,c1:=by rw [cell_new]; rfl,f0:=frozen_new _ _ _ _,f1:=frozen_new _ _ _ _,own:=World.ownsRow_nil _ _ _ _,ne:=(fun a ha=>by cases ha),ge:=hB },rfl⟩,by simp,?_,?_,?_⟩
 ·intro h
  exact absurd (hL _ h) (Nat.lt_irrefl _)
 ·intro h
  exact absurd (hL _ h) (Nat.lt_irrefl _)
 ·intro b hb
  have:=hL b hb
  rw [World.size_alloc]
  omega

theorem ttR_len (t : Ty) : (ttR t).length≤9223372036854775807:=by
 unfold ttR
 split
 ·rename_i h
  have:=tyText_len h
  omega
 ·simp

/-- Some bytes, some Bad; no elder block has turned. -/
def WPost (w : World) (e : Ending) (w' : World) : Prop:=∃ ao n cap b,e = .returned (.tuple #[.slice ao n cap,bpV b])∧Only [] w w'

set_option maxHeartbeats 16000000 in
set_option maxRecDepth 100000 in
theorem rwrite_any {w : World} {P : Nat→Prop} (m : Mo) (hF : MoFit m) (hA : ∀ e∈m.pool,e.2.1.length≤1048576) (hps : ∀ c∈m.classes,∀ x∈c.methods,x.sig.1.length≤2000000) (hN : ∀ e∈m.pool,-9223372036854775808≤e.2.2.1∧e.2.2.1≤9223372036854775807) {vp vc : Value} (hM : MoAt (SlR w P) vp vc m) :
  Calls Tryz.prog 35 #[.agg #[vp,vc]] w (WPost w):=by
 have HK:=fun W (hW : Only [] w W)=>rcheck5_any m hF hA hps (hM.only0 hW)
 have hG:=fun h=>mo_good (m:=m) h hN
 have hM2 : MoAt (SlR w (· < w.heap.size)) vp vc m:=hM.mono fun d _ h=>h
 clear hM hA hps hN
 obtain ⟨hP0,ccs,hC0,hEl⟩:=hM2
 obtain ⟨po,pc,rfl,lp⟩:=SlV.shape hP0
 obtain ⟨co,cc,rfl,lc⟩:=SlV.shape hC0
 obtain ⟨dp,rp⟩:=SlV.rs hP0
 obtain ⟨dc0,rc⟩:=SlV.rs hC0
 clear hP0 hC0
 have hFc:=hid hF.classes
 have hFp:=hid hF.pool
 clear hF
 generalize checkM m = ck at *
 obtain ⟨pl,cl⟩:=m
 obtain ⟨x0,x1,x2,x3⟩:=ck
 simp only [bpV] at HK hG hEl lp lc rp rc hFc hFp ⊢
 replace HK:=hid HK
 replace hEl:=hid hEl
 replace rp:=hid rp
 replace rc:=hid rc
 have o1:=((Only.refl [] w).alloc (.cells #[.slice po pl.length pc,.slice co cl.length cc] 32)).alloc (.cells #[.int .i64 0,.int .i64 0,.int .i64 0,.int .i64 0] 54)
 have M1:=hid ((mo2_new w (.slice po pl.length pc) (.slice co cl.length cc) 32).only ((Only.refl [] _).alloc (.cells #[.int .i64 0,.int .i64 0,.int .i64 0,.int .i64 0] 54)) (by simp))
 have Z1:=b4_new (w.alloc (.cells #[.slice po pl.length pc,.slice co cl.length cc] 32)) (.int .i64 0) (.int .i64 0) (.int .i64 0) (.int .i64 0) 54
 rw [World.size_alloc] at Z1
 replace Z1:=hid Z1
 obtain ⟨c0,c1,_,_⟩:=M1.out
 by_cases hx : x3 = 0
 case neg=>
  have n1 : (x3 != 0) = true:=by simpa using hx
  have m1 : (x3 == 0) = false:=by simpa using hx
  clear hG
  go_enter Tryz.func35,Tryz.ntmps35
  go_wp2_with fail
  refine (HK.out _ o1).mono ?_
  rintro e w3 ⟨rfl,o3⟩
  have Z3:=Z1.out.only (o3.alloc (.cells #[.int .i64 x0,.int .i64 x1,.int .i64 x2,.int .i64 x3] 54)) (by simp)
  have oo:=hid ((o1.trans o3 (by simp)).alloc (.cells #[.int .i64 x0,.int .i64 x1,.int .i64 x2,.int .i64 x3] 54))
  have Z3h:=hid Z3
  obtain ⟨b0,b1,b2,b3,k0,k1,k2,k3⟩:=Z3
  clear HK c0 c1 Z1 M1
  go_wp2_with fail
  go_region
  all_goals go_wp2_with fail
  all_goals
   obtain ⟨T,oT⟩:=Z3h.out.put (.int .i64 x0) (.int .i64 x1) (.int .i64 x2) (.int .i64 x3)
   obtain ⟨d0,d1,d2,d3,_,_,_,_⟩:=T
   refine bodyPost_ret (v:=.tuple #[.slice none 0 0,.agg #[.int .i64 x0,.int .i64 x1,.int .i64 x2,.int .i64 x3]]) (by simp [results,Tryz.results35,go_sem,d0,d1,d2,d3]) rfl ?_
   exact ⟨_,_,_,(x0,x1,x2,x3),rfl,(oo.out.next oT (by simp)).drew⟩
 subst hx
 have hG:=hG rfl
 obtain ⟨hmp,hmc,_,hclG⟩:=hG
 simp only at hmp hmc hclG
 replace hclG:=hid hclG
 go_enter Tryz.func35,Tryz.ntmps35
 go_wp2_with fail
 refine (HK.out _ o1).mono ?_
 rintro e w3 ⟨rfl,o3⟩
 have hs3:=o3.size
 simp only [World.size_alloc] at hs3
 have OB:=(Only.refl [] w3).alloc (.cells #[.int .i64 x0,.int .i64 x1,.int .i64 x2,.int .i64 0] 54)
 have OW:=OB.alloc (.cells #[.slice none 0 0,.int .i64 0] 152)
 have M4:=hid ((M1.out.only o3 (by simp)).only OW (by simp))
 have Z4:=hid ((Z1.out.only o3 (by simp)).only OW (by simp))
 have O4:=hid ((o1.trans o3 (by simp)).trans OW (by simp))
 have XN:=xs_new (w3.alloc (.cells #[.int .i64 x0,.int .i64 x1,.int .i64 x2,.int .i64 0] 54)) w.heap.size (by rw [World.size_alloc]; omega) [w.heap.size + 1,w.heap.size] (by intro b hb; rw [World.size_alloc]; simp at hb; omega)
 have HM:=xs_bytes (XN.alloc (.cells #[.int .u8 75,.int .u8 69,.int .u8 89,.int .u8 49] 5 (4,5))) (l:=magicL) (cap:=4) (rs_fresh _ #[.int .u8 75,.int .u8 69,.int .u8 89,.int .u8 49] 5 (4,5)) (by simp) (by simp [magicL])
 simp only [World.size_alloc] at HM
 have kc:=Joins.run_convert_bytes_const_at (P:=Tryz.prog) ((w3.alloc (.cells #[.int .i64 x0,.int .i64 x1,.int .i64 x2,.int .i64 0] 54)).alloc (.cells #[.slice none 0 0,.int .i64 0] 152)) 38 5 #[.int .u8 75,.int .u8 69,.int .u8 89,.int .u8 49] 4 4 (w3.heap.size + 1 + 1) (by simp) Tryz.underlying38 Tryz.underlying5
 replace HM:=hid HM
 have OM:=hid ((Only.refl [] ((w3.alloc (.cells #[.int .i64 x0,.int .i64 x1,.int .i64 x2,.int .i64 0] 54)).alloc (.cells #[.slice none 0 0,.int .i64 0] 152))).alloc (.cells #[.int .u8 75,.int .u8 69,.int .u8 89,.int .u8 49] 5 (4,5)))
 have hL1:=M1
 clear HK XN OB OW M1 Z1 o1 o3 c0 c1 hL1
 go_wp2_with fail
 refine HM.out.mono ?_
 rintro e w5 ⟨rfl,X5,l5⟩
 have M5:=hid ((M4.out.only OM.out (by simp)).lo l5 (by simp))
 have Z5:=hid ((Z4.out.only OM.out (by simp)).lo l5 (by simp))
 have O5:=hid (l5.only (O4.out.trans OM.out (by simp)) (Nat.le_refl _))
 replace X5:=X5.tail
 have hlm : magicL.length = 4:=rfl
 rw [hlm] at X5
 generalize w3.heap.size + 1 = y at X5 ⊢
 clear HM kc M4 Z4 O4 OM l5 hs3 hlm
 obtain ⟨c0,c1,_,_⟩:=M5.out
 have H:=hid (xs_u2 X5 (pl.length : Int) (by omega))
 go_wp2_with fail
 refine H.out.mono ?_
 rintro e w6 ⟨rfl,X6,l⟩
 have M6:=hid (M5.out.lo l (by simp))
 have Z6:=hid (Z5.out.lo l (by simp))
 have O6:=hid (l.only O5.out (Nat.le_refl _))
 clear H l X5 M5 Z5 O5
 clear c0 c1
 obtain ⟨c0,c1,_,_⟩:=M6.out
 go_wp2_with fail
 clear c0 c1
 have X7:=hid (X6.mono (show _≤10 + 0 * 300 by omega))
 clear X6
 go_loopw [6] (fun v wr=>∃ j : Nat,j≤pl.length∧v = .int .i64 (j : Int)∧Hid (XS wr w.heap.size y (10 + j * 300) [w.heap.size + 1,w.heap.size])∧Hid (Mo2 wr w.heap.size (.slice po pl.length pc) (.slice co cl.length cc))∧Hid (B4 wr (w.heap.size + 1) (.int .i64 0) (.int .i64 0) (.int .i64 0) (.int .i64 0))∧Hid (Only [] w wr)) (fun v _=>pl.length - (intOf v).toNat)
 case atStart=>exact ⟨0,by omega,rfl,X7,M6,Z6,O6⟩
 case round=>
  obtain ⟨j,hj,rfl,hX,hM,hZ,hO⟩:=hrel
  clear X7 M6 Z6 O6
  obtain ⟨c0,c1,_,_⟩:=hM.out
  by_cases hlt : j < pl.length
  ·have g1 : ((j : Int) < (pl.length : Int)):=by omega
   obtain ⟨off,rfl,y0,y1,y2,y3,y4,y5⟩:=en_cells (rp.out.only0 hO.out) hlt
   have H:=xs_entry hX.out pl[j] (hFp.out _ (List.getElem_mem hlt)) (by omega)
   generalize pl[j] = x at *
   obtain ⟨xa,xb,xc,xd,xe,xf⟩:=x
   simp only [enV] at H y0 y1 y2 y3 y4 y5
   replace H:=hid H
   go_wp2_with fail
   refine H.out.mono ?_
   rintro e w8 ⟨rfl,X8,l⟩
   go_wp2_with fail
   exact ⟨⟨j + 1,by omega,by go_num,hid (X8.mono (by omega)),hid (hM.out.lo l (by simp)),hid (hZ.out.lo l (by simp)),hid (l.only hO.out (Nat.le_refl _))⟩,by simp [intOf]; omega⟩
  ·have g1 : ¬ ((j : Int) < (pl.length : Int)):=by omega
   have X8:=hX.out
   have M8:=hM
   have Z8:=hZ
   have O8:=hO
   clear hX hM hZ hO
   have H:=hid (xs_u1 X8 (cl.length : Int) (by omega))
   go_wp2_with fail
   refine H.out.mono ?_
   rintro e w9 ⟨rfl,X9,l⟩
   have M9:=hid (M8.out.lo l (by simp))
   have Z9:=hid (Z8.out.lo l (by simp))
   have O9:=hid (l.only O8.out (Nat.le_refl _))
   clear H l X8 M8 Z8 O8
   clear c0 c1
   obtain ⟨c0,c1,_,_⟩:=M9.out
   go_wp2_with fail
   clear c0 c1
   have X10:=hid (X9.mono (show _≤1300000 + 0 * 900000 by omega))
   clear X9 g1 hj
   go_loopw [7] (fun v wr=>∃ j : Nat,j≤cl.length∧v = .int .i64 (j : Int)∧Hid (XS wr w.heap.size y (1300000 + j * 900000) [w.heap.size + 1,w.heap.size])∧Hid (Mo2 wr w.heap.size (.slice po pl.length pc) (.slice co cl.length cc))∧Hid (B4 wr (w.heap.size + 1) (.int .i64 0) (.int .i64 0) (.int .i64 0) (.int .i64 0))∧Hid (Only [] w wr)) (fun v _=>cl.length - (intOf v).toNat)
   case atStart=>exact ⟨0,by omega,rfl,X10,M9,Z9,O9⟩
   case round=>
    obtain ⟨j,hj,rfl,hX,hM,hZ,hO⟩:=hrel
    clear X10 M9 Z9 O9
    obtain ⟨c0,c1,_,_⟩:=hM.out
    by_cases hlt : j < cl.length
    ·have g1 : ((j : Int) < (cl.length : Int)):=by omega
     obtain ⟨off,vf,vd,vm,rfl,hat,y0,y1,y2,y3,y4,y5⟩:=cl_cells (rc.out.only0 hO.out) hEl.out hlt
     have hcF:=hFc.out _ (List.getElem_mem hlt)
     have hcG:=hclG.out _ (List.getElem_mem hlt)
     obtain ⟨hC1,hC2,mcs,hC3,hEm⟩:=hat
     obtain ⟨fo,fc,rfl,lf⟩:=SlV.shape hC1
     obtain ⟨do_,dc,rfl,ld⟩:=SlV.shape hC2
     obtain ⟨mo,mc,rfl,lm⟩:=SlV.shape hC3
     obtain ⟨d1,r1⟩:=SlV.rs hC1
     obtain ⟨d2,r2⟩:=SlV.rs hC2
     obtain ⟨d3,r3⟩:=SlV.rs hC3
     clear hC1 hC2 hC3
     generalize cl[j] = c at *
     obtain ⟨cf,cn,cs,aF,aD,aM⟩:=c
     have hn1:=hcF.name
     have hn2:=hcF.super
     have hn3:=hid hcF.faces
     have hn4:=hid hcF.fields
     have hn5:=hid hcF.methods
     have hn6:=hcG.manyF
     have hn7:=hcG.manyD
     have hn8:=hcG.manyM
     have hn9:=hid hcG.methods
     clear hcF hcG
     simp only at y0 y1 y2 y3 y4 y5 lf ld lm r1 r2 r3 hEm hn1 hn2 hn3 hn4 hn5 hn6 hn7 hn8 hn9
     replace r1:=hid r1
     replace r2:=hid r2
     replace r3:=hid r3
     replace hEm:=hid hEm
     have X20:=hX.out.alloc (.cells #[.int .i64 cf,.string (str cn),.string (str cs),.slice fo aF.length fc,.slice do_ aD.length dc,.slice mo aM.length mc] 28)
     have S20:=hid (cl6_new wr (.int .i64 cf) (.string (str cn)) (.string (str cs)) (.slice fo aF.length fc) (.slice do_ aD.length dc) (.slice mo aM.length mc) 28)
     have OA:=(Only.refl [] wr).alloc (.cells #[.int .i64 cf,.string (str cn),.string (str cs),.slice fo aF.length fc,.slice do_ aD.length dc,.slice mo aM.length mc] 28)
     have M20:=hid (hM.out.only OA (by simp))
     have Z20:=hid (hZ.out.only OA (by simp))
     have O20:=hid (hO.out.trans OA (by simp))
     clear OA hX hM hZ hO
     obtain ⟨e0,e1,e2,e3,e4,e5,_,_,_,_,_,_⟩:=S20.out
     have H:=hid (xs_u1 X20 cf (by omega))
     go_wp2_with fail
     refine H.out.mono ?_
     rintro e w21 ⟨rfl,X21,l⟩
     have M21:=hid (M20.out.lo l (by simp))
     have Z21:=hid (Z20.out.lo l (by simp))
     have S21:=hid (S20.out.lo l (by simp))
     have O21:=hid (l.only O20.out (Nat.le_refl _))
     clear H l X20 M20 Z20 O20 S20
     clear e0 e1 e2 e3 e4 e5
     obtain ⟨e0,e1,e2,e3,e4,e5,_,_,_,_,_,_⟩:=S21.out
     clear e0 e1 e2 e3 e4 e5 c0 c1 y0 y1 y2 y3 y4 y5
     generalize wr.heap.size = b at X21 S21 ⊢
     obtain ⟨e0,e1,e2,e3,e4,e5,_,_,_,_,_,_⟩:=S21.out
     have H:=hid (xs_text X21 cn hn1 (by omega))
     go_wp2_with fail
     refine H.out.mono ?_
     rintro e w22 ⟨rfl,X22,l⟩
     have M22:=hid (M21.out.lo l (by simp))
     have Z22:=hid (Z21.out.lo l (by simp))
     have S22:=hid (S21.out.lo l (by simp))
     have O22:=hid (l.only O21.out (Nat.le_refl _))
     clear H l X21 M21 Z21 O21 S21
     clear e0 e1 e2 e3 e4 e5
     obtain ⟨e0,e1,e2,e3,e4,e5,_,_,_,_,_,_⟩:=S22.out
     have H:=hid (xs_text X22 cs hn2 (by omega))
     go_wp2_with fail
     refine H.out.mono ?_
     rintro e w23 ⟨rfl,X23,l⟩
     have M23:=hid (M22.out.lo l (by simp))
     have Z23:=hid (Z22.out.lo l (by simp))
     have S23:=hid (S22.out.lo l (by simp))
     have O23:=hid (l.only O22.out (Nat.le_refl _))
     clear H l X22 M22 Z22 O22 S22
     clear e0 e1 e2 e3 e4 e5
     obtain ⟨e0,e1,e2,e3,e4,e5,_,_,_,_,_,_⟩:=S23.out
     have H:=hid (xs_u1 X23 (aF.length : Int) (by omega))
     go_wp2_with fail
     refine H.out.mono ?_
     rintro e w24 ⟨rfl,X24,l⟩
     have M24:=hid (M23.out.lo l (by simp))
     have Z24:=hid (Z23.out.lo l (by simp))
     have S24:=hid (S23.out.lo l (by simp))
     have O24:=hid (l.only O23.out (Nat.le_refl _))
     clear H l X23 M23 Z23 O23 S23
     clear e0 e1 e2 e3 e4 e5
     obtain ⟨e0,e1,e2,e3,e4,e5,_,_,_,_,_,_⟩:=S24.out
     go_wp2_with fail
     clear e0 e1 e2 e3 e4 e5
     have XX:=hid (X24.mono (show _≤1300000 + j * 900000 + 600 + 0 * 256 by omega))
     clear X24
     go_loopw [9] (fun v wr=>∃ k : Nat,k≤aF.length∧v = .int .i64 (k : Int)∧Hid (XS wr w.heap.size y (1300000 + j * 900000 + 600 + k * 256) (b :: [w.heap.size + 1,w.heap.size]))∧Hid (Mo2 wr w.heap.size (.slice po pl.length pc) (.slice (some ⟨dc0,off,none⟩) cl.length cc))∧Hid (B4 wr (w.heap.size + 1) (.int .i64 0) (.int .i64 0) (.int .i64 0) (.int .i64 0))∧Hid (Cl6 wr b (.int .i64 cf) (.string (str cn)) (.string (str cs)) (.slice fo aF.length fc) (.slice do_ aD.length dc) (.slice mo aM.length mc))∧Hid (Only [] w wr)) (fun v _=>aF.length - (intOf v).toNat)
     case atStart=>exact ⟨0,by omega,rfl,XX,M24,Z24,S24,O24⟩
     case round=>
      obtain ⟨k,hk,rfl,hX,hM,hZ,hS,hO⟩:=hrel
      clear XX M24 Z24 S24 O24
      obtain ⟨e0,e1,e2,e3,e4,e5,_,_,_,_,_,_⟩:=hS.out
      by_cases hkl : k < aF.length
      ·have g2 : ((k : Int) < (aF.length : Int)):=by omega
       obtain ⟨of1,rfl,s0⟩:=str_cells (r1.out.only0 hO.out) hkl
       have hfit:=hn3.out _ (List.getElem_mem hkl)
       generalize aF[k] = sx at *
       have X60:=hX.out
       have M60:=hM
       have Z60:=hZ
       have S60:=hS
       have O60:=hO
       clear hX hM hZ hS hO
       have H:=hid (xs_text X60 sx hfit (by omega))
       go_wp2_with fail
       refine H.out.mono ?_
       rintro e w61 ⟨rfl,X61,l⟩
       have M61:=hid (M60.out.lo l (by simp))
       have Z61:=hid (Z60.out.lo l (by simp))
       have S61:=hid (S60.out.lo l (by simp))
       have O61:=hid (l.only O60.out (Nat.le_refl _))
       clear H l X60 M60 Z60 O60 S60
       clear e0 e1 e2 e3 e4 e5
       obtain ⟨e0,e1,e2,e3,e4,e5,_,_,_,_,_,_⟩:=S61.out
       go_wp2_with fail
       exact ⟨⟨k + 1,by omega,by go_num,hid (X61.mono (by omega)),M61,Z61,S61,O61⟩,by simp [intOf]; omega⟩
      ·have g2 : ¬ ((k : Int) < (aF.length : Int)):=by omega
       have X44:=hX.out
       have M44:=hM
       have Z44:=hZ
       have S44:=hS
       have O44:=hO
       clear hX hM hZ hS hO
       have H:=hid (xs_u1 X44 (aD.length : Int) (by omega))
       go_wp2_with fail
       refine H.out.mono ?_
       rintro e w45 ⟨rfl,X45,l⟩
       have M45:=hid (M44.out.lo l (by simp))
       have Z45:=hid (Z44.out.lo l (by simp))
       have S45:=hid (S44.out.lo l (by simp))
       have O45:=hid (l.only O44.out (Nat.le_refl _))
       clear H l X44 M44 Z44 O44 S44
       clear e0 e1 e2 e3 e4 e5
       obtain ⟨e0,e1,e2,e3,e4,e5,_,_,_,_,_,_⟩:=S45.out
       go_wp2_with fail
       clear e0 e1 e2 e3 e4 e5
       have XX:=hid (X45.mono (show _≤1300000 + j * 900000 + 5000 + 0 * 513 by omega))
       clear X45
       go_loopw [10] (fun v wr=>∃ k : Nat,k≤aD.length∧v = .int .i64 (k : Int)∧Hid (XS wr w.heap.size y (1300000 + j * 900000 + 5000 + k * 513) (b :: [w.heap.size + 1,w.heap.size]))∧Hid (Mo2 wr w.heap.size (.slice po pl.length pc) (.slice (some ⟨dc0,off,none⟩) cl.length cc))∧Hid (B4 wr (w.heap.size + 1) (.int .i64 0) (.int .i64 0) (.int .i64 0) (.int .i64 0))∧Hid (Cl6 wr b (.int .i64 cf) (.string (str cn)) (.string (str cs)) (.slice fo aF.length fc) (.slice do_ aD.length dc) (.slice mo aM.length mc))∧Hid (Only [] w wr)) (fun v _=>aD.length - (intOf v).toNat)
       case atStart=>exact ⟨0,by omega,rfl,XX,M45,Z45,S45,O45⟩
       case round=>
        obtain ⟨k,hk,rfl,hX,hM,hZ,hS,hO⟩:=hrel
        clear XX M45 Z45 S45 O45
        obtain ⟨e0,e1,e2,e3,e4,e5,_,_,_,_,_,_⟩:=hS.out
        by_cases hkl : k < aD.length
        ·have g2 : ((k : Int) < (aD.length : Int)):=by omega
         obtain ⟨of1,rfl,s0,s1,s2,s3⟩:=fd_cells (r2.out.only0 hO.out) hkl
         have hfit:=hn4.out _ (List.getElem_mem hkl)
         have HT:=fun W=>rtypeText_any aD[k].2.2 hfit.2 W
         have htl:=ttR_len aD[k].2.2
         have RR:=hid (fun W (hW : Only [] w W)=>fd_cells (r2.out.only0 hW) hkl)
         generalize aD[k] = sx at *
         obtain ⟨xf,xn,xd,xt⟩:=sx
         simp only [tyV] at HT htl hfit s0 s1 s2 s3 RR
         generalize ttR (xd,xt) = tx at *
         replace HT:=hid HT
         have hf1:=hfit.1
         clear hfit
         have X60:=hX.out
         have M60:=hM
         have Z60:=hZ
         have S60:=hS
         have O60:=hO
         clear hX hM hZ hS hO
         go_wp2_with fail
         refine (HT.out _).mono ?_
         rintro e w61 ⟨rfl,o61⟩
         have X61:=X60.only0 o61
         have M61:=hid (M60.out.only o61 (by simp))
         have Z61:=hid (Z60.out.only o61 (by simp))
         have S61:=hid (S60.out.only o61 (by simp))
         have O61:=hid (O60.out.trans o61 (by simp))
         clear HT o61 X60 M60 Z60 S60 O60 e0 e1 e2 e3 e4 e5 s0 s1 s2 s3
         obtain ⟨e0,e1,e2,e3,e4,e5,_,_,_,_,_,_⟩:=S61.out
         obtain ⟨ofa,ea,s0,s1,s2,s3⟩:=RR.out _ O61.out
         simp only [Option.some.injEq,Addr.mk.injEq,true_and,and_true] at ea
         subst ea
         have H:=hid (xs_u1 X61 xf (by omega))
         go_wp2_with fail
         refine H.out.mono ?_
         rintro e w62 ⟨rfl,X62,l⟩
         have M62:=hid (M61.out.lo l (by simp))
         have Z62:=hid (Z61.out.lo l (by simp))
         have S62:=hid (S61.out.lo l (by simp))
         have O62:=hid (l.only O61.out (Nat.le_refl _))
         clear H l X61 M61 Z61 O61 S61
         clear e0 e1 e2 e3 e4 e5
         obtain ⟨e0,e1,e2,e3,e4,e5,_,_,_,_,_,_⟩:=S62.out
         clear s0 s1 s2 s3
         obtain ⟨ofa,ea,s0,s1,s2,s3⟩:=RR.out _ O62.out
         simp only [Option.some.injEq,Addr.mk.injEq,true_and,and_true] at ea
         subst ea
         have H:=hid (xs_text X62 xn hf1 (by omega))
         go_wp2_with fail
         refine H.out.mono ?_
         rintro e w63 ⟨rfl,X63,l⟩
         have M63:=hid (M62.out.lo l (by simp))
         have Z63:=hid (Z62.out.lo l (by simp))
         have S63:=hid (S62.out.lo l (by simp))
         have O63:=hid (l.only O62.out (Nat.le_refl _))
         clear H l X62 M62 Z62 O62 S62
         clear e0 e1 e2 e3 e4 e5
         obtain ⟨e0,e1,e2,e3,e4,e5,_,_,_,_,_,_⟩:=S63.out
         have H:=hid (xs_text X63 tx htl (by omega))
         go_wp2_with fail
         refine H.out.mono ?_
         rintro e w64 ⟨rfl,X64,l⟩
         have M64:=hid (M63.out.lo l (by simp))
         have Z64:=hid (Z63.out.lo l (by simp))
         have S64:=hid (S63.out.lo l (by simp))
         have O64:=hid (l.only O63.out (Nat.le_refl _))
         clear H l X63 M63 Z63 O63 S63
         clear e0 e1 e2 e3 e4 e5
         obtain ⟨e0,e1,e2,e3,e4,e5,_,_,_,_,_,_⟩:=S64.out
         go_wp2_with fail
         exact ⟨⟨k + 1,by omega,by go_num,hid (X64.mono (by omega)),M64,Z64,S64,O64⟩,by simp [intOf]; omega⟩
        ·have g2 : ¬ ((k : Int) < (aD.length : Int)):=by omega
         have X65:=hX.out
         have M65:=hM
         have Z65:=hZ
         have S65:=hS
         have O65:=hO
         clear hX hM hZ hS hO
         have H:=hid (xs_u1 X65 (aM.length : Int) (by omega))
         go_wp2_with fail
         refine H.out.mono ?_
         rintro e w66 ⟨rfl,X66,l⟩
         have M66:=hid (M65.out.lo l (by simp))
         have Z66:=hid (Z65.out.lo l (by simp))
         have S66:=hid (S65.out.lo l (by simp))
         have O66:=hid (l.only O65.out (Nat.le_refl _))
         clear H l X65 M65 Z65 O65 S65
         clear e0 e1 e2 e3 e4 e5
         obtain ⟨e0,e1,e2,e3,e4,e5,_,_,_,_,_,_⟩:=S66.out
         go_wp2_with fail
         clear e0 e1 e2 e3 e4 e5
         have XX:=hid (X66.mono (show _≤1300000 + j * 900000 + 40000 + 0 * 12000 by omega))
         clear X66
         go_loopw [13] (fun v wr=>∃ k : Nat,k≤aM.length∧v = .int .i64 (k : Int)∧Hid (XS wr w.heap.size y (1300000 + j * 900000 + 40000 + k * 12000) (b :: [w.heap.size + 1,w.heap.size]))∧Hid (Mo2 wr w.heap.size (.slice po pl.length pc) (.slice (some ⟨dc0,off,none⟩) cl.length cc))∧Hid (B4 wr (w.heap.size + 1) (.int .i64 0) (.int .i64 0) (.int .i64 0) (.int .i64 0))∧Hid (Cl6 wr b (.int .i64 cf) (.string (str cn)) (.string (str cs)) (.slice fo aF.length fc) (.slice do_ aD.length dc) (.slice mo aM.length mc))∧Hid (Only [] w wr)) (fun v _=>aM.length - (intOf v).toNat)
         case atStart=>exact ⟨0,by omega,rfl,XX,M66,Z66,S66,O66⟩
         case round=>
          obtain ⟨k,hk,rfl,hX,hM,hZ,hS,hO⟩:=hrel
          clear XX M66 Z66 S66 O66
          obtain ⟨e0,e1,e2,e3,e4,e5,_,_,_,_,_,_⟩:=hS.out
          by_cases hkl : k < aM.length
          ·have g2 : ((k : Int) < (aM.length : Int)):=by omega
           obtain ⟨of1,vp1,vc1,vh1,rfl,hm1,s0,s1,s2,s3,s4,s5,s6,s7,s8,s9⟩:=me_cells (r3.out.only0 hO.out) hEm.out hkl
           have H:=xs_written hX.out aM[k] (hn5.out _ (List.getElem_mem hkl)) (hn9.out _ (List.getElem_mem hkl)).code (hn9.out _ (List.getElem_mem hkl)).many (hm1.imp (slr_only hO.out (by simp))) (by omega)
           unfold meV at H
           replace H:=hid H
           clear hm1
           generalize aM[k] = sx at *
           go_wp2_with fail
           refine H.out.mono ?_
           rintro e w61 ⟨rfl,X61,l⟩
           have M61:=hid (hM.out.lo l (by simp))
           have Z61:=hid (hZ.out.lo l (by simp))
           have S61:=hid (hS.out.lo l (by simp))
           have O61:=hid (l.only hO.out (Nat.le_refl _))
           clear H l
           go_wp2_with fail
           exact ⟨⟨k + 1,by omega,by go_num,hid (X61.mono (by omega)),M61,Z61,S61,O61⟩,by simp [intOf]; omega⟩
          ·have g2 : ¬ ((k : Int) < (aM.length : Int)):=by omega
           have X86:=hX.out
           have M86:=hM
           have Z86:=hZ
           have S86:=hS
           have O86:=hO
           clear hX hM hZ hS hO
           go_wp2_with fail
           exact ⟨⟨j + 1,by omega,by go_num,hid ((X86.tail).mono (by omega)),M86,Z86,O86⟩,by simp [intOf]; omega⟩
    ·have g1 : ¬ ((j : Int) < (cl.length : Int)):=by omega
     obtain ⟨gg,ss,⟨wo,wc,xw,_⟩,_,_,_,_⟩:=hX.out
     have q0:=xw.c0
     clear xw hX
     obtain ⟨b0,b1,b2,b3,k0,k1,k2,k3⟩:=hZ.out
     by_cases hbig : 262144 < ss.1.length
     ·have gb : (262144 : Int) < (ss.1.length : Int):=by omega
      go_wp2_with fail
      obtain ⟨T,oT⟩:=hZ.out.put (.int .i64 0) (.int .i64 0) (.int .i64 0) (.int .i64 5)
      obtain ⟨d0,d1,d2,d3,_,_,_,_⟩:=T
      refine bodyPost_ret (v:=.tuple #[.slice none 0 0,.agg #[.int .i64 0,.int .i64 0,.int .i64 0,.int .i64 5]]) (by simp [results,Tryz.results35,go_sem,d0,d1,d2,d3]) rfl ?_
      exact ⟨_,_,_,(0,0,0,5),rfl,(hO.out).next oT (by simp)⟩
     ·have gb : ¬ (262144 : Int) < (ss.1.length : Int):=by omega
      go_wp2_with fail
      obtain ⟨T,oT⟩:=hZ.out.put (.int .i64 0) (.int .i64 0) (.int .i64 0) (.int .i64 0)
      obtain ⟨d0,d1,d2,d3,_,_,_,_⟩:=T
      refine bodyPost_ret (v:=.tuple #[.slice wo ss.1.length wc,.agg #[.int .i64 0,.int .i64 0,.int .i64 0,.int .i64 0]]) (by simp [results,Tryz.results35,go_sem,d0,d1,d2,d3]) rfl ?_
      exact ⟨_,_,_,(0,0,0,0),rfl,(hO.out).next oT (by simp)⟩

end Go.Proofs.YtildemmkhndhjaaGreatDoor
