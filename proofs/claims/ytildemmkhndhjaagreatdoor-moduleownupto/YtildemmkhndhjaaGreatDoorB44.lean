/-
  What the proof leans on, part 44 of 48. The conditions stand in each theorem.
-/
import Derived.Test.YtildemmkhndhjaaGreatDoorB37
import Derived.Test.YtildemmkhndhjaaGreatDoorB19
namespace Go.Proofs.YtildemmkhndhjaaGreatDoor
open Go.RowKit

set_option maxHeartbeats 8000000 in
set_option maxRecDepth 100000 in
theorem rcheck5_any {w : World} {P : Nat→Prop} (m : Mo) (hF : MoFit m) (hA : ∀ e∈m.pool,e.2.1.length≤1048576) (hps : ∀ c∈m.classes,∀ x∈c.methods,x.sig.1.length≤2000000) {vp vc : Value} (hM : MoAt (SlR w P) vp vc m) :
    Calls Tryz.prog 36 #[.agg #[vp,vc]] w fun e w'=>e = .returned (bpV (checkM m))∧Only [] w w':=by
  obtain ⟨hP0,ccs,hC0,hEl⟩:=hM
  obtain ⟨po,pc,rfl,lp⟩:=SlV.shape hP0
  obtain ⟨co,cc,rfl,lc⟩:=SlV.shape hC0
  obtain ⟨dp,rp⟩:=SlV.rs hP0
  obtain ⟨dc,rc⟩:=SlV.rs hC0
  obtain ⟨R,hR⟩ : ∃ R,R = checkM m:=⟨_,rfl⟩
  rw [← hR]
  unfold checkM at hR
  obtain ⟨pl,cl⟩:=m
  simp only at hR hP0 hC0 hEl lp lc rp rc hA hps ⊢
  have HK:=fun W (hW : Only [] w W)=>rcheckE_any (cap:=pc) (ES.of_rs (rp.only0 hW)) lp hA
  have HC:=fun W (hW : Only [] w W) (c : Cl) (hc : c∈cl) vf vd vm (hat : ClAt (SlR w P) vf vd vm c)=>rclass5_any (P:=P) (Q:=P) pl (SlV.only hP0 hW (by simp)) hA c (hF.classes c hc) (hps c hc) (hat.only0 hW)
  clear hP0 hC0 hF hA hps
  generalize checkE pl = ck at *
  obtain ⟨ca,ce⟩:=ck
  simp only at hR HK
  replace HK:=hid HK
  replace HC:=hid HC
  replace hR:=hid hR
  replace hEl:=hid hEl
  replace rc:=hid rc
  clear rp
  have o1:=((Only.refl [] w).alloc (.cells #[.slice po pl.length pc,.slice co cl.length cc] 32)).alloc (.cells #[.int .i64 0,.int .i64 0,.int .i64 0,.int .i64 0] 54)
  have S1:=hid ((mo2_new w (.slice po pl.length pc) (.slice co cl.length cc) 32).only ((Only.refl [] _).alloc (.cells #[.int .i64 0,.int .i64 0,.int .i64 0,.int .i64 0] 54)) (by simp))
  have B1:=b4_new (w.alloc (.cells #[.slice po pl.length pc,.slice co cl.length cc] 32)) (.int .i64 0) (.int .i64 0) (.int .i64 0) (.int .i64 0) 54
  rw [World.size_alloc] at B1
  replace B1:=hid B1
  obtain ⟨c0,c1,_,_⟩:=S1.out
  obtain ⟨b0,b1,b2,b3,k0,k1,k2,k3⟩:=B1.out
  by_cases hz : ce = 0
  case neg=>
    have hRR : R = (0,0,ca,ce):=by
      rw [hR.out,if_neg hz]
      exact orE_left hz
    subst hRR
    have n1 : (ce != 0) = true:=by simpa using hz
    have m1 : (ce == 0) = false:=by simpa using hz
    clear hR HC
    go_enter Tryz.func36,Tryz.ntmps36
    go_wp2_with fail
    refine (HK.out _ o1).mono ?_
    rintro e w3 ⟨rfl,o3⟩
    have B3:=hid (B1.out.only o3 (by simp))
    clear b0 b1 b2 b3 k0 k1 k2 k3
    obtain ⟨b0,b1,b2,b3,k0,k1,k2,k3⟩:=B3.out
    clear HK
    go_wp2_with fail
    obtain ⟨T,oT⟩:=B3.out.put (.int .i64 0) (.int .i64 0) (.int .i64 ca) (.int .i64 ce)
    obtain ⟨d0,d1,d2,d3,_,_,_,_⟩:=T
    refine bodyPost_ret (v:=.agg #[.int .i64 0,.int .i64 0,.int .i64 ca,.int .i64 ce]) (by simp [results,Tryz.results36,go_sem,d0,d1,d2,d3]) rfl ?_
    exact ⟨rfl,(o1.trans o3 (by simp)).next oT (by simp)⟩
  subst hz
  have hR1 : Hid (R = if 64 < cl.length then (0,0,0,4) else orE (classesE pl 0 cl) (twiceE [] cl)):=by
    unfold Hid
    rw [hR.out,orE_right rfl]
  clear hR
  by_cases hmn : 64 < cl.length
  · have gm : (64 : Int) < (cl.length : Int):=by omega
    have hRR : R = (0,0,0,4):=by rw [hR1.out,if_pos hmn]
    subst hRR
    clear hR1 HC
    go_enter Tryz.func36,Tryz.ntmps36
    go_wp2_with fail
    refine (HK.out _ o1).mono ?_
    rintro e w3 ⟨rfl,o3⟩
    have S3:=hid (S1.out.only o3 (by simp))
    have B3:=hid (B1.out.only o3 (by simp))
    clear c0 c1 b0 b1 b2 b3 k0 k1 k2 k3
    obtain ⟨c0,c1,_,_⟩:=S3.out
    obtain ⟨b0,b1,b2,b3,k0,k1,k2,k3⟩:=B3.out
    clear HK
    go_wp2_with fail
    obtain ⟨T,oT⟩:=B3.out.put (.int .i64 0) (.int .i64 0) (.int .i64 0) (.int .i64 4)
    obtain ⟨d0,d1,d2,d3,_,_,_,_⟩:=T
    refine bodyPost_ret (v:=.agg #[.int .i64 0,.int .i64 0,.int .i64 0,.int .i64 4]) (by simp [results,Tryz.results36,go_sem,d0,d1,d2,d3]) rfl ?_
    exact ⟨rfl,(o1.trans o3 (by simp)).next oT (by simp)⟩
  have gm : ¬ (64 : Int) < (cl.length : Int):=by omega
  have hR2 : Hid (R = orE (classesE pl 0 (cl.drop 0)) (twiceE [] cl)):=by
    unfold Hid
    rw [hR1.out,if_neg hmn]
    rfl
  clear hR1 hmn
  go_enter Tryz.func36,Tryz.ntmps36
  go_wp2_with fail
  refine (HK.out _ o1).mono ?_
  rintro e w3 ⟨rfl,o3⟩
  have S3:=hid (S1.out.only o3 (by simp))
  have B3:=hid (B1.out.only o3 (by simp))
  have oo3:=hid (o1.trans o3 (by simp))
  clear HK S1 B1 o1 o3 c0 c1 b0 b1 b2 b3 k0 k1 k2 k3
  obtain ⟨c0,c1,_,_⟩:=S3.out
  go_wp2_with fail
  clear c0 c1
  go_loopw [5] (fun v wr=>∃ j : Nat,j≤cl.length∧v = .int .i64 (j : Int)∧Hid (R = orE (classesE pl j (cl.drop j)) (twiceE [] cl))∧Hid (Mo2 wr w.heap.size (.slice po pl.length pc) (.slice co cl.length cc))∧Hid (B4 wr (w.heap.size + 1) (.int .i64 0) (.int .i64 0) (.int .i64 0) (.int .i64 0))∧Hid (Only [] w wr)) (fun v _=>cl.length - (intOf v).toNat)
  case atStart=>exact ⟨0,by omega,rfl,hR2,S3,B3,oo3⟩
  case round=>
    obtain ⟨j,hj,rfl,hq,hS,hB,hor⟩:=hrel
    clear S3 B3 oo3 hR2
    obtain ⟨c0,c1,_,_⟩:=hS.out
    by_cases hlt : j < cl.length
    · have g1 : ((j : Int) < (cl.length : Int)):=by omega
      obtain ⟨off,vf,vd,vm,rfl,hat,y0,y1,y2,y3,y4,y5⟩:=cl_cells (rc.out.only0 hor.out) hEl.out hlt
      have HK:=fun W (hW : Only [] wr W)=>HC.out W (hor.out.trans hW (by simp)) cl[j] (List.getElem_mem hlt) vf vd vm hat
      clear hat
      have hq2:=hq.out
      rw [classesE_drop pl cl j hlt] at hq2
      unfold clV at HK
      clear hq
      generalize classE pl cl[j] = x at *
      generalize cl[j] = c at *
      obtain ⟨x0,x1,x2,x3⟩:=x
      obtain ⟨cf,cn,cs,aF,aD,aM⟩:=c
      simp only [bpV] at HK hq2 y0 y1 y2
      replace HK:=hid HK
      replace hq2:=hid hq2
      have z0:=fun o=>cell_alloc o y0
      have z1:=fun o=>cell_alloc o y1
      have z2:=fun o=>cell_alloc o y2
      have z3:=fun o=>cell_alloc o y3
      have z4:=fun o=>cell_alloc o y4
      have z5:=fun o=>cell_alloc o y5
      have zc0:=fun o=>cell_alloc o c0
      have zc1:=fun o=>cell_alloc o c1
      go_wp2_with fail
      go_region_with (go_at_call 95; refine (HK.out _ ?_).mono ?_; (first | (exact (Only.refl [] _).drew) | (exact (Only.refl [] _).drew.alloc _) | (exact ((Only.refl [] _).alloc _).drew)); rintro e w4 ⟨rfl,o4⟩; have oW : Only [] wr w4:=(by first | (exact (Only.refl [] _).drew.trans o4 (by simp)) | (exact ((Only.refl [] _).drew.alloc _).trans o4 (by simp)) | (exact ((Only.refl [] _).alloc _).drew.trans o4 (by simp))); (first | (have tt : B4 w4 wr.heap.size (.int .i64 0) (.int .i64 0) (.int .i64 0) (.int .i64 0):=(b4_new wr.drew (.int .i64 0) (.int .i64 0) (.int .i64 0) (.int .i64 0) 54).only o4 (by simp); obtain ⟨t0,t1,t2,t3,u0,u1,u2,u3⟩:=tt) | skip))
      all_goals
        have hbl:=World.block_lt_of_cell? wr _ hB.out.c0
        have hsz:=oW.size
        first
        | (have T9:=hid ((B4.mk t0 t1 t2 t3 u0 u1 u2 u3).put (.int .i64 x0) (.int .i64 x1) (.int .i64 x2) (.int .i64 x3)).1
           have o9:=hid (oW.next ((B4.mk t0 t1 t2 t3 u0 u1 u2 u3).put (.int .i64 x0) (.int .i64 x1) (.int .i64 x2) (.int .i64 x3)).2 (by simp))
           have hp9 : w.heap.size + 1 < wr.heap.size:=hbl
           clear t0 t1 t2 t3 u0 u1 u2 u3
           have M9:=hid (hS.out.only o9.out (by simp))
           have Z9:=hid (hB.out.only o9.out (by simp))
           have O9:=hid (hor.out.trans o9.out (by simp))
           clear o9 o4 oW hbl hsz hS hB hor z0 z1 z2 z3 z4 z5 zc0 zc1 y0 y1 y2 y3 y4 y5 c0 c1
           generalize (((w4.setCell ⟨wr.heap.size,0,none⟩ (.int .i64 x0)).setCell ⟨wr.heap.size,1,none⟩ (.int .i64 x1)).setCell ⟨wr.heap.size,2,none⟩ (.int .i64 x2)).setCell ⟨wr.heap.size,3,none⟩ (.int .i64 x3) = W9 at *
           generalize wr.heap.size = p9 at *)
        | (have T9:=hid (b4_new w4 (.int .i64 x0) (.int .i64 x1) (.int .i64 x2) (.int .i64 x3) 54)
           have o9:=hid (oW.alloc (.cells #[.int .i64 x0,.int .i64 x1,.int .i64 x2,.int .i64 x3] 54))
           have hp9 : w.heap.size + 1 < w4.heap.size:=Nat.lt_of_lt_of_le hbl hsz
           have M9:=hid (hS.out.only o9.out (by simp))
           have Z9:=hid (hB.out.only o9.out (by simp))
           have O9:=hid (hor.out.trans o9.out (by simp))
           clear o9 o4 oW hbl hsz hS hB hor z0 z1 z2 z3 z4 z5 zc0 zc1 y0 y1 y2 y3 y4 y5 c0 c1
           generalize w4.alloc (.cells #[.int .i64 x0,.int .i64 x1,.int .i64 x2,.int .i64 x3] 54) = W9 at *
           generalize w4.heap.size = p9 at *)
        obtain ⟨c0,c1,_,_⟩:=M9.out
        by_cases hx : x3 = 0
        · subst hx
          obtain ⟨t0,t1,t2,t3,u0,u1,u2,u3⟩:=T9.out
          have hq3 : Hid (R = orE (classesE pl (j + 1) (cl.drop (j + 1))) (twiceE [] cl)):=by
            unfold Hid
            rw [hq2.out,if_pos rfl]
          clear hq2 HK
          go_wp2_with fail
          exact ⟨⟨j + 1,by omega,by go_num,hq3,M9,Z9,O9⟩,by simp [intOf]; omega⟩
        · have hRR : R = ((j : Int),x1,x2,x3):=by
            rw [hq2.out,if_neg hx]
            exact orE_left hx
          subst hRR
          have n1 : (x3 != 0) = true:=by simpa using hx
          have m1 : (x3 == 0) = false:=by simpa using hx
          have Z10:=hid (Z9.out.only ((Only.refl [p9] W9).setCell (p:=⟨p9,0,none⟩) (.inl (by simp)) (.int .i64 (j : Int))) (by simp; omega))
          have O10:=hid (O9.out.next ((Only.refl [p9] W9).setCell (p:=⟨p9,0,none⟩) (.inl (by simp)) (.int .i64 (j : Int))) (by simp; omega))
          have T10:=T9.out.put0 (.int .i64 (j : Int))
          obtain ⟨t0,t1,t2,t3,u0,u1,u2,u3⟩:=T9.out
          obtain ⟨v0,v1,v2,v3,_,_,_,_⟩:=T10
          obtain ⟨b0,b1,b2,b3,k0,k1,k2,k3⟩:=Z10.out
          clear hq2 HK
          go_wp2_with fail
          obtain ⟨T,oT⟩:=Z10.out.put (.int .i64 (j : Int)) (.int .i64 x1) (.int .i64 x2) (.int .i64 x3)
          obtain ⟨d0,d1,d2,d3,_,_,_,_⟩:=T
          refine bodyPost_ret (v:=.agg #[.int .i64 (j : Int),.int .i64 x1,.int .i64 x2,.int .i64 x3]) (by simp [results,Tryz.results36,go_sem,d0,d1,d2,d3]) rfl ?_
          exact ⟨rfl,(O10.out).next oT (by simp)⟩
    · have g1 : ¬ ((j : Int) < (cl.length : Int)):=by omega
      have hR3 : Hid (R = twiceE (cl.take 0) (cl.drop 0)):=by
        have h0:=hq.out
        rw [List.drop_of_length_le (by omega)] at h0
        unfold Hid
        rw [h0]
        exact orE_right rfl
      have S3:=hS
      have B3:=hB
      have oo3:=hor
      clear hq hS hB hor HC
      go_wp2_with fail
      clear c0 c1 g1 hj
      go_loopw [7] (fun v wr=>∃ j : Nat,j≤cl.length∧v = .int .i64 (j : Int)∧Hid (R = twiceE (cl.take j) (cl.drop j))∧Hid (Mo2 wr w.heap.size (.slice po pl.length pc) (.slice co cl.length cc))∧Hid (B4 wr (w.heap.size + 1) (.int .i64 0) (.int .i64 0) (.int .i64 0) (.int .i64 0))∧Hid (Only [] w wr)) (fun v _=>cl.length - (intOf v).toNat)
      case atStart=>exact ⟨0,by omega,rfl,hR3,S3,B3,oo3⟩
      case round=>
        obtain ⟨j,hj,rfl,hq,hS,hB,hor⟩:=hrel
        clear S3 B3 oo3 hR3
        obtain ⟨c0,c1,_,_⟩:=hS.out
        by_cases hlt : j < cl.length
        · have g1 : ((j : Int) < (cl.length : Int)):=by omega
          have hdr:=hq.out
          rw [twiceE_drop cl j hlt] at hdr
          replace hdr:=hid hdr
          have S4:=hS
          have B4':=hB
          have oo4:=hor
          clear hq hS hB hor
          go_wp2_with fail
          clear c0 c1
          go_loopw [8] (fun v wr=>∃ k : Nat,k≤j∧v = .int .i64 (k : Int)∧Hid (∀ i (hi : i < cl.length),i < k→decide (cl[i].name = cl[j].name) = false)∧Hid (Mo2 wr w.heap.size (.slice po pl.length pc) (.slice co cl.length cc))∧Hid (B4 wr (w.heap.size + 1) (.int .i64 0) (.int .i64 0) (.int .i64 0) (.int .i64 0))∧Hid (Only [] w wr)) (fun v _=>j - (intOf v).toNat)
          case atStart=>exact ⟨0,by omega,rfl,hid (fun i hi h=>by omega),S4,B4',oo4⟩
          case round=>
            obtain ⟨k,hk,rfl,hno,hS,hB,hor⟩:=hrel
            clear S4 B4' oo4
            obtain ⟨c0,c1,_,_⟩:=hS.out
            by_cases hkl : k < j
            · have g2 : ((k : Int) < (j : Int)):=by omega
              have hkc : k < cl.length:=by omega
              have g3 : ((k : Int) < (cl.length : Int)):=by omega
              obtain ⟨off,vf,vd,vm,rfl,_,_,y1,_,_,_,_⟩:=cl_cells (rc.out.only0 hor.out) hEl.out hkc
              obtain ⟨off2,vf2,vd2,vm2,e2,_,_,z1,_,_,_,_⟩:=cl_cells (rc.out.only0 hor.out) hEl.out hlt
              simp only [Option.some.injEq,Addr.mk.injEq,true_and,and_true] at e2
              subst e2
              by_cases hnn : cl[k].name = cl[j].name
              · have hRR : R = ((j : Int),0,0,20):=by
                  rw [hdr.out,if_pos (any_true_take hkc hkl (by simpa using hnn))]
                subst hRR
                obtain ⟨b0,b1,b2,b3,k0,k1,k2,k3⟩:=hB.out
                rw [hnn] at y1
                generalize cl[j].name = nj at *
                clear hdr hno hnn
                go_wp2_with fail
                go_region
                go_wp2_with fail
                obtain ⟨T,oT⟩:=hB.out.put (.int .i64 (j : Int)) (.int .i64 0) (.int .i64 0) (.int .i64 20)
                obtain ⟨d0,d1,d2,d3,_,_,_,_⟩:=T
                refine bodyPost_ret (v:=.agg #[.int .i64 (j : Int),.int .i64 0,.int .i64 0,.int .i64 20]) (by simp [results,Tryz.results36,go_sem,d0,d1,d2,d3]) rfl ?_
                exact ⟨rfl,(hor.out.next oT (by simp)).drew⟩
              · have hno2 : Hid (∀ i (hi : i < cl.length),i < k + 1→decide (cl[i].name = cl[j].name) = false):=by
                  intro i hi h
                  by_cases e : i = k
                  · subst e; simpa using hnn
                  · exact hno.out i hi (by omega)
                have p1 : ¬ ((str cl[k].name).toList = (str cl[j].name).toList):=by rw [str_toList,str_toList]; exact hnn
                have q1 : ((str cl[k].name).toList == (str cl[j].name).toList) = false:=by simpa using p1
                replace hdr:=hid hdr
                generalize hgj : cl[j].name = nj at *
                generalize cl[k].name = nk at *
                replace hgj:=hid hgj
                clear hno hnn
                go_wp2_with fail
                go_region
                go_wp2
                exact ⟨⟨k + 1,by omega,by go_num,hno2,hid (hS.out.only (Only.refl [] _).drew (by simp)),hid (hB.out.only (Only.refl [] _).drew (by simp)),hid hor.out.drew⟩,by simp [intOf]; omega⟩
            · have g2 : ¬ ((k : Int) < (j : Int)):=by omega
              have hq2 : Hid (R = twiceE (cl.take (j + 1)) (cl.drop (j + 1))):=by
                obtain rfl : k = j:=by omega
                unfold Hid
                rw [hdr.out,if_neg]
                rw [any_false_take hno.out]
                simp
              clear hno hdr
              go_wp2_with fail
              exact ⟨⟨j + 1,by omega,by go_num,hq2,hS,hB,hor⟩,by simp [intOf]; omega⟩
        · have g1 : ¬ ((j : Int) < (cl.length : Int)):=by omega
          have hRR : R = ok4:=by
            rw [hq.out,List.drop_of_length_le (by omega)]
            rfl
          obtain rfl:=hRR
          clear hq
          obtain ⟨b0,b1,b2,b3,k0,k1,k2,k3⟩:=hB.out
          go_wp2_with fail
          obtain ⟨T,oT⟩:=hB.out.put (.int .i64 0) (.int .i64 0) (.int .i64 0) (.int .i64 0)
          obtain ⟨d0,d1,d2,d3,_,_,_,_⟩:=T
          refine bodyPost_ret (v:=.agg #[.int .i64 0,.int .i64 0,.int .i64 0,.int .i64 0]) (by simp [results,Tryz.results36,go_sem,d0,d1,d2,d3]) rfl ?_
          exact ⟨rfl,(hor.out).next oT (by simp)⟩

end Go.Proofs.YtildemmkhndhjaaGreatDoor
