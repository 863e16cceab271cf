/-
  What the proof leans on, part 39 of 48. The conditions stand in each theorem.
-/
import Derived.Test.YtildemmkhndhjaaGreatDoorB38
namespace Go.Proofs.YtildemmkhndhjaaGreatDoor
open Go.RowKit

def SpPost (w : World) (Z : Nat→Prop) (r : Ending) (w' : World) : Prop:=r = .returned (.tuple #[])∧∃ S,Only S w w'∧∀ x,x∈S→Z x

set_option maxHeartbeats 16000000 in
set_option maxRecDepth 100000 in
theorem spoil_any {w : World} {Z0 : Nat→Prop} {po co : Option Addr} {np pc nC cc : Nat} (hP : OX w Z0 5000 90 6 (.slice po np pc)) (hC : RowC w Z0 5000 (.slice co nC cc)) (hnC : nC≤64) (hnP : np≤5000) (hZ0 : ∀ x,w.heap.size≤x→Z0 x) :
  Calls Tryz.prog 17 #[.agg #[.slice po np pc,.slice co nC cc]] w (SpPost w Z0):=by
 obtain ⟨Z,hZd⟩ : ∃ Z : Nat→Prop,Z = fun d=>Z0 d∧d≠w.heap.size:=⟨_,rfl⟩
 have hsub : Hid (∀ d,Z d→Z0 d):=fun d hd=>by rw [hZd] at hd; exact hd.1
 have hb : ¬ Z w.heap.size:=by rw [hZd]; simp
 have hZ : ∀ x,w.heap.size + 1≤x→Z x:=fun x hx=>by rw [hZd]; exact ⟨hZ0 x (by omega),by omega⟩
 have oA:=(Only.refl [] w).alloc (.cells #[.slice po np pc,.slice co nC cc] 32)
 have up : ∀ {e : TypeId} {k n : Nat} {v : Value} {xs : List Value},OwR w 0 Z0 e k v n xs→OwR w 0 Z e k v n xs:=fun {e k n v xs} h=>⟨h.1,fun g hg=>by
  rw [hZd]
  exact ⟨h.2 g hg,by have:=(h.1.lt g hg).2; omega⟩⟩
 have upX : ∀ {N : Nat} {e : TypeId} {k : Nat} {v : Value},OX w Z0 N e k v→OX w Z N e k v:=fun {N e k v} ⟨n,xs,h,hn⟩=>⟨n,xs,up h,hn⟩
 have upM : ∀ {N : Nat} {v : Value},RowM w Z0 N v→RowM w Z N v:=fun {N v} ⟨n,xs,h,hn,hf⟩=>⟨n,xs,up h,hn,fun q u hq=>by
  have:=hf q u hq
  unfold MeF at this ⊢
  repeat' split
  all_goals simp_all⟩
 have upC : RowC w Z 5000 (.slice co nC cc):=by
  obtain ⟨n,xs,h,hn,hf⟩:=hC
  refine ⟨n,xs,up h,hn,fun q u hq=>?_⟩
  have:=hf q u hq
  unfold ClF at this ⊢
  repeat' split
  all_goals simp_all
 have I0 : Hid (SpI (w.alloc (.cells #[.slice po np pc,.slice co nC cc] 32)) Z w.heap.size (.slice po np pc) (.slice co nC cc) 5000 (w.alloc (.cells #[.slice po np pc,.slice co nC cc] 32))):=
  ⟨⟨[],Only.refl _ _,by simp⟩,(tp_only0 (M:=5000) oA).ox 5000 (Nat.le_refl _) _ _ _ (upX hP),(tp_only0 (M:=5000) oA).rc 5000 (Nat.le_refl _) _ upC,mo2_new _ _ _ _⟩
 obtain ⟨W,hW⟩ : ∃ W,W = w.alloc (.cells #[.slice po np pc,.slice co nC cc] 32):=⟨_,rfl⟩
 have hWs : W.heap.size = w.heap.size + 1:=by rw [hW]; simp
 have hWo:=hid (show Only [] w W by rw [hW]; exact oA)
 rw [← hW] at I0
 clear upX upM upC up hP hC oA hZ0 hZd
 replace hW:=hid hW
 have hZ1 : Hid (∀ x,W.heap.size≤x→Z x):=fun x hx=>hZ x (by omega)
 clear hZ
 replace hb:=hid hb
 obtain ⟨bb,hbb⟩ : ∃ bb,bb = w.heap.size:=⟨_,rfl⟩
 rw [← hbb] at I0 hb
 replace hbb:=hid hbb
 clear hWs
 go_enter Tryz.func17,Tryz.ntmps17
 obtain ⟨m0,m1,_,_⟩:=I0.out.box
 rw [hW.out,hbb.out] at m0 m1
 go_wp2_with fail
 rw [← hW.out,← hbb.out]
 clear m0 m1
 go_loopw [2] (fun v wr=>∃ j : Nat,j≤np∧v = .int .i64 (j : Int)∧Hid (SpI W Z bb (.slice po np pc) (.slice co nC cc) 5000 wr)) (fun v _=>np - (intOf v).toNat)
 case atStart=>exact ⟨0,by omega,rfl,I0⟩
 case round=>
  obtain ⟨j,hj,rfl,hI⟩:=hrel
  clear I0
  obtain ⟨m0,m1,_,_⟩:=hI.out.box
  by_cases hlt : j < np
  ·have g1 : ((j : Int) < (np : Int)):=by omega
   obtain ⟨xs,hr,_⟩:=hI.out.pool.at_
   obtain ⟨g,rfl,_,_,hsp⟩:=own_spot hr hlt
   obtain ⟨u0,_,a0,f0⟩:=hsp 0 (by decide)
   obtain ⟨u1,_,a1,f1⟩:=hsp 1 (by decide)
   obtain ⟨u2,_,a2,f2⟩:=hsp 2 (by decide)
   obtain ⟨u3,_,a3,f3⟩:=hsp 3 (by decide)
   obtain ⟨u4,_,a4,f4⟩:=hsp 4 (by decide)
   obtain ⟨u5,_,a5,f5⟩:=hsp 5 (by decide)
   rw [Nat.add_zero] at a0 f0
   have hn:=hid (hI.out.step hb.out (tp_free (M:=5000) (o:=j * 6) (ys:=[.int .i64 77,.string ⟨#[]⟩,.int .i64 0,.int .i64 0,.int .i64 0,.int .i64 0]) hr (by decide) (by decide)) (Nat.le_refl _))
   clear hsp hr hI
   go_wp2_with fail
   exact ⟨⟨j + 1,by omega,by go_num,hn⟩,by simp [intOf]; omega⟩
  ·have g1 : ¬ ((j : Int) < (np : Int)):=by omega
   go_wp2_with fail
   have I1 : Hid (SpI W Z bb (.slice po np pc) (.slice co nC cc) (5000 + 0 * 110000) wr):=by simpa using hI
   clear hI m0 m1 g1 hj
   go_loopw [3] (fun v wr=>∃ i : Nat,i≤nC∧v = .int .i64 (i : Int)∧Hid (SpI W Z bb (.slice po np pc) (.slice co nC cc) (5000 + i * 110000) wr)) (fun v _=>nC - (intOf v).toNat)
   case atStart=>exact ⟨0,by omega,rfl,I1⟩
   case round=>
    obtain ⟨i,hi,rfl,hI⟩:=hrel
    clear I1
    obtain ⟨m0,m1,_,_⟩:=hI.out.box
    by_cases hlt : i < nC
    ·have g1 : ((i : Int) < (nC : Int)):=by omega
     obtain ⟨xs,hr,_,hf⟩:=hI.out.cls.at_
     obtain ⟨gC,rfl,_,_,hsp⟩:=own_spot hr hlt
     obtain ⟨vf,x3,a3,f3⟩:=hsp 3 (by decide)
     obtain ⟨vd,x4,a4,f4⟩:=hsp 4 (by decide)
     obtain ⟨vm,x5,a5,f5⟩:=hsp 5 (by decide)
     have t3:=hf _ _ x3
     have t4:=hf _ _ x4
     have t5:=hf _ _ x5
     rw [show (i * 6 + 3) % 6 = 3 by omega] at t3
     rw [show (i * 6 + 4) % 6 = 4 by omega] at t4
     rw [show (i * 6 + 5) % 6 = 5 by omega] at t5
     replace t3 : OX wr Z (5000 + i * 110000) 9 1 vf:=by simpa [ClF] using t3
     replace t4 : OX wr Z (5000 + i * 110000) 44 4 vd:=by simpa [ClF] using t4
     replace t5 : RowM wr Z (5000 + i * 110000) vm:=by simpa [ClF] using t5
     obtain ⟨fo,nf,fc,_,rfl,_,_⟩:=t3.open_
     obtain ⟨do_,nd,dc,_,rfl,_,_⟩:=t4.open_
     obtain ⟨mo,nm,mc,rfl⟩:=t5.open_
     obtain ⟨_,_,hnm,_⟩:=t5.at_
     have A0 : Hid (AC W Z bb (.slice po np pc) gC nC cc i (.slice fo nf fc) (.slice do_ nd dc) (.slice mo nm mc) (5000 + i * 110000) wr):=⟨hI.out,⟨⟨a3,a4,a5,f3,f4,f5⟩,t3,t4,t5⟩⟩
     clear hsp hr hf x3 x4 x5 t3 t4 t5 hI
     go_wp2_with fail
     clear m0 m1 a3 a4 a5 f3 f4 f5
     go_loopw [5] (fun v wr=>∃ k : Nat,k≤nm∧v = .int .i64 (k : Int)∧Hid (AC W Z bb (.slice po np pc) gC nC cc i (.slice fo nf fc) (.slice do_ nd dc) (.slice mo nm mc) (5000 + i * 110000 + k * 20) wr)) (fun v _=>nm - (intOf v).toNat)
     case atStart=>exact ⟨0,by omega,rfl,by simpa using A0⟩
     case round=>
      obtain ⟨k,hk,rfl,hA⟩:=hrel
      clear A0
      obtain ⟨a3,a4,a5,_,_,_⟩:=hA.out.C.q
      by_cases hkm : k < nm
      ·have g2 : ((k : Int) < (nm : Int)):=by omega
       obtain ⟨xs,hr,_,hf⟩:=hA.out.C.m.at_
       obtain ⟨gm,rfl,_,_,hsp⟩:=own_spot hr hkm
       obtain ⟨sp,x3,b2,h2⟩:=hsp 2 (by decide)
       obtain ⟨sc,x4,b8,h8⟩:=hsp 8 (by decide)
       obtain ⟨sh,x5,b9,h9⟩:=hsp 9 (by decide)
       have t3:=hf _ _ x3
       have t4:=hf _ _ x4
       have t5:=hf _ _ x5
       rw [show (k * 10 + 2) % 10 = 2 by omega] at t3
       rw [show (k * 10 + 8) % 10 = 8 by omega] at t4
       rw [show (k * 10 + 9) % 10 = 9 by omega] at t5
       replace t3 : OX wr Z (5000 + i * 110000 + k * 20) 35 2 sp:=by simpa [MeF] using t3
       replace t4 : OX wr Z (5000 + i * 110000 + k * 20) 5 1 sc:=by simpa [MeF] using t4
       replace t5 : OX wr Z (5000 + i * 110000 + k * 20) 46 4 sh:=by simpa [MeF] using t5
       obtain ⟨xo,nx,xc,_,rfl,_,_⟩:=t3.open_
       obtain ⟨yo,ny,yc,_,rfl,_,_⟩:=t4.open_
       obtain ⟨zo,nz,zc,_,rfl,_,_⟩:=t5.open_
       have B0 : Hid (AM W Z bb (.slice po np pc) gC nC cc i (.slice fo nf fc) (.slice do_ nd dc) gm nm mc k (.slice xo nx xc) (.slice yo ny yc) (.slice zo nz zc) (5000 + i * 110000 + k * 20) wr):=⟨hA.out,⟨⟨b2,b8,b9,h2,h8,h9⟩,t3,t4,t5⟩⟩
       clear hsp hr hf x3 x4 x5 t3 t4 t5 hA
       go_wp2_with fail
       clear a3 a4 a5 b2 b8 b9 h2 h8 h9
       go_loopw [7] (fun v wr=>∃ j : Nat,j≤ny∧v = .int .i64 (j : Int)∧Hid (AM W Z bb (.slice po np pc) gC nC cc i (.slice fo nf fc) (.slice do_ nd dc) gm nm mc k (.slice xo nx xc) (.slice yo ny yc) (.slice zo nz zc) (5000 + i * 110000 + k * 20) wr)) (fun v _=>ny - (intOf v).toNat)
       case atStart=>exact ⟨0,by omega,rfl,B0⟩
       case round=>
        obtain ⟨j,hj,rfl,hB⟩:=hrel
        clear B0
        obtain ⟨b2,b8,b9,_,_,_⟩:=hB.out.M.q
        by_cases hjl : j < ny
        ·have g3 : ((j : Int) < (ny : Int)):=by omega
         obtain ⟨xs,hr,_⟩:=hB.out.M.c.at_
         obtain ⟨gx,rfl,_,_,hsp⟩:=own_spot hr hjl
         obtain ⟨u0,_,d0,e0⟩:=hsp 0 (by decide)
         rw [Nat.mul_one,Nat.add_zero] at d0 e0
         have hn:=hid (hB.out.free hb.out hr.1 (by decide) (by decide) (tp_free (M:=0) (o:=j) (ys:=[.int .u8 238]) hr (by decide) (by decide)) (Nat.zero_le _) (cells_only gx _ _ _))
         clear hsp hr hB
         go_wp2_with fail
         exact ⟨⟨j + 1,by omega,by go_num,hn⟩,by simp [intOf]; omega⟩
        ·have g3 : ¬ ((j : Int) < (ny : Int)):=by omega
         go_wp2_with fail
         have B7:=hB
         clear hB b2 b8 b9 g3 hj
         go_loopw [8] (fun v wr=>∃ j : Nat,j≤nx∧v = .int .i64 (j : Int)∧Hid (AM W Z bb (.slice po np pc) gC nC cc i (.slice fo nf fc) (.slice do_ nd dc) gm nm mc k (.slice xo nx xc) (.slice yo ny yc) (.slice zo nz zc) (5000 + i * 110000 + k * 20) wr)) (fun v _=>nx - (intOf v).toNat)
         case atStart=>exact ⟨0,by omega,rfl,B7⟩
         case round=>
          obtain ⟨j,hj,rfl,hB⟩:=hrel
          clear B7
          obtain ⟨b2,b8,b9,_,_,_⟩:=hB.out.M.q
          by_cases hjl : j < nx
          ·have g3 : ((j : Int) < (nx : Int)):=by omega
           obtain ⟨xs,hr,_⟩:=hB.out.M.p.at_
           obtain ⟨gx,rfl,_,_,hsp⟩:=own_spot hr hjl
           obtain ⟨u0,_,d0,e0⟩:=hsp 0 (by decide)
           obtain ⟨u1,_,d1,e1⟩:=hsp 1 (by decide)
           rw [Nat.add_zero] at d0 e0
           have hn:=hid (hB.out.free hb.out hr.1 (by decide) (by decide) (tp_free (M:=0) (o:=j * 2) (ys:=[.int .i64 9,.string ⟨#[]⟩]) hr (by decide) (by decide)) (Nat.zero_le _) (cells_only gx _ _ _))
           clear hsp hr hB
           go_wp2_with fail
           exact ⟨⟨j + 1,by omega,by go_num,hn⟩,by simp [intOf]; omega⟩
          ·have g3 : ¬ ((j : Int) < (nx : Int)):=by omega
           go_wp2_with fail
           have B8:=hB
           clear hB b2 b8 b9 g3 hj
           go_loopw [9] (fun v wr=>∃ j : Nat,j≤nz∧v = .int .i64 (j : Int)∧Hid (AM W Z bb (.slice po np pc) gC nC cc i (.slice fo nf fc) (.slice do_ nd dc) gm nm mc k (.slice xo nx xc) (.slice yo ny yc) (.slice zo nz zc) (5000 + i * 110000 + k * 20) wr)) (fun v _=>nz - (intOf v).toNat)
           case atStart=>exact ⟨0,by omega,rfl,B8⟩
           case round=>
            obtain ⟨j,hj,rfl,hB⟩:=hrel
            clear B8
            obtain ⟨b2,b8,b9,_,_,_⟩:=hB.out.M.q
            by_cases hjl : j < nz
            ·have g3 : ((j : Int) < (nz : Int)):=by omega
             obtain ⟨xs,hr,_⟩:=hB.out.M.h.at_
             obtain ⟨gx,rfl,_,_,hsp⟩:=own_spot hr hjl
             obtain ⟨u0,_,d0,e0⟩:=hsp 0 (by decide)
             obtain ⟨u1,_,d1,e1⟩:=hsp 1 (by decide)
             obtain ⟨u2,_,d2,e2⟩:=hsp 2 (by decide)
             obtain ⟨u3,_,d3,e3⟩:=hsp 3 (by decide)
             rw [Nat.add_zero] at d0 e0
             have hn:=hid (hB.out.free hb.out hr.1 (by decide) (by decide) (tp_free (M:=0) (o:=j * 4) (ys:=[.int .i64 0,.int .i64 0,.int .i64 77,.string ⟨#[]⟩]) hr (by decide) (by decide)) (Nat.zero_le _) (cells_only gx _ _ _))
             clear hsp hr hB
             go_wp2_with fail
             exact ⟨⟨j + 1,by omega,by go_num,hn⟩,by simp [intOf]; omega⟩
            ·have g3 : ¬ ((j : Int) < (nz : Int)):=by omega
             go_wp2_with fail
             have B9:=hB
             clear hB b2 b8 b9 g3 hj
             go_loopw [10] (fun v wr=>∃ t : Nat,t≤20∧v = .int .i64 (t : Int)∧∃ xo nx xc yo ny yc zo nz zc,Hid (AM W Z bb (.slice po np pc) gC nC cc i (.slice fo nf fc) (.slice do_ nd dc) gm nm mc k (.slice xo nx xc) (.slice yo ny yc) (.slice zo nz zc) (5000 + i * 110000 + k * 20 + t) wr)) (fun v _=>20 - (intOf v).toNat)
             case atStart=>exact ⟨0,by omega,rfl,_,_,_,_,_,_,_,_,_,by simpa using B9⟩
             case round=>
              clear B9
              obtain ⟨t,ht,rfl,xo,nx,xc,yo,ny,yc,zo,nz,zc,hB⟩:=hrel
              by_cases htl : t < 20
              ·have g3 : ((t : Int) < 20):=by omega
               obtain ⟨_,b8,_,_,_,_⟩:=hB.out.M.q
               obtain ⟨xs,hr,hny⟩:=hB.out.M.c.at_
               obtain ⟨_,_,hnx⟩:=hB.out.M.p.at_
               obtain ⟨_,_,hnz⟩:=hB.out.M.h.at_
               go_wp2_with (at_builtin; refine wpList_append_T (M:=5000 + i * 110000 + k * 20 + t) (ys:=[.int .u8 1]) rfl (.tmp 109) (.tmp 110) elByte Tryz.underlying38 rfl (Z:=Z) rfl rfl ⟨rows_only hr.1 ((Only.refl [] wr).alloc _) (by simp),hr.2⟩ (by first | exact RS.fresh wr #[.int .u8 1] _ | (have q:=RS.fresh wr #[.int .u8 1] 5; have e : (wr).heap.size = w0.heap.size:=(by simp); rw [e] at q; exact q)) rfl (by simp [Value.oneCell']) (by omega) (fun x hx=>hZ1.out x (by have:=hB.out.A.I.size; simp only [World.size_alloc] at hx; omega)) (fun r u _=>kd_free (by decide) (by decide)) ?_)
               intro ao1 cap1 w1 k1 t1 o1
               have C1:=(hB.out.zero hb.out ((Only.refl [] wr).alloc _)).free hb.out (rows_only hr.1 ((Only.refl [] wr).alloc _) (by simp)) (by decide) (by decide) t1 (Nat.le_refl _) o1
               have C2:=hid ((C1.le (Nat.le_succ _)).putc hb.out _ ⟨_,_,k1,by omega⟩)
               obtain ⟨_,d8,_,_,e8,_⟩:=C1.M.q
               obtain ⟨c2,_,_,_,_,_⟩:=C2.out.M.q
               obtain ⟨xs2,hr2,_⟩:=C2.out.M.p.at_
               clear hB hr b8 C1 t1 o1 k1
               go_wp2_with (at_builtin; refine wpList_append_T (M:=5000 + i * 110000 + k * 20 + t + 1) (ys:=[.int .i64 0,.string ⟨#[]⟩]) rfl (.tmp 119) (.tmp 121) elTy Tryz.underlying33 rfl (Z:=Z) rfl rfl ⟨rows_only hr2.1 ((Only.refl [] (w1.setCell ⟨gm,k * 10 + 8,none⟩ (.slice ao1 (ny + 1) cap1))).alloc _) (by simp),hr2.2⟩ (by first | exact RS.fresh (w1.setCell ⟨gm,k * 10 + 8,none⟩ (.slice ao1 (ny + 1) cap1)) #[.int .i64 0,.string ⟨#[]⟩] _ | (have q:=RS.fresh (w1.setCell ⟨gm,k * 10 + 8,none⟩ (.slice ao1 (ny + 1) cap1)) #[.int .i64 0,.string ⟨#[]⟩] 35; have e : ((w1.setCell ⟨gm,k * 10 + 8,none⟩ (.slice ao1 (ny + 1) cap1))).heap.size = w1.heap.size:=(by simp); rw [e] at q; exact q)) rfl (by simp [Value.oneCell']) (by omega) (fun x hx=>hZ1.out x (by have:=C2.out.A.I.size; simp only [World.size_alloc] at hx; omega)) (fun r u _=>kd_free (by decide) (by decide)) ?_)
               intro ao2 cap2 w2 k2 t2 o2
               have C3:=(C2.out.zero hb.out ((Only.refl [] _).alloc _)).free hb.out (rows_only hr2.1 ((Only.refl [] _).alloc _) (by simp)) (by decide) (by decide) t2 (Nat.le_refl _) o2
               have C4:=hid (C3.putp hb.out _ ⟨_,_,k2,by omega⟩)
               obtain ⟨d2,_,_,e2,_,_⟩:=C3.M.q
               obtain ⟨_,_,c9,_,_,_⟩:=C4.out.M.q
               obtain ⟨xs3,hr3,_⟩:=C4.out.M.h.at_
               clear C2 hr2 c2 d8 e8 C3 t2 o2 k2
               go_wp2_with (at_builtin; refine wpList_append_T (M:=5000 + i * 110000 + k * 20 + t + 1) (ys:=[.int .i64 0,.int .i64 0,.int .i64 0,.string ⟨#[]⟩]) rfl (.tmp 130) (.tmp 132) elHd Tryz.underlying39 rfl (Z:=Z) rfl rfl ⟨rows_only hr3.1 ((Only.refl [] (w2.setCell ⟨gm,k * 10 + 2,none⟩ (.slice ao2 (nx + 1) cap2))).alloc _) (by simp),hr3.2⟩ (by first | exact RS.fresh (w2.setCell ⟨gm,k * 10 + 2,none⟩ (.slice ao2 (nx + 1) cap2)) #[.int .i64 0,.int .i64 0,.int .i64 0,.string ⟨#[]⟩] _ | (have q:=RS.fresh (w2.setCell ⟨gm,k * 10 + 2,none⟩ (.slice ao2 (nx + 1) cap2)) #[.int .i64 0,.int .i64 0,.int .i64 0,.string ⟨#[]⟩] 46; have e : ((w2.setCell ⟨gm,k * 10 + 2,none⟩ (.slice ao2 (nx + 1) cap2))).heap.size = w2.heap.size:=(by simp); rw [e] at q; exact q)) rfl (by simp [Value.oneCell']) (by omega) (fun x hx=>hZ1.out x (by have:=C4.out.A.I.size; simp only [World.size_alloc] at hx; omega)) (fun r u _=>kd_free (by decide) (by decide)) ?_)
               intro ao3 cap3 w3 k3 t3 o3
               have C5:=(C4.out.zero hb.out ((Only.refl [] _).alloc _)).free hb.out (rows_only hr3.1 ((Only.refl [] _).alloc _) (by simp)) (by decide) (by decide) t3 (Nat.le_refl _) o3
               have C6:=hid (C5.puth hb.out _ ⟨_,_,k3,by omega⟩)
               obtain ⟨_,_,d9,_,_,e9⟩:=C5.M.q
               clear C4 hr3 c9 d2 e2 C5 t3 o3 k3
               go_wp2_with fail
               exact ⟨⟨t + 1,by omega,by go_num,_,_,_,_,_,_,_,_,_,C6⟩,by simp [intOf]; omega⟩
              ·have g3 : ¬ ((t : Int) < 20):=by omega
               obtain rfl : t = 20:=by omega
               obtain ⟨xs,hr,_,_⟩:=hB.out.A.C.m.at_
               obtain ⟨_,hge,_,_,hsp⟩:=own_spot hr hkm
               simp only [Option.some.injEq,Addr.mk.injEq,and_true] at hge
               subst hge
               obtain ⟨u0,_,d0,e0⟩:=hsp 0 (by decide)
               obtain ⟨u1,_,d1,e1⟩:=hsp 1 (by decide)
               obtain ⟨u2,_,d2,e2⟩:=hsp 2 (by decide)
               obtain ⟨u3,_,d3,e3⟩:=hsp 3 (by decide)
               obtain ⟨u4,_,d4,e4⟩:=hsp 4 (by decide)
               obtain ⟨u5,_,d5,e5⟩:=hsp 5 (by decide)
               obtain ⟨u6,_,d6,e6⟩:=hsp 6 (by decide)
               obtain ⟨u7,_,d7,e7⟩:=hsp 7 (by decide)
               obtain ⟨u8,_,d8,e8⟩:=hsp 8 (by decide)
               obtain ⟨u9,_,d9,e9⟩:=hsp 9 (by decide)
               rw [Nat.add_zero] at d0 e0
               have hn:=hid (hB.out.A.free hb.out hr.1 (by decide) (tp_meZ (M:=0) hr k 77) (Nat.zero_le _) (cells_only _ _ _ _))
               rw [show 5000 + i * 110000 + k * 20 + 20 = 5000 + i * 110000 + (k + 1) * 20 by omega] at hn
               clear hsp hr hB
               go_wp2_with fail
               exact ⟨⟨k + 1,by omega,by go_num,hn⟩,by simp [intOf]; omega⟩
      ·have g2 : ¬ ((k : Int) < (nm : Int)):=by omega
       go_wp2_with fail
       have C0:=hid (hA.out.le (show 5000 + i * 110000 + k * 20≤5000 + i * 110000 + 49000 by omega))
       clear hA a3 a4 a5 g2
       go_loopw [11] (fun v wr=>∃ j : Nat,j≤nd∧v = .int .i64 (j : Int)∧Hid (AC W Z bb (.slice po np pc) gC nC cc i (.slice fo nf fc) (.slice do_ nd dc) (.slice mo nm mc) (5000 + i * 110000 + 49000) wr)) (fun v _=>nd - (intOf v).toNat)
       case atStart=>exact ⟨0,by omega,rfl,C0⟩
       case round=>
        obtain ⟨j,hj,rfl,hB⟩:=hrel
        clear C0
        obtain ⟨a3,a4,a5,_,_,_⟩:=hB.out.C.q
        by_cases hjl : j < nd
        ·have g3 : ((j : Int) < (nd : Int)):=by omega
         obtain ⟨xs,hr,_⟩:=hB.out.C.d.at_
         obtain ⟨gx,rfl,_,_,hsp⟩:=own_spot hr hjl
         obtain ⟨u0,_,d0,e0⟩:=hsp 0 (by decide)
         obtain ⟨u1,_,d1,e1⟩:=hsp 1 (by decide)
         obtain ⟨u2,_,d2,e2⟩:=hsp 2 (by decide)
         obtain ⟨u3,_,d3,e3⟩:=hsp 3 (by decide)
         rw [Nat.add_zero] at d0 e0
         have hn:=hid (hB.out.free hb.out hr.1 (by decide) (tp_free (M:=0) (o:=j * 4) (ys:=[.int .i64 77,.string ⟨#[]⟩,.int .i64 0,.string ⟨#[]⟩]) hr (by decide) (by decide)) (Nat.zero_le _) (cells_only gx _ _ _))
         clear hsp hr hB
         go_wp2_with fail
         exact ⟨⟨j + 1,by omega,by go_num,hn⟩,by simp [intOf]; omega⟩
        ·have g3 : ¬ ((j : Int) < (nd : Int)):=by omega
         go_wp2_with fail
         have B11:=hB
         clear hB a3 a4 a5 g3 hj
         go_loopw [12] (fun v wr=>∃ j : Nat,j≤nf∧v = .int .i64 (j : Int)∧Hid (AC W Z bb (.slice po np pc) gC nC cc i (.slice fo nf fc) (.slice do_ nd dc) (.slice mo nm mc) (5000 + i * 110000 + 49000) wr)) (fun v _=>nf - (intOf v).toNat)
         case atStart=>exact ⟨0,by omega,rfl,B11⟩
         case round=>
          obtain ⟨j,hj,rfl,hB⟩:=hrel
          clear B11
          obtain ⟨a3,a4,a5,_,_,_⟩:=hB.out.C.q
          by_cases hjl : j < nf
          ·have g3 : ((j : Int) < (nf : Int)):=by omega
           obtain ⟨xs,hr,_⟩:=hB.out.C.f.at_
           obtain ⟨gx,rfl,_,_,hsp⟩:=own_spot hr hjl
           obtain ⟨u0,_,d0,e0⟩:=hsp 0 (by decide)
           rw [Nat.mul_one,Nat.add_zero] at d0 e0
           have hn:=hid (hB.out.free hb.out hr.1 (by decide) (tp_free (M:=0) (o:=j) (ys:=[.string ⟨#[115,112,111,105,108,116]⟩]) hr (by decide) (by decide)) (Nat.zero_le _) (cells_only gx _ _ _))
           clear hsp hr hB
           go_wp2_with fail
           exact ⟨⟨j + 1,by omega,by go_num,hn⟩,by simp [intOf]; omega⟩
          ·have g3 : ¬ ((j : Int) < (nf : Int)):=by omega
           go_wp2_with fail
           have B12:=hB
           clear hB a3 a4 a5 g3 hj
           go_loopw [13] (fun v wr=>∃ t : Nat,t≤20∧v = .int .i64 (t : Int)∧∃ fo nf fc do_ nd dc mo nm mc,Hid (AC W Z bb (.slice po np pc) gC nC cc i (.slice fo nf fc) (.slice do_ nd dc) (.slice mo nm mc) (5000 + i * 110000 + 49000 + t * 3001) wr)) (fun v _=>20 - (intOf v).toNat)
           case atStart=>exact ⟨0,by omega,rfl,_,_,_,_,_,_,_,_,_,by simpa using B12⟩
           case round=>
            clear B12
            obtain ⟨t,ht,rfl,fo,nf,fc,do_,nd,dc,mo,nm,mc,hB⟩:=hrel
            by_cases htl : t < 20
            ·have g3 : ((t : Int) < 20):=by omega
             obtain ⟨a3,_,_,_,_,_⟩:=hB.out.C.q
             obtain ⟨xs,hr,hnf⟩:=hB.out.C.f.at_
             obtain ⟨_,_,hnd⟩:=hB.out.C.d.at_
             obtain ⟨_,_,hnm,_⟩:=hB.out.C.m.at_
             go_wp2_with (at_builtin; refine wpList_append_T (M:=5000 + i * 110000 + 49000 + t * 3001) (ys:=[.string ⟨#[109,111,114,101]⟩]) rfl (.tmp 178) (.tmp 179) elStr Tryz.underlying24 rfl (Z:=Z) rfl rfl ⟨rows_only hr.1 ((Only.refl [] wr).alloc _) (by simp),hr.2⟩ (by first | exact RS.fresh wr #[.string ⟨#[109,111,114,101]⟩] _ | (have q:=RS.fresh wr #[.string ⟨#[109,111,114,101]⟩] 9; have e : (wr).heap.size = w0.heap.size:=(by simp); rw [e] at q; exact q)) rfl (by simp [Value.oneCell']) (by omega) (fun x hx=>hZ1.out x (by have:=hB.out.I.size; simp only [World.size_alloc] at hx; omega)) (fun r u _=>kd_free (by decide) (by decide)) ?_)
             intro ao1 cap1 w1 k1 t1 o1
             have C1:=(hB.out.zero hb.out ((Only.refl [] wr).alloc _)).free hb.out (rows_only hr.1 ((Only.refl [] wr).alloc _) (by simp)) (by decide) t1 (Nat.le_refl _) o1
             have C2:=hid ((C1.le (Nat.le_succ _)).putf hb.out _ ⟨_,_,k1,by omega⟩)
             obtain ⟨d3,_,_,e3,_,_⟩:=C1.C.q
             obtain ⟨_,c4,_,_,_,_⟩:=C2.out.C.q
             obtain ⟨xs2,hr2,_⟩:=C2.out.C.d.at_
             clear hB hr a3 C1 t1 o1 k1
             go_wp2_with (at_builtin; refine wpList_append_T (M:=5000 + i * 110000 + 49000 + t * 3001 + 1) (ys:=[.int .i64 0,.string ⟨#[]⟩,.int .i64 0,.string ⟨#[]⟩]) rfl (.tmp 187) (.tmp 189) elFd Tryz.underlying25 rfl (Z:=Z) rfl rfl ⟨rows_only hr2.1 ((Only.refl [] (w1.setCell ⟨gC,i * 6 + 3,none⟩ (.slice ao1 (nf + 1) cap1))).alloc _) (by simp),hr2.2⟩ (by first | exact RS.fresh (w1.setCell ⟨gC,i * 6 + 3,none⟩ (.slice ao1 (nf + 1) cap1)) #[.int .i64 0,.string ⟨#[]⟩,.int .i64 0,.string ⟨#[]⟩] _ | (have q:=RS.fresh (w1.setCell ⟨gC,i * 6 + 3,none⟩ (.slice ao1 (nf + 1) cap1)) #[.int .i64 0,.string ⟨#[]⟩,.int .i64 0,.string ⟨#[]⟩] 44; have e : ((w1.setCell ⟨gC,i * 6 + 3,none⟩ (.slice ao1 (nf + 1) cap1))).heap.size = w1.heap.size:=(by simp); rw [e] at q; exact q)) rfl (by simp [Value.oneCell']) (by omega) (fun x hx=>hZ1.out x (by have:=C2.out.I.size; simp only [World.size_alloc] at hx; omega)) (fun r u _=>kd_free (by decide) (by decide)) ?_)
             intro ao2 cap2 w2 k2 t2 o2
             have C3:=(C2.out.zero hb.out ((Only.refl [] _).alloc _)).free hb.out (rows_only hr2.1 ((Only.refl [] _).alloc _) (by simp)) (by decide) t2 (Nat.le_refl _) o2
             have C4:=hid (C3.putd hb.out _ ⟨_,_,k2,by omega⟩)
             obtain ⟨_,d4,_,_,e4,_⟩:=C3.C.q
             obtain ⟨_,_,c5,_,_,_⟩:=C4.out.C.q
             obtain ⟨xs3,hr3,hnm3,hf3⟩:=C4.out.C.m.at_
             clear C2 hr2 c4 d3 e3 C3 t2 o2 k2
             go_wp2_with (at_builtin; refine wpList_append_T (M:=5000 + i * 110000 + 49000 + t * 3001 + 1) (ys:=[.int .i64 0,.string ⟨#[]⟩,.slice none 0 0,.bool false,.int .i64 0,.string ⟨#[]⟩,.int .i64 0,.int .i64 0,.slice none 0 0,.slice none 0 0]) rfl (.tmp 197) (.tmp 199) elMe Tryz.underlying26 rfl (Z:=Z) rfl rfl ⟨rows_only hr3.1 ((Only.refl [] (w2.setCell ⟨gC,i * 6 + 4,none⟩ (.slice ao2 (nd + 1) cap2))).alloc _) (by simp),hr3.2⟩ (by first | exact RS.fresh (w2.setCell ⟨gC,i * 6 + 4,none⟩ (.slice ao2 (nd + 1) cap2)) #[.int .i64 0,.string ⟨#[]⟩,.slice none 0 0,.bool false,.int .i64 0,.string ⟨#[]⟩,.int .i64 0,.int .i64 0,.slice none 0 0,.slice none 0 0] _ | (have q:=RS.fresh (w2.setCell ⟨gC,i * 6 + 4,none⟩ (.slice ao2 (nd + 1) cap2)) #[.int .i64 0,.string ⟨#[]⟩,.slice none 0 0,.bool false,.int .i64 0,.string ⟨#[]⟩,.int .i64 0,.int .i64 0,.slice none 0 0,.slice none 0 0] 41; have e : ((w2.setCell ⟨gC,i * 6 + 4,none⟩ (.slice ao2 (nd + 1) cap2))).heap.size = w2.heap.size:=(by simp); rw [e] at q; exact q)) rfl (by simp [Value.oneCell']) (by omega) (fun x hx=>hZ1.out x (by have:=C4.out.I.size; simp only [World.size_alloc] at hx; omega)) (fun r u hu=>kd_me (by have hl : r < 10:=(List.getElem?_eq_some_iff.1 hu).1; rw [show (nm * 10 + r) % 10 = r by omega]; exact meZ_f _ Z _ 0 r u hu)) ?_)
             intro ao3 cap3 w3 k3 t3 o3
             have C5:=(C4.out.zero hb.out ((Only.refl [] _).alloc _)).free hb.out (rows_only hr3.1 ((Only.refl [] _).alloc _) (by simp)) (by decide) t3 (Nat.le_refl _) o3
             have hpush : RowM w3 Z (5000 + i * 110000 + 49000 + t * 3001 + 1 + 3000) (.slice ao3 (nm + 1) cap3):=rowM_push hr3.1.1 (fun q u hq=>(hf3 q u hq).mono ((tp_only0 (M:=5000 + i * 110000 + 49000 + t * 3001 + 1) ((Only.refl [] _).alloc _)).ox (5000 + i * 110000 + 49000 + t * 3001 + 1) (Nat.le_refl _))) hnm3 t3 k3
             have C6:=hid ((C5.le (show 5000 + i * 110000 + 49000 + t * 3001 + 1≤5000 + i * 110000 + 49000 + t * 3001 + 1 + 3000 by omega)).putm hb.out _ hpush)
             rw [show 5000 + i * 110000 + 49000 + t * 3001 + 1 + 3000 = 5000 + i * 110000 + 49000 + (t + 1) * 3001 by omega] at C6
             obtain ⟨_,_,d5,_,_,e5⟩:=C5.C.q
             clear C4 hr3 c5 d4 e4 C5 t3 o3 k3 hpush hf3
             go_wp2_with fail
             exact ⟨⟨t + 1,by omega,by go_num,_,_,_,_,_,_,_,_,_,C6⟩,by simp [intOf]; omega⟩
            ·have g3 : ¬ ((t : Int) < 20):=by omega
             obtain rfl : t = 20:=by omega
             obtain ⟨xs,hr,_,_⟩:=hB.out.I.cls.at_
             obtain ⟨_,hge,_,_,hsp⟩:=own_spot hr hlt
             simp only [Option.some.injEq,Addr.mk.injEq,and_true] at hge
             subst hge
             obtain ⟨u0,_,d0,e0⟩:=hsp 0 (by decide)
             obtain ⟨u1,_,d1,e1⟩:=hsp 1 (by decide)
             obtain ⟨u2,_,d2,e2⟩:=hsp 2 (by decide)
             obtain ⟨u3,_,d3,e3⟩:=hsp 3 (by decide)
             obtain ⟨u4,_,d4,e4⟩:=hsp 4 (by decide)
             obtain ⟨u5,_,d5,e5⟩:=hsp 5 (by decide)
             rw [Nat.add_zero] at d0 e0
             have hn:=hid ((hB.out.I.step hb.out (tp_clZ (M:=0) hr i 77) (Nat.zero_le _)).le (show 5000 + i * 110000 + 49000 + 20 * 3001≤5000 + (i + 1) * 110000 by omega))
             clear hsp hr hB
             go_wp2_with fail
             exact ⟨⟨i + 1,by omega,by go_num,hn⟩,by simp [intOf]; omega⟩
    ·have g1 : ¬ ((i : Int) < (nC : Int)):=by omega
     obtain ⟨S,h1,h2⟩:=hI.out.lo
     have hfin:=hid (show ∃ S,Only S w wr∧∀ x,x∈S→Z0 x from ⟨S,(hWo.out.mono (by simp)).trans h1 (fun x hx=>.inl hx),fun x hx=>hsub.out x (h2 x hx)⟩)
     clear h1 h2
     go_wp2
     go_end0
     exact ⟨rfl,hfin.out⟩

end Go.Proofs.YtildemmkhndhjaaGreatDoor
