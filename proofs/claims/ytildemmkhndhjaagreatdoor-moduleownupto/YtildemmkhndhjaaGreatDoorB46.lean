/-
  What the proof leans on, part 46 of 48. The conditions stand in each theorem.
-/
import Derived.Test.YtildemmkhndhjaaGreatDoorB45
import Derived.Test.YtildemmkhndhjaaGreatDoorB43
import Derived.Test.YtildemmkhndhjaaGreatDoorB37
import Derived.Test.YtildemmkhndhjaaGreatDoorB32
namespace Go.Proofs.YtildemmkhndhjaaGreatDoor
open Go.RowKit

/-- An answer; no elder block has turned. -/
def SPost (w : World) (e : Ending) (w' : World) : Prop:=∃ b,e = .returned (.bool b)∧Only [] w w'

set_option maxHeartbeats 8000000 in
set_option maxRecDepth 100000 in
theorem small5_any {w : World} {P : Nat→Prop} (m : Mo) (hF : MoFit m) (hA : ∀ e∈m.pool,e.2.1.length≤1048576) (hps : ∀ c∈m.classes,∀ x∈c.methods,x.sig.1.length≤2000000) (hN : ∀ e∈m.pool,-9223372036854775808≤e.2.2.1∧e.2.2.1≤9223372036854775807) {vp vc : Value} (hM : MoAt (SlR w P) vp vc m) :
  Calls Tryz.prog 14 #[.agg #[vp,vc]] w (SPost w):=by
 have HK:=fun W (hW : Only [] w W)=>rcheck5_any m hF hA hps (hM.only0 hW)
 have HW:=fun W (hW : Only [] w W)=>rwrite_any m hF hA hps hN (hM.only0 hW)
 clear hF hA hps hN
 obtain ⟨hP0,ccs,hC0,hEl⟩:=hM
 obtain ⟨po,pc,rfl,lp⟩:=SlV.shape hP0
 obtain ⟨co,cc,rfl,lc⟩:=SlV.shape hC0
 obtain ⟨dc0,rc⟩:=SlV.rs hC0
 clear hP0 hC0
 generalize checkM m = ck at *
 obtain ⟨pl,cl⟩:=m
 obtain ⟨x0,x1,x2,x3⟩:=ck
 simp only [bpV] at HK hEl lp lc rc ⊢
 replace HK:=hid HK
 replace HW:=hid HW
 replace hEl:=hid hEl
 replace rc:=hid rc
 have o1:=hid ((Only.refl [] w).alloc (.cells #[.slice po pl.length pc,.slice co cl.length cc] 32))
 have M1:=hid (mo2_new w (.slice po pl.length pc) (.slice co cl.length cc) 32)
 obtain ⟨c0,c1,_,_⟩:=M1.out
 go_enter Tryz.func14,Tryz.ntmps14
 go_wp2_with fail
 clear c0 c1
 go_loopw [3,4] (fun a v wr=>∃ (n : Int) (j : Nat),j≤cl.length∧a = .int .i64 n∧v = .int .i64 (j : Int)∧Hid (Mo2 wr w.heap.size (.slice po pl.length pc) (.slice co cl.length cc))∧Hid (Only [] w wr)) (fun _ v _=>cl.length - (intOf v).toNat)
 case atStart=>exact ⟨_,0,by omega,rfl,rfl,M1,o1⟩
 case round=>
  obtain ⟨n,j,hj,rfl,rfl,hM,hO⟩:=hrel
  clear M1 o1
  obtain ⟨c0,c1,_,_⟩:=hM.out
  by_cases hlt : j < cl.length∧j < 200
  ·obtain ⟨hlt,h200⟩:=hlt
   have g1 : ((j : Int) < (cl.length : Int)):=by omega
   have g2 : ((j : Int) < 200):=by omega
   obtain ⟨off,vf,vd,vm,rfl,hat,y0,y1,y2,y3,y4,y5⟩:=cl_cells (rc.out.only0 hO.out) hEl.out hlt
   obtain ⟨hC1,hC2,mcs,hC3,hEm⟩:=hat
   obtain ⟨fo,fc,rfl,lf⟩:=SlV.shape hC1
   obtain ⟨do_,dc,rfl,ld⟩:=SlV.shape hC2
   obtain ⟨mo,mc,rfl,lm⟩:=SlV.shape hC3
   obtain ⟨d3,r3⟩:=SlV.rs hC3
   clear hC1 hC2 hC3
   generalize cl[j] = c at *
   obtain ⟨cf,cn,cs,aF,aD,aM⟩:=c
   simp only at y0 y1 y2 y3 y4 y5 lf ld lm r3 hEm
   replace r3:=hid r3
   replace hEm:=hid hEm
   have S2:=hid (cl6_new wr (.int .i64 cf) (.string (str cn)) (.string (str cs)) (.slice fo aF.length fc) (.slice do_ aD.length dc) (.slice mo aM.length mc) 28)
   have OA:=(Only.refl [] wr).alloc (.cells #[.int .i64 cf,.string (str cn),.string (str cs),.slice fo aF.length fc,.slice do_ aD.length dc,.slice mo aM.length mc] 28)
   have M2:=hid (hM.out.only OA (by simp))
   have O2:=hid (hO.out.trans OA (by simp))
   clear OA hM hO
   go_wp2_with fail
   clear c0 c1 y0 y1 y2 y3 y4 y5
   generalize wr.heap.size = b at S2 ⊢
   go_loopw [3,6] (fun a v wr=>∃ (n : Int) (k : Nat),k≤aM.length∧a = .int .i64 n∧v = .int .i64 (k : Int)∧Hid (Mo2 wr w.heap.size (.slice po pl.length pc) (.slice (some ⟨dc0,off,none⟩) cl.length cc))∧Hid (Cl6 wr b (.int .i64 cf) (.string (str cn)) (.string (str cs)) (.slice fo aF.length fc) (.slice do_ aD.length dc) (.slice mo aM.length mc))∧Hid (Only [] w wr)) (fun _ v _=>aM.length - (intOf v).toNat)
   case atStart=>exact ⟨_,0,by omega,rfl,rfl,M2,S2,O2⟩
   case round=>
    obtain ⟨n,k,hk,rfl,rfl,hM,hS,hO⟩:=hrel
    clear M2 S2 O2
    obtain ⟨e0,e1,e2,e3,e4,e5,_,_,_,_,_,_⟩:=hS.out
    by_cases hkl : k < aM.length∧k < 200
    ·obtain ⟨hkl,k200⟩:=hkl
     have g3 : ((k : Int) < (aM.length : Int)):=by omega
     have g4 : ((k : Int) < 200):=by omega
     obtain ⟨of1,vp1,vc1,vh1,rfl,hm1,s0,s1,s2,s3,s4,s5,s6,s7,s8,s9⟩:=me_cells (r3.out.only0 hO.out) hEm.out hkl
     obtain ⟨q1,q2,rfl,_⟩:=SlV.shape hm1.params
     obtain ⟨q3,q4,rfl,_⟩:=SlV.shape hm1.code
     obtain ⟨q5,q6,rfl,_⟩:=SlV.shape hm1.hands
     clear hm1
     generalize aM[k] = sx at *
     go_wp2_with fail
     go_region
     go_wp2
     exact ⟨⟨_,k + 1,by omega,rfl,by go_num,hid (hM.out.only (Only.refl [] _).drew (by simp)),hid (hS.out.only (Only.refl [] _).drew (by simp)),hid hO.out.drew⟩,by simp [intOf]; omega⟩
    ·by_cases hkl2 : k < aM.length
     ·have g3 : ((k : Int) < (aM.length : Int)):=by omega
      have g4 : ¬ ((k : Int) < 200):=by omega
      clear hkl
      go_wp2_with fail
      exact ⟨⟨_,j + 1,by omega,rfl,by go_num,hM,hO⟩,by simp [intOf]; omega⟩
     ·have g3 : ¬ ((k : Int) < (aM.length : Int)):=by omega
      clear hkl
      go_wp2_with fail
      exact ⟨⟨_,j + 1,by omega,rfl,by go_num,hM,hO⟩,by simp [intOf]; omega⟩
  ·skip
   by_cases hlt2 : j < cl.length
   ·have g1 : ((j : Int) < (cl.length : Int)):=by omega
    have g2 : ¬ ((j : Int) < 200):=by omega
    clear hlt
    have gb : (200 : Int)≤(cl.length : Int):=by omega
    go_wp2_with fail
    go_ret
    exact ⟨_,rfl,hO.out⟩
   ·have g1 : ¬ ((j : Int) < (cl.length : Int)):=by omega
    clear hlt
    by_cases hbig : 200≤cl.length
    ·have gb : (200 : Int)≤(cl.length : Int):=by omega
     go_wp2_with fail
     go_ret
     exact ⟨_,rfl,hO.out⟩
    have gb : ¬ (200 : Int)≤(cl.length : Int):=by omega
    by_cases hn6 : 6000≤n
    ·go_wp2_with fail
     go_ret
     exact ⟨_,rfl,hO.out⟩
    go_wp2_with fail
    refine (HW.out _ hO.out).mono ?_
    rintro e w5 ⟨ao,nn,cap,⟨b0,b1,b2,b3⟩,rfl,o5⟩
    simp only [bpV]
    have o6:=(Only.refl [] w5).alloc (.cells #[.int .i64 b0,.int .i64 b1,.int .i64 b2,.int .i64 b3] 54)
    have M6:=hid ((hM.out.only o5 (by simp)).only o6 (by simp))
    have O6:=hid ((hO.out.trans o5 (by simp)).trans o6 (by simp))
    clear HW o5 o6 hM hO c0 c1
    obtain ⟨c0,c1,_,_⟩:=M6.out
    by_cases h5 : b3 = 5
    ·subst h5
     have hfd : ∀ w : World,(Instr.field 54 (.agg #[.int .i64 x0,.int .i64 x1,.int .i64 x2,.int .i64 x3]) 3).run Tryz.prog w = .ok (.int .i64 x3) w:=fun _=>by kernel_rfl
     go_wp2_with fail
     refine (HK.out _ O6.out).mono ?_
     rintro e w7 ⟨rfl,o7⟩
     go_wp2_with fail
     go_ret
     exact ⟨_,rfl,O6.out.trans o7 (by simp)⟩
    ·have h5' : (b3 == 5) = false:=by simpa using h5
     have h5n : (b3 != 5) = true:=by simpa using h5
     go_wp2_with fail
     go_ret
     exact ⟨_,rfl,O6.out⟩


theorem rde_apart {w : World} {r d : Nat} {bs : List UInt8} (h : RdE w r d (bs,0,0)) (h0 : 0 < r) : ∃ d',RdE w r d' (bs,0,0)∧d'≠r∧(d' = d∨d' = 0):=by
 obtain ⟨ao,cap,h⟩:=h
 by_cases e : bs = []
 ·subst e
  exact ⟨0,⟨ao,cap,h.c0,h.c1,h.c2,h.f0,h.f1,h.f2,BS.nil _ _ _,h.capLe,h.capMax,h.capNone,h.fit,fun e=>absurd rfl e⟩,by omega,.inr rfl⟩
 ·exact ⟨d,⟨ao,cap,h⟩,h.ne e,.inl rfl⟩

theorem sc_new {w : World} {r d : Nat} {bs : List UInt8} (h : RdE w r d (bs,0,0)) (h1 : d≠r) (h2 : d < w.heap.size) (hl : bs.length≤262144) : Sc (w.alloc (.cells #[.pointer (some ⟨r,0,none⟩),.pointer none] 86)) w.heap.size r d (.inr (bs,0)):=by
 have hr:=h.lt
 have o:=(Only.refl [] w).alloc (.cells #[.pointer (some ⟨r,0,none⟩),.pointer none] 86)
 exact .fine ⟨by rw [cell_new]; rfl,by rw [cell_new]; rfl,frozen_new _ _ _ _,h.only o (by simp) (by simp),by omega,by omega,h1,by simp; omega,hl⟩

/-- What reading came to, by where the source stands. -/
theorem readM_of {bs : List UInt8} (hl : ¬ 262144 < bs.length) {m : Mo} {t : St} (h : Out pModule (.inr (bs,0)) m t) :
  (∃ f,t = .inl f∧readM bs = (mo0,0,0,f.1,f.2))∨(∃ u,t = .inr u∧readM bs = if (checkM m).2.2.2 = 0 then (m,ok4) else (mo0,checkM m)):=by
 unfold Out at h
 unfold readM
 rw [if_neg hl]
 simp only at h
 cases hp : pModule (bs,0) with
 | inl f=>
  simp only [hp] at h
  exact .inl ⟨f,h,rfl⟩
 | inr z=>
  obtain ⟨y,u⟩:=z
  simp only [hp] at h
  obtain ⟨rfl,rfl⟩:=h
  exact .inr ⟨u,rfl,rfl⟩

theorem mo0_at (w : World) (B : Nat) (P : Nat→Prop) : MoAt (OwR w B P) (.slice none 0 0) (.slice none 0 0) mo0:=
 ⟨⟨World.ownsRow_nil _ _ _ _,fun _ h=>by cases h⟩,[],⟨World.ownsRow_nil _ _ _ _,fun _ h=>by cases h⟩,Els.nil _ _⟩

set_option maxHeartbeats 4000000 in
theorem mread_any {w : World} (hg : Ety w) {ao : Option Addr} {bs : List UInt8} {cap d0 : Nat} (hb : BS w ao bs d0) (hn : ao = none→cap = 0) (hsz : bs.length≤1099511627776) :
  Calls Tryz.prog 12 #[.slice ao bs.length cap] w fun e w'=>∃ vp vc v,e = .returned (.tuple #[.agg #[vp,vc],v])∧EB w' w.heap.size v (readM bs).2∧MoFit (readM bs).1∧AllFit EnFit (readM bs).1.pool∧MoAt (OwR w' w.heap.size fun _=>True) vp vc (readM bs).1∧Only [] w w':=by
 have o0:=(Only.refl [] w).alloc (.cells #[.slice none 0 0,.slice none 0 0] 32)
 have R0:=mo2_new w (.slice none 0 0) (.slice none 0 0) 32
 have f0 : Hid (MoFit mo0∧AllFit EnFit mo0.pool):=⟨⟨by simp [mo0],by simp [mo0]⟩,fun _ h=>by cases h⟩
 by_cases hbig : 262144 < bs.length
 ·have gb : (262144 : Int) < (bs.length : Int):=by omega
  have hR : readM bs = (mo0,0,0,0,5):=by unfold readM; rw [if_pos hbig]
  rw [hR]
  obtain ⟨e0,e1,_,_⟩:=R0
  go_enter Tryz.func12,Tryz.ntmps12
  go_wp2
  refine bodyPost_ret (v:=.tuple #[.agg #[.slice none 0 0,.slice none 0 0],badV (w.heap.size + 1)]) (by simp [results,Tryz.results12,go_sem,badV]) rfl ?_
  exact ⟨_,_,_,rfl,.bad (by decide) (by omega) (by have:=bad_new (w.alloc (.cells #[.slice none 0 0,.slice none 0 0] 32)) 0 0 0 5; rw [World.size_alloc] at this; exact this),f0.out.1,f0.out.2,mo0_at _ _ _,o0.alloc _⟩
 ·have gb : ¬ (262144 : Int) < (bs.length : Int):=by omega
  obtain ⟨R,hR0⟩ : ∃ R,R = readM bs:=⟨_,rfl⟩
  rw [← hR0]
  replace hR0:=hid hR0
  have HN:=hid (newReader_any (cap:=cap) (hb.only o0 (by simp)) hn (by omega))
  replace R0:=hid R0
  go_enter Tryz.func12,Tryz.ntmps12
  go_wp2_with fail
  refine HN.out.mono ?_
  rintro e w2 ⟨r,d,rfl,hr,ho2,hr1,hd1,hd2⟩
  have hrl:=hr.lt
  simp only [World.size_alloc] at hr1 hd1
  obtain ⟨d',hr',hd',hdd⟩:=rde_apart hr (by omega)
  have hS:=sc_new hr' hd' (by omega) (by omega)
  have oA:=(Only.refl [] w2).alloc (.cells #[.pointer (some ⟨r,0,none⟩),.pointer none] 86)
  have HM:=hid (rmodule_any hS)
  have o2:=hid ((o0.trans ho2 (by simp)).trans oA (by simp))
  have R2:=hid ((R0.out.only ho2 (by simp)).only oA (by simp))
  have hs2:=ho2.size
  simp only [World.size_alloc] at hs2
  clear HN R0 hr hS hr' ho2 oA hb o0
  go_wp2_with fail
  refine HM.out.mono ?_
  rintro e w3 ⟨m,t,vp,vc,rfl,hf1,hf2,hA,hS3,hO,ho3⟩
  clear HM
  replace hf1:=hid hf1
  replace hf2:=hid hf2
  obtain ⟨po,pc,rfl⟩:=rows_slice hA.pool.1
  obtain ⟨ccs0,⟨hc1,_⟩,_⟩:=hA.classes
  obtain ⟨co,cc,rfl⟩:=rows_slice hc1
  clear hc1
  have hs3:=ho3.size
  simp only [World.size_alloc] at hs3
  have q3:=(Only.refl [] w3).alloc (.cells #[.slice po m.pool.length pc,.slice co m.classes.length cc] 32)
  have HF:=hid (fault_src (hS3.al (.cells #[.slice po m.pool.length pc,.slice co m.classes.length cc] 32)))
  have herr : ∀ f,t = .inl f→f.2≠0:=by
   intro f hf
   subst hf
   cases hS3 with
   | cut he _=>exact he
   | bad he _ _ _=>exact he
  have o3:=hid ((o2.out.next ho3 (by simp; omega)).trans q3 (by simp))
  have R3:=hid ((R2.out.only ho3 (by simp; omega)).only q3 (by simp))
  have L3:=hid (mo2_new w3 (.slice po m.pool.length pc) (.slice co m.classes.length cc) 32)
  have hA3 : Hid (MoAt (OwR (w3.alloc (.cells #[.slice po m.pool.length pc,.slice co m.classes.length cc] 32)) (w.heap.size + 1) fun _=>True) (.slice po m.pool.length pc) (.slice co m.classes.length cc) m):=
   MoAt.own (hA.imp (owr_mono (by simp; omega) (fun _ _ _ _=>trivial))) q3 (by simp)
  clear hA hS3 ho3 q3 R2 o2
  go_wp2_with fail
  refine HF.out.mono ?_
  rintro e w4 ⟨v,rfl,hev,ho4⟩
  clear HF
  have o4:=hid (o3.out.trans ho4 (by simp))
  have R4:=hid (R3.out.only ho4 (by simp))
  have L4:=hid (L3.out.only ho4 (by simp))
  have hA4:=hid (hA3.out.own ho4 (by simp))
  have hs4:=ho4.size
  simp only [World.size_alloc] at hs4
  clear o3 R3 L3 hA3 ho4
  rcases readM_of hbig hO with ⟨f,rfl,hR⟩ | ⟨u,rfl,hR⟩
  ·rcases hev.cases_nil with ⟨h,_⟩ | ⟨he,p,rfl,hp,hbp⟩
   ·exact absurd h (herr f rfl)
   obtain rfl:=hR0.out.trans hR
   clear herr hO hev
   replace hbp:=hid hbp
   obtain ⟨e0,e1,z0,z1⟩:=R4.out
   unfold badV
   go_wp2
   refine bodyPost_ret (v:=.tuple #[.agg #[.slice none 0 0,.slice none 0 0],badV p]) (by simp [results,Tryz.results12,go_sem,badV,e0,e1]) rfl ?_
   obtain ⟨pp,qq⟩:=R4.out.put (.slice none 0 0) (.slice none 0 0)
   exact ⟨_,_,_,rfl,.bad he (by omega) (hbp.out.only qq (by simp; omega)),f0.out.1,f0.out.2,mo0_at _ _ _,o4.out.next qq (by simp)⟩
  ·obtain rfl : v = .nilIface:=by
    rcases hev.cases_nil with ⟨_,h⟩ | ⟨h,_⟩
    ·exact h
    ·exact absurd rfl h
   clear herr hO hev
   have HC:=hid (mcheck_any (hg.only0 o4.out) (P:=fun _=>True) m hf2.out (hA4.out.imp fun _ _ _ _ _ g=>owr_slice g))
   obtain ⟨l0,l1,_,_⟩:=L4.out
   go_wp2_with fail
   refine HC.out.mono ?_
   rintro e w5 ⟨v5,rfl,hev5,ho5⟩
   clear HC l0 l1
   have o5:=hid (o4.out.trans ho5 (by simp))
   have R5:=hid (R4.out.only ho5 (by simp))
   have L5:=hid (L4.out.only ho5 (by simp))
   have hA5:=hid (hA4.out.own ho5 (by simp))
   have hs5:=ho5.size
   clear o4 R4 L4 hA4 ho5
   rcases hev5.cases_nil with ⟨h,rfl⟩ | ⟨he,p,rfl,hp,hbp⟩
   ·rw [if_pos h] at hR
    obtain rfl:=hR0.out.trans hR
    clear hev5
    obtain ⟨l0,l1,_,_⟩:=L5.out
    obtain ⟨e0,e1,z0,z1⟩:=R5.out
    go_wp2
    refine bodyPost_ret (v:=.tuple #[.agg #[.slice po m.pool.length pc,.slice co m.classes.length cc],.nilIface]) (by simp [results,Tryz.results12,go_sem,e0,e1]) rfl ?_
    obtain ⟨pp,qq⟩:=R5.out.put (.slice po m.pool.length pc) (.slice co m.classes.length cc)
    exact ⟨_,_,_,rfl,.no rfl,hf2.out,hf1.out,(hA5.out.own qq (by simp)).imp (owr_mono (by omega) fun _ h _ _=>h),o5.out.next qq (by simp)⟩
   ·rw [if_neg he] at hR
    obtain rfl:=hR0.out.trans hR
    clear hev5
    replace hbp:=hid hbp
    obtain ⟨e0,e1,z0,z1⟩:=R5.out
    unfold badV
    go_wp2
    refine bodyPost_ret (v:=.tuple #[.agg #[.slice none 0 0,.slice none 0 0],badV p]) (by simp [results,Tryz.results12,go_sem,badV,e0,e1]) rfl ?_
    obtain ⟨pp,qq⟩:=R5.out.put (.slice none 0 0) (.slice none 0 0)
    exact ⟨_,_,_,rfl,.bad he (by omega) (hbp.out.only qq (by simp; omega)),f0.out.1,f0.out.2,mo0_at _ _ _,o5.out.next qq (by simp)⟩


def key7 : List UInt8:=[75,69,89,49,0,0,0]
def key6 : List UInt8:=[75,69,89,49,0,0]

theorem read7 : readM key7 = (mo0,ok4):=by kernel_rfl
theorem read6 : readM key6 = (mo0,0,0,6,11):=by kernel_rfl
theorem write0 : writeM mo0 = (key7,ok4):=by kernel_rfl

set_option maxHeartbeats 4000000 in
set_option maxRecDepth 100000 in
theorem known5 {w : World} (hg : Ety w) : Calls Tryz.prog 6 #[] w fun e w'=>e = .returned (.bool true)∧Only [] w w':=by
 have kc1:=Joins.run_convert_bytes_const_at (P:=Tryz.prog) w 38 5 #[.int .u8 75,.int .u8 69,.int .u8 89,.int .u8 49,.int .u8 0,.int .u8 0,.int .u8 0] 7 7 w.heap.size rfl Tryz.underlying38 Tryz.underlying5
 have o1:=(Only.refl [] w).alloc (.cells #[.int .u8 75,.int .u8 69,.int .u8 89,.int .u8 49,.int .u8 0,.int .u8 0,.int .u8 0] 5 (7,8))
 have HR1:=mread_any (hg.only0 o1) (bs:=key7) (cap:=7) (bs_of_rs (rs_fresh w #[.int .u8 75,.int .u8 69,.int .u8 89,.int .u8 49,.int .u8 0,.int .u8 0,.int .u8 0] 5 (7,8))) (by simp) (by decide)
 rw [read7] at HR1
 replace HR1:=hid HR1
 go_enter Tryz.func6,Tryz.ntmps6
 go_wp2_with fail
 refine HR1.out.mono ?_
 rintro e w2 ⟨vp,vc,v,rfl,hev,hf1,hf2,hA,ho2⟩
 obtain ⟨po,pc,rfl⟩:=rows_slice hA.pool.1
 obtain ⟨ccs0,⟨hc1,_⟩,_⟩:=hA.classes
 obtain ⟨co,cc,rfl⟩:=rows_slice hc1
 obtain rfl : v = .nilIface:=by
  rcases hev.cases_nil with ⟨_,h⟩ | ⟨h,_⟩
  ·exact h
  ·exact absurd rfl h
 have hA' : MoAt (OwR w2 (w.alloc (.cells #[.int .u8 75,.int .u8 69,.int .u8 89,.int .u8 49,.int .u8 0,.int .u8 0,.int .u8 0] 5 (7,8))).heap.size fun _=>True) (.slice po 0 pc) (.slice co 0 cc) mo0:=hA
 simp only [mo0,List.length_nil]
 clear hA hev hc1
 have oM:=(Only.refl [] w2).alloc (.cells #[.slice po 0 pc,.slice co 0 cc] 32)
 have o2:=(o1.trans ho2 (by simp)).trans oM (by simp)
 have M2:=mo2_new w2 (.slice po 0 pc) (.slice co 0 cc) 32
 have HW:=mwrite_any (hg.only0 o2) (P:=fun _=>True) mo0 hf1 (fun e he=>by cases he) ((hA'.own oM (by simp)).imp fun _ _ _ _ _ g=>owr_slice g)
 rw [write0] at HW
 simp only [show key7.length = 7 from rfl] at HW
 replace HW:=hid HW
 obtain ⟨m0,m1,_,_⟩:=M2
 clear HR1 kc1 hA' ho2
 go_wp2_with fail
 refine HW.out.mono ?_
 rintro e w3 ⟨bo,bc,v,rfl,hown,hev,ho3⟩
 obtain rfl : v = .nilIface:=by
  rcases hev.cases_nil with ⟨_,h⟩ | ⟨h,_⟩
  ·exact h
  ·exact absurd rfl h
 clear hev HW
 have hm1:=(ho3.cell (p:=⟨w2.heap.size,1,none⟩) (by simp) (by simp)).trans m1
 have o3:=o2.trans ho3 (by simp)
 clear m0 m1 oM o2
 have kc2:=Joins.run_convert_bytes_const_at (P:=Tryz.prog) w3 38 5 #[.int .u8 75,.int .u8 69,.int .u8 89,.int .u8 49,.int .u8 0,.int .u8 0] 6 6 w3.heap.size rfl Tryz.underlying38 Tryz.underlying5
 have q3:=(Only.refl [] w3).alloc (.cells #[.int .u8 75,.int .u8 69,.int .u8 89,.int .u8 49,.int .u8 0,.int .u8 0] 5 (6,7))
 have HR2:=mread_any (hg.only0 (o3.trans q3 (by simp))) (bs:=key6) (cap:=6) (bs_of_rs (rs_fresh w3 #[.int .u8 75,.int .u8 69,.int .u8 89,.int .u8 49,.int .u8 0,.int .u8 0] 5 (6,7))) (by simp) (by decide)
 rw [read6] at HR2
 replace HR2:=hid HR2
 replace hown:=hid hown
 replace hm1:=hid hm1
 go_wp2_with fail
 refine HR2.out.mono ?_
 rintro e w4 ⟨vp,vc,v,rfl,hev,_,_,hA,ho4⟩
 obtain ⟨qo,qc,rfl⟩:=rows_slice hA.pool.1
 obtain ⟨ccs1,⟨hc1,_⟩,_⟩:=hA.classes
 obtain ⟨eo,ec,rfl⟩:=rows_slice hc1
 obtain ⟨p,rfl,hb⟩ : ∃ p,v = badV p∧BadAt w4 p (0,0,6,11):=by
  rcases hev.cases_nil with ⟨h,_⟩ | ⟨_,p,h1,_,h2⟩
  ·exact absurd h (by decide)
  ·exact ⟨p,h1,h2⟩
 simp only [mo0,List.length_nil,badV]
 clear HR2 kc2 hA hc1 hev
 have q4:=(q3.trans ho4 (by simp)).alloc (.cells #[.slice qo 0 qc,.slice eo 0 ec] 32)
 have hm4:=(q4.cell (p:=⟨w2.heap.size,1,none⟩) (World.block_lt_of_cell? w3 _ hm1.out) (by simp)).trans hm1.out
 have kc:=((RS.of_owns hown.out).1.only0 q4).conv (bs:=key7) bc
 have hk7 : str key7 = ⟨#[75,69,89,49,0,0,0]⟩:=rfl
 simp only [show key7.length = 7 from rfl,hk7] at kc
 clear hk7
 have hb4:=hb.only ((Only.refl [] w4).alloc (.cells #[.slice qo 0 qc,.slice eo 0 ec] 32)) (by simp)
 have HI:=hid (is_hit p 11 _ hb4.c3)
 have o4:=hid (o3.trans q4 (by simp))
 clear hb hb4 hown hm1 q3 ho4 o3 q4
 go_wp2_with fail
 refine HI.out.mono ?_
 rintro e w5 ⟨rfl,ho5⟩
 go_wp2_with fail
 go_ret
 exact ⟨rfl,o4.out.trans ho5 (by simp)⟩

end Go.Proofs.YtildemmkhndhjaaGreatDoor
