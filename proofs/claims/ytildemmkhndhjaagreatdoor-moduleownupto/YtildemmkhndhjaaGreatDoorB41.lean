/-
  What the proof leans on, part 41 of 48. The conditions stand in each theorem.
-/
import Derived.Test.YtildemmkhndhjaaGreatDoorB40
import Derived.Deep.DeepCutAuto
import Derived.Test.YtildemmkhndhjaaGreatDoorB17
import Derived.Test.YtildemmkhndhjaaGreatDoorB28
namespace Go.Proofs.YtildemmkhndhjaaGreatDoor
open Go.RowKit

set_option maxHeartbeats 8000000 in
theorem rmethod_any {w : World} {sb r d : Nat} {t : St} (h : Sc w sb r d t) :
  Calls Tryz.prog 144 #[.pointer (some ⟨sb,0,none⟩)] w fun e w'=>∃ (m : Me) (t' : St) (vp vc vh : Value),e = .returned (meV vp vc vh m)∧MeFit m∧MeAt (OwR w' (w.heap.size + 1) fun _=>True) vp vc vh m∧Sc w' sb r d t'∧Out pMethod t m t'∧Only [sb,r] w w':=by
 have o0:=hid ((Only.refl [sb,r] w).alloc (.cells #[.int .i64 0,.string ⟨#[]⟩,.slice none 0 0,.bool false,.int .i64 0,.string ⟨#[]⟩,.int .i64 0,.int .i64 0,.slice none 0 0,.slice none 0 0] 41))
 have h0:=h.al (.cells #[.int .i64 0,.string ⟨#[]⟩,.slice none 0 0,.bool false,.int .i64 0,.string ⟨#[]⟩,.int .i64 0,.int .i64 0,.slice none 0 0,.slice none 0 0] 41)
 have hl:=h.lt
 clear h
 have R0:=hid (me10_new w (.int .i64 0) (.string ⟨#[]⟩) (.slice none 0 0) (.bool false) (.int .i64 0) (.string ⟨#[]⟩) (.int .i64 0) (.int .i64 0) (.slice none 0 0) (.slice none 0 0) 41)
 obtain ⟨W,hW⟩ : ∃ W,W = (w.alloc (.cells #[.int .i64 0,.string ⟨#[]⟩,.slice none 0 0,.bool false,.int .i64 0,.string ⟨#[]⟩,.int .i64 0,.int .i64 0,.slice none 0 0,.slice none 0 0] 41)):=⟨_,rfl⟩
 have hWs : W.heap.size = w.heap.size + 1:=by rw [hW]; simp
 rw [← hW] at R0 h0 o0
 replace hW:=hid hW
 replace hWs:=hid hWs
 have hk : Hid (W.cell? ⟨sb,0,none⟩ = some (.pointer (some ⟨r,0,none⟩))∧Only [sb,r] W W):=⟨h0.c0,Only.refl _ _⟩
 go_enter Tryz.func144,Tryz.ntmps144
 go_upto_region 1 with fail
 rw [← hW.out]
 go_cut [3] (fun s3 wx=>Mcut W sb r d t s3 wx)
 case first=>
  go_region_held3 (fun w'=>w'.cell? ⟨sb,0,none⟩ = some (.pointer (some ⟨r,0,none⟩))∧Only [sb,r] W w')
   (first | (with_reducible assumption) | (with_reducible exact hk.out) | (with_reducible exact kdrew0 hk.out) | (with_reducible exact kdrew0 (kalloc0 _ hk.out)) | (with_reducible exact kalloc0 _ (by assumption)) | (with_reducible exact kalloc0 _ hK1.out) | (with_reducible exact kcall0 (by assumption) (by assumption) (by assumption) (by simp)) | ((repeat' (with_reducible refine kput0 (by assumption) (by assumption) _ _ ?_)); (with_reducible assumption)))
   (first
    | (go_at_call 80; (with_reducible refine (sc_u1 (by (first | (with_reducible assumption) | (with_reducible exact Sc.drew (by assumption)) | (with_reducible exact Sc.al (by assumption) _) | (with_reducible exact Sc.drew (Sc.al (by assumption) _))))).mono ?_); rintro e w1 ⟨n,t1,rfl,hn,hs1,hO1,ho1⟩; (first | (with_reducible have hM:=Mn.newC (W:=W) (by assumption) hK1.out.2 ho1 (by simp)) | (with_reducible have hM:=Mn.newD (by assumption) ho1 (by simp)) | (with_reducible have hM:=Mn.callC (by assumption) ho1 (by simp)) | skip); (try have hMn:=hM.1); have hZs:=hid (kz (W:=W) (by assumption) ho1); have hK1:=hid (kcall0 (W:=W) (by assumption) hs1 ho1 (by simp)))
    | (go_at_call 138; (with_reducible refine (sc_text (by (first | (with_reducible assumption) | (with_reducible exact Sc.drew (by assumption)) | (with_reducible exact Sc.al (by assumption) _) | (with_reducible exact Sc.drew (Sc.al (by assumption) _))))).mono ?_); rintro e w1 ⟨x,t2,rfl,hx,hs2,hO2,ho2⟩; (first | (with_reducible have hM:=Mn.newC (W:=W) (by assumption) hK1.out.2 ho2 (by simp)) | (with_reducible have hM:=Mn.newD (by assumption) ho2 (by simp)) | (with_reducible have hM:=Mn.callC (by assumption) ho2 (by simp)) | skip); (try have hMn:=hM.1); have hZs:=hid (kz (W:=W) (by assumption) ho2); have hK1:=hid (kcall0 (W:=W) (by assumption) hs2 ho2 (by simp)))
    | (go_at_call 176; (with_reducible refine (rspell_sig (by (first | (with_reducible assumption) | (with_reducible exact Sc.drew (by assumption)) | (with_reducible exact Sc.al (by assumption) _) | (with_reducible exact Sc.drew (Sc.al (by assumption) _))))).mono ?_); rintro e w1 ⟨y,t3,ao,cap,rfl,hy,hown,hs3,hO3,ho3⟩; (first | (with_reducible have hM:=Mn.newC (W:=W) (by assumption) hK1.out.2 ho3 (by simp)) | (with_reducible have hM:=Mn.newD (by assumption) ho3 (by simp)) | (with_reducible have hM:=Mn.callC (by assumption) ho3 (by simp)) | skip); (try have hMn:=hM.1); have hZs:=hid (kz (W:=W) (by assumption) ho3); have hK1:=hid (kcall0 (W:=W) (by assumption) hs3 ho3 (by simp)); (try obtain ⟨⟨m0,m1,m2,m3,m4,m5,m6,m7,m8,m9,g0,g1,g2,g3,g4,g5,g6,g7,g8,g9⟩,mB,mn1,mn2,mn3⟩:=hM.1)))
  all_goals (go_wp2_with fail; go_meet)
  ·with_reducible exact Mcut.fresh hn hx hy hown hs3 hO1 hO2 hO3 hK1.out.2 hZs.out
  all_goals with_reducible exact Mcut.old hn hx hy hown hs3 hO1 hO2 hO3 hK1.out.2 hZs.out hM.1 hM.2
 case rest=>
  clear hk h0
  obtain ⟨lb,n,x,y,t3,ao,cap,rfl,hn,hx,hy,hown,hno,hS,ho,hL,hB,n1,n2,n3,t1,t2,hO1,hO2,hO3⟩:=hcut
  have hR:=R0.out.only ho (by simp; omega)
  have oW:=hid (o0.out.trans ho (by simp))
  have cS:=hS.c0
  have hws:=hWs.out
  have hp0 : OwR wc (w.heap.size + 1) (fun g=>g≠lb) 35 2 (.slice ao y.1.length cap) y.1.length (tcs y.1):=⟨rows_mono hown (by omega),hno⟩
  have hlr : lb≠w.heap.size:=by omega
  replace hp0:=hid hp0
  replace hO1:=hid hO1
  replace hO2:=hid hO2
  replace hO3:=hid hO3
  replace hno:=hid hno
  clear hown o0 R0
  by_cases e2 : n = 2
  ·subst e2
   have l0':=hL.c0
   have hL3:=hid hL
   have hR3:=hid hR
   have hS3:=hid hS
   have on3:=oW
   have hfit : Hid (MeFit ⟨2,x,y,0,0,[],[]⟩):=⟨by simp; omega,fun t ht=>Nat.le_trans (hy.params t ht) (by decide),Nat.le_trans hy.res (by decide),by simp⟩
   have hA3 : Hid (MeAt (OwR wc (w.heap.size + 1) fun _=>True) (.slice ao y.1.length cap) (.slice none 0 0) (.slice none 0 0) ⟨2,x,y,0,0,[],[]⟩):=⟨⟨hp0.out.1,fun _ _=>trivial⟩,⟨World.ownsRow_nil _ _ _ _,fun _ _=>trivial⟩,⟨World.ownsRow_nil _ _ _ _,fun _ _=>trivial⟩⟩
   have hout : Hid (Out pMethod t ⟨2,x,y,0,0,[],[]⟩ t3):=out_bind hO1.out (out_bind hO2.out (out_bind hO3.out (by rw [if_pos rfl]; exact out_done _ _)))
   clear hL hR
   obtain ⟨l0,l1,l2,l3,l4,l5,l6,l7,l8,l9,_,_,_,_,_,_,_,_,_,_⟩:=hL3.out
   obtain ⟨e0,e1,e2,e3,e4,e5,e6,e7,e8,e9,z0,z1,z2,z3,z4,z5,z6,z7,z8,z9⟩:=hR3.out
   go_wp2_with fail
   refine bodyPost_ret (v:=meV (.slice ao y.1.length cap) (.slice none 0 0) (.slice none 0 0) (⟨2,x,y,0,0,[],[]⟩)) (by simp [results,Tryz.results144,go_sem,e0,e1,e2,e3,e4,e5,e6,e7,e8,e9,meV] <;> rfl) rfl ?_
   obtain ⟨pp,qq⟩:=hR3.out.put (.int .i64 2) (.string (str x)) (.slice ao y.1.length cap) (.bool y.2.1) (.int .i64 y.2.2.1) (.string (str y.2.2.2)) (.int .i64 0) (.int .i64 0) (.slice none 0 0) (.slice none 0 0)
   exact ⟨⟨2,x,y,0,0,[],[]⟩,_,_,_,_,rfl,hfit.out,hA3.out.own qq (by simp),hS3.out.other (by simp) (.inr (.inl hR3.out.c1)) (by omega) qq,hout.out,on3.out.next qq (by simp)⟩
  ·have e2' : (((n : Int)) != 2) = true:=by simp; omega
   have hr : lb≠sb∧lb≠r:=⟨n1,n2⟩
   obtain ⟨gv,hgv⟩:=gv_ex lb
   replace hgv:=hid hgv
   have hk:=hid (knew10 hgv.out hS.c0 ho hL.c0 hL.c1 hL.c2 hL.c3 hL.c4 hL.c5 hL.c6 hL.c7 hL.c8 hL.c9 hL.f0 hL.f1 hL.f2 hL.f3 hL.f4 hL.f5 hL.f6 hL.f7 hL.f8 hL.f9)
   have l0':=hL.c0
   replace hL:=hid hL
   replace hR:=hid hR
   replace ho:=hid ho
   go_upto_region 3 with fail
   clear l0' cS
   go_cut [] (fun wx=>Mreg3 wc sb r d lb t3 (.int .i64 (n : Int)) (.string (str x)) (.slice ao y.1.length cap) (.bool y.2.1) (.int .i64 y.2.2.1) (.string (str y.2.2.2)) (.slice none 0 0) (.slice none 0 0) wx)
   case first=>
    go_region_held3 (fun w'=>w'.cell? ⟨sb,0,none⟩ = some (.pointer (some ⟨r,0,none⟩))∧Only [sb,r] W w'∧w'.cell? ⟨lb,0,none⟩ = some (gv 0 w')∧w'.cell? ⟨lb,1,none⟩ = some (gv 1 w')∧w'.cell? ⟨lb,2,none⟩ = some (gv 2 w')∧w'.cell? ⟨lb,3,none⟩ = some (gv 3 w')∧w'.cell? ⟨lb,4,none⟩ = some (gv 4 w')∧w'.cell? ⟨lb,5,none⟩ = some (gv 5 w')∧w'.cell? ⟨lb,6,none⟩ = some (gv 6 w')∧w'.cell? ⟨lb,7,none⟩ = some (gv 7 w')∧w'.cell? ⟨lb,8,none⟩ = some (gv 8 w')∧w'.cell? ⟨lb,9,none⟩ = some (gv 9 w')∧w'.frozen? ⟨lb,0,none⟩ = false∧w'.frozen? ⟨lb,1,none⟩ = false∧w'.frozen? ⟨lb,2,none⟩ = false∧w'.frozen? ⟨lb,3,none⟩ = false∧w'.frozen? ⟨lb,4,none⟩ = false∧w'.frozen? ⟨lb,5,none⟩ = false∧w'.frozen? ⟨lb,6,none⟩ = false∧w'.frozen? ⟨lb,7,none⟩ = false∧w'.frozen? ⟨lb,8,none⟩ = false∧w'.frozen? ⟨lb,9,none⟩ = false)
     (first | (with_reducible exact hk.out) | (with_reducible exact kdrew10 hgv.out hk.out) | ((with_reducible refine kset10 hgv.out hr hB _ _ ?_); (with_reducible assumption)) | (with_reducible exact kcall10 hgv.out hr (by assumption) (by assumption) (by assumption) (by simp)))
     (first
      | (go_at_call 80; (first | (with_reducible refine (sc_u1 (by assumption)).mono ?_) | (with_reducible refine (sc_u1 (Sc.drew (by assumption))).mono ?_)); rintro e w1 ⟨m,t',rfl,hm,hs,hO2,ho⟩; obtain ⟨_,_,k0,k1,k2,k3,k4,k5,k6,k7,k8,k9,z0,z1,z2,z3,z4,z5,z6,z7,z8,z9⟩:=kcall10 hgv.out hr (by assumption) hs ho (by simp)))
    go_wp2_with fail
    go_meet
    with_reducible exact mreg3 hL.out (by simp) (by assumption) (by assumption) (by assumption) (by assumption) (by assumption) ⟨n1,n2,n3⟩
   obtain ⟨sa,sl,t5,t4,hL3,oc3,hS3,hO4,hO5⟩:=hcut
   have hA3:=owr_only oc3 (S:=[r,lb]) (P:=fun g=>g≠lb∧g≠r) (by simp; omega) _ _ _ _ _ (owr_mono (Nat.le_refl _) (fun g h1 h2 _=>⟨h1,by omega⟩) _ _ _ _ _ hp0.out)
   have hR3:=hR.out.only oc3 (by simp; omega)
   have oW3:=oW.out.trans oc3 (by simp; omega)
   have ow3:=ho.out.trans oc3 (by simp; omega)
   clear hk hS hL hR ho oW hp0 oc3
   obtain ⟨w0,rfl⟩ : ∃ w0,w0 = wc:=⟨_,rfl⟩
   have hk:=hid (knew10 hgv.out hS3.c0 ow3 hL3.c0 hL3.c1 hL3.c2 hL3.c3 hL3.c4 hL3.c5 hL3.c6 hL3.c7 hL3.c8 hL3.c9 hL3.f0 hL3.f1 hL3.f2 hL3.f3 hL3.f4 hL3.f5 hL3.f6 hL3.f7 hL3.f8 hL3.f9)
   replace hL3:=hid hL3
   replace hR3:=hid hR3
   replace oW3:=hid oW3
   replace ow3:=hid ow3
   replace hO4:=hid hO4
   replace hO5:=hid hO5
   replace hA3:=hid hA3
   go_upto_region 4 with fail
   go_cut [] (fun wx=>Mreg4 W w0 sb r d lb t4 (.int .i64 (n : Int)) (.string (str x)) (.slice ao y.1.length cap) (.bool y.2.1) (.int .i64 y.2.2.1) (.string (str y.2.2.2)) (.int .i64 (sa : Int)) (.int .i64 (sl : Int)) (.slice none 0 0) wx)
   case first=>
    go_region_held3 (fun w'=>w'.cell? ⟨sb,0,none⟩ = some (.pointer (some ⟨r,0,none⟩))∧Only [sb,r] W w'∧w'.cell? ⟨lb,0,none⟩ = some (gv 0 w')∧w'.cell? ⟨lb,1,none⟩ = some (gv 1 w')∧w'.cell? ⟨lb,2,none⟩ = some (gv 2 w')∧w'.cell? ⟨lb,3,none⟩ = some (gv 3 w')∧w'.cell? ⟨lb,4,none⟩ = some (gv 4 w')∧w'.cell? ⟨lb,5,none⟩ = some (gv 5 w')∧w'.cell? ⟨lb,6,none⟩ = some (gv 6 w')∧w'.cell? ⟨lb,7,none⟩ = some (gv 7 w')∧w'.cell? ⟨lb,8,none⟩ = some (gv 8 w')∧w'.cell? ⟨lb,9,none⟩ = some (gv 9 w')∧w'.frozen? ⟨lb,0,none⟩ = false∧w'.frozen? ⟨lb,1,none⟩ = false∧w'.frozen? ⟨lb,2,none⟩ = false∧w'.frozen? ⟨lb,3,none⟩ = false∧w'.frozen? ⟨lb,4,none⟩ = false∧w'.frozen? ⟨lb,5,none⟩ = false∧w'.frozen? ⟨lb,6,none⟩ = false∧w'.frozen? ⟨lb,7,none⟩ = false∧w'.frozen? ⟨lb,8,none⟩ = false∧w'.frozen? ⟨lb,9,none⟩ = false)
     (first | (with_reducible exact hk.out) | (with_reducible exact kdrew10 hgv.out hk.out) | ((with_reducible refine kset10 hgv.out hr hB _ _ ?_); (with_reducible assumption)) | (with_reducible exact kcall10 hgv.out hr (by assumption) (by assumption) (by assumption) (by simp)))
     (first
      | (go_at_call 77; (first | (with_reducible refine (sc_u2 (by assumption)).mono ?_) | (with_reducible refine (sc_u2 (Sc.drew (by assumption))).mono ?_)); rintro e w1 ⟨m,t',rfl,hm,hs,hO2,ho⟩)
      | (go_at_call 74; (with_reducible refine (sc_bytes (by assumption) _).mono ?_); rintro e w1 ⟨x2,t9,ao2,cap2,rfl,hx2,hown2,hs,hO9,ho⟩; obtain ⟨_,_,k0,k1,k2,k3,k4,k5,k6,k7,k8,k9,z0,z1,z2,z3,z4,z5,z6,z7,z8,z9⟩:=kcall10 hgv.out hr (by assumption) hs ho (by simp)))
    go_wp2_with fail
    go_meet
    with_reducible exact mreg4 hL3.out (by simp) ow3.out.size (by assumption) (by assumption) (by assumption) (by assumption) (by assumption) (by assumption) ⟨n1,n2,n3⟩
   obtain ⟨nc,code,t6,t7,co,ccap,hL4,oc4,hS4,hO6,hO7,hC4⟩:=hcut
   have hA4:=owr_only oc4 (S:=[r,lb]) (P:=fun g=>g≠lb∧g≠r) (by simp; omega) _ _ _ _ _ hA3.out
   have hR4:=hid (hR3.out.only oc4 (by simp; omega))
   have oW4:=hid (oW3.out.trans oc4 (by simp; omega))
   clear hk hS3 hL3 hR3 oW3 hA3 oc4 ow3
   have hC5 : OwR wc (w.heap.size + 1) (fun g=>g≠lb∧g≠r) 5 1 (.slice co code.length ccap) code.length (bcs code):=owr_mono (by omega) (fun g h1 h2 _=>⟨h1,by omega⟩) _ _ _ _ _ hC4
   clear hC4
   have cS:=hS4.c0
   have HR:=rows_hd hS4 32 (by decide)
   have e32 : ((32 : Nat) : Int) = 32:=rfl
   rw [e32] at HR
   replace HR:=hid HR
   have hlb : lb < wc.heap.size:=World.block_lt_of_cell? wc _ hL4.c0
   replace hL4:=hid hL4
   replace hA4:=hid hA4
   replace hC5:=hid hC5
   replace hO6:=hid hO6
   replace hO7:=hid hO7
   clear e32
   go_wp2_with fail
   refine HR.out.mono ?_
   rintro e w5 ⟨hds,t8,ho_,hcap,rfl,hH5,hHl,hHn,hS5,hO8,oc5⟩
   clear HR
   have hL5:=hL4.out.only oc5 (by simp [n1,n2])
   have hR5:=hR4.out.only oc5 (by simp; omega)
   have oW5:=oW4.out.trans oc5 (by simp)
   have hp5:=owr_only oc5 (P:=fun g=>g≠lb∧g≠r∧g≠sb) (by simp; omega) _ _ _ _ _ (owr_mono (Nat.le_refl _) (fun g h1 h2 _=>⟨h1.1,h1.2,by omega⟩) _ _ _ _ _ hA4.out)
   have hc5:=owr_only oc5 (P:=fun g=>g≠lb∧g≠r∧g≠sb) (by simp; omega) _ _ _ _ _ (owr_mono (Nat.le_refl _) (fun g h1 h2 _=>⟨h1.1,h1.2,by omega⟩) _ _ _ _ _ hC5.out)
   have oS : Only [lb] w5 (w5.setCell ⟨lb,9,none⟩ (.slice ho_ hds.length hcap)):=(Only.refl [lb] w5).setCell (.inl (by simp)) _
   have hne : ∀ k,(Value.slice ho_ hds.length hcap).ownBlock = some k→k≠lb:=fun k hk=>by
    have:=(hH5.lt k hk).1
    omega
   have hws4:=oW4.out.size
   have hf9:=hL5.f9
   have hc9:=hL5.c9
   have hL3:=hid (hL5.put9 (.slice ho_ hds.length hcap))
   have hR3:=hid (hR5.only oS (by simp; omega))
   have hS3:=hid (hS5.other (by simp) (.inr (.inl hL5.c1)) ⟨n1,n2,n3⟩ oS)
   have on3:=hid (oW5.trans oS (by simp; omega))
   have hfit : Hid (MeFit ⟨n,x,y,sa,sl,code,hds⟩):=⟨by simp; omega,fun t ht=>Nat.le_trans (hy.params t ht) (by decide),Nat.le_trans hy.res (by decide),fun h hh=>Nat.le_trans (hHl h hh) (by decide)⟩
   have hA3 : Hid (MeAt (OwR (w5.setCell ⟨lb,9,none⟩ (.slice ho_ hds.length hcap)) (w.heap.size + 1) fun _=>True) (.slice ao y.1.length cap) (.slice co code.length ccap) (.slice ho_ hds.length hcap) ⟨n,x,y,sa,sl,code,hds⟩):=
    ⟨⟨rows_only hp5.1 oS (fun k hk=>by simp [(hp5.2 k hk).1]),fun _ _=>trivial⟩,⟨rows_only hc5.1 oS (fun k hk=>by simp [(hc5.2 k hk).1]),fun _ _=>trivial⟩,⟨rows_mono (rows_only hH5 oS (fun k hk=>by simp [hne k hk])) (by omega),fun _ _=>trivial⟩⟩
   have hout : Hid (Out pMethod t ⟨n,x,y,sa,sl,code,hds⟩ t8):=out_bind hO1.out (out_bind hO2.out (out_bind hO3.out (by rw [if_neg e2]; exact out_bind hO4.out (out_bind hO5.out (out_bind hO6.out (out_bind hO7.out (out_bind hO8 (out_done _ _))))))))
   clear hL5 hR5 hp5 hc5 oS hne hS5 hO8 oc5 hH5 cS hL4 hA4 hC5
   obtain ⟨l0,l1,l2,l3,l4,l5,l6,l7,l8,l9,_,_,_,_,_,_,_,_,_,_⟩:=hL3.out
   obtain ⟨e0,e1,e2,e3,e4,e5,e6,e7,e8,e9,z0,z1,z2,z3,z4,z5,z6,z7,z8,z9⟩:=hR3.out
   go_wp2_with fail
   refine bodyPost_ret (v:=meV (.slice ao y.1.length cap) (.slice co code.length ccap) (.slice ho_ hds.length hcap) (⟨n,x,y,sa,sl,code,hds⟩)) (by simp [results,Tryz.results144,go_sem,e0,e1,e2,e3,e4,e5,e6,e7,e8,e9,meV] <;> rfl) rfl ?_
   obtain ⟨pp,qq⟩:=hR3.out.put (.int .i64 (n : Int)) (.string (str x)) (.slice ao y.1.length cap) (.bool y.2.1) (.int .i64 y.2.2.1) (.string (str y.2.2.2)) (.int .i64 (sa : Int)) (.int .i64 (sl : Int)) (.slice co code.length ccap) (.slice ho_ hds.length hcap)
   exact ⟨⟨n,x,y,sa,sl,code,hds⟩,_,_,_,_,rfl,hfit.out,hA3.out.own qq (by simp),hS3.out.other (by simp) (.inr (.inl hR3.out.c1)) (by omega) qq,hout.out,on3.out.next qq (by simp)⟩




/-- The rows of the elements are not the row itself. -/
def OffB (ao : Option Addr) (g : Nat) : Prop:=∀ a,ao = some a→g≠a.block

theorem owr_grow {w1 w2 w3 : World} {B sb r : Nat} {o : Obj} {e : TypeId} {k m n' cap' : Nat} {ao ao' : Option Addr} {zs : List Value} (ho2 : Only [sb,r] w1 w2) (hB : sb < B∧r < B) (hA : Appd (w2.alloc o) w3 B e k ao ao' m n' cap' zs) : ∀ e' k' v n cs,OwR w1 B (OffB ao) e' k' v n cs→OwR w3 B (OffB ao') e' k' v n cs:=by
 intro e' k' v n cs h
 have hs:=(ho2.alloc o).size
 refine ⟨rows_only (rows_only h.1 (ho2.alloc o) fun g hg=>?_) hA.only fun g hg=>?_,fun g hg a ha=>?_⟩
 ·have:=(h.1.lt g hg).1
  simp
  omega
 ·cases ao with
  | none=>simp [Value.ownBlock]
  | some a=>
   have:=h.2 g hg a rfl
   simpa [Value.ownBlock] using this
 ·have hlt:=h.1.lt g hg
  rcases hA.place a ha with ⟨a',h1,h2⟩ | h2
  ·rw [← h2]
   exact h.2 g hg a' h1
  ·omega

theorem owr_new {w1 w2 w3 : World} {B : Nat} {o : Obj} {e : TypeId} {k m n n' cap cap' : Nat} {ao ao' : Option Addr} {xs zs : List Value} (hown : w1.ownsRow B e k (.slice ao n cap) n xs) (h1 : B≤w1.heap.size) (hA : Appd (w2.alloc o) w3 B e k ao ao' m n' cap' zs) : ∀ e' k' v n cs,OwR w2 (w1.heap.size + 1) (fun _=>True) e' k' v n cs→OwR w3 B (OffB ao') e' k' v n cs:=by
 intro e' k' v nn cs h
 refine ⟨rows_mono (rows_only (rows_only h.1 ((Only.refl [] w2).alloc o) (by simp)) hA.only fun g hg=>?_) (by omega),fun g hg a ha=>?_⟩
 ·have:=(h.1.lt g hg).1
  cases ao with
  | none=>simp [Value.ownBlock]
  | some a=>
   have h2:=(hown.lt a.block rfl).2
   simp [Value.ownBlock]
   omega
 ·have hlt:=h.1.lt g hg
  rcases hA.place a ha with ⟨a',h3,h4⟩ | h4
  ·subst h3
   have h2:=(hown.lt a'.block rfl).2
   omega
  ·simp at h4
   omega

/-- Each of a list is so. -/
def AllFit {α : Type} (P : α→Prop) (l : List α) : Prop:=∀ x∈l,P x

theorem MeAt.one {w : World} {B : Nat} {P : Nat→Prop} {vp vc vh : Value} {m : Me} (h : MeAt (OwR w B P) vp vc vh m) : ∀ u∈meC vp vc vh m,u.oneCell' = true:=by
 have h1:=(owr_slice h.params).one
 have h2:=(owr_slice h.code).one
 have h3:=(owr_slice h.hands).one
 intro u hu
 simp only [meC,List.mem_cons,List.not_mem_nil,or_false] at hu
 rcases hu with rfl | rfl | rfl | rfl | rfl | rfl | rfl | rfl | rfl | rfl <;> first | assumption | rfl

theorem els_grow {w1 w2 w3 : World} {B sb r : Nat} {o : Obj} {e : TypeId} {k m n n' cap cap' : Nat} {ao ao' : Option Addr} {zs mcs : List Value} {xs : List Me} {x : Me} {vp vc vh : Value} (hE : Els 10 (MeC (OwR w1 B (OffB ao))) mcs xs) (hx : MeAt (OwR w2 (w1.heap.size + 1) fun _=>True) vp vc vh x)
  (hown : w1.ownsRow B e k (.slice ao n cap) n mcs) (h1 : B≤w1.heap.size) (ho2 : Only [sb,r] w1 w2) (hB : sb < B∧r < B) (hA : Appd (w2.alloc o) w3 B e k ao ao' m n' cap' zs) : Els 10 (MeC (OwR w3 B (OffB ao'))) (mcs ++ meC vp vc vh x) (xs ++ [x]):=
 (hE.imp fun _ _ _ h=>h.imp (owr_grow ho2 hB hA)).snoc rfl ⟨vp,vc,vh,rfl,hx.imp (owr_new hown h1 hA)⟩

theorem Els.second {R : Rp} {cs : List Value} {y : Me} {ys : List Me} (h : Els 10 (MeC R) cs (y :: ys)) : ∃ u,(∀ x,u≠Value.int .i64 x)∧cs[1]? = some u:=by
 obtain ⟨vp,vc,vh,he,_⟩:=h.el 0 (by simp)
 refine ⟨.string (str y.name),by simp,?_⟩
 have : ((cs.drop (0 * 10)).take 10)[1]? = cs[1]?:=by rw [List.getElem?_take,if_pos (by omega),Nat.zero_mul,List.drop_zero]
 rw [← this,he]
 rfl

set_option maxHeartbeats 4000000 in
theorem rows_me {w : World} {sb r d : Nat} {t : St} (h : Sc w sb r d t) (most : Nat) (hmost : most≤100000) :
  Calls Tryz.prog 143 #[.pointer (some ⟨sb,0,none⟩),.func (.func 80) #[.pointer (some ⟨r,0,none⟩)] #[],.int .i64 (most : Int),.func (.func 144) #[.pointer (some ⟨sb,0,none⟩)] #[]] w
   fun e w'=>∃ (xs : List Me) (t' : St) (ao : Option Addr) (cap : Nat),e = .returned (.slice ao xs.length cap)∧∃ mcs : List Value,w'.ownsRow w.heap.size 41 10 (.slice ao xs.length cap) xs.length mcs∧Els 10 (MeC (OwR w' w.heap.size (OffB ao))) mcs xs∧AllFit MeFit xs∧xs.length≤65536∧Sc w' sb r d t'∧Out (pRows 1 most pMethod) t xs t'∧Only [sb,r] w w':=by
 have c0:=h.c0
 have hl:=hid h.lt
 have HA:=hid (sc_at h)
 have HU:=hid (sc_u1 h)
 clear h
 go_enter Tryz.func143,Tryz.ntmps143
 go_wp2_with fail
 refine HA.out.mono ?_
 rintro e w1 ⟨at_,rfl,hat,rfl⟩
 go_wp2_with fail
 refine HU.out.mono ?_
 rintro e w1 ⟨n,t0,rfl,hn,h0,hO,ho1⟩
 clear HA HU c0
 have o1 : Hid (Only [sb,r] w w1):=ho1.mono (by simp)
 replace hat:=hid hat
 replace hO:=hid hO
 by_cases hm : most < n
 ·have gm : (most : Int) < (n : Int):=by omega
  have HR:=hid (refuse_src h0 (at_ : Int) 4 (by decide))
  go_wp2_with fail
  refine HR.out.mono ?_
  rintro e w2 ⟨rfl,hS2,ho2⟩
  clear HR
  have hSt:=hid hS2
  have oSt:=hid (o1.out.trans ho2 (by simp))
  clear hS2 ho2 ho1 h0
  go_wp2_with fail
  go_loopw [11] (fun l wr=>∃ (xs : List Me) (t1 : St) (ao : Option Addr) (cap : Nat) (mcs : List Value),l = .slice ao xs.length cap∧xs.length≤n∧Hid (wr.ownsRow w.heap.size 41 10 (.slice ao xs.length cap) xs.length mcs)∧Hid (Els 10 (MeC (OwR wr w.heap.size (OffB ao))) mcs xs)∧Hid (xs = []→ao = none)∧Hid (AllFit MeFit xs)∧Hid (Sc wr sb r d t1)∧Hid ((most < n∧t1 = tRefuse (at_ : Int) 4 t0∧xs = [])∨(¬ most < n∧Far pMethod n t0 xs t1))∧Hid (Only [sb,r] w wr)) (fun l _=>n - sliceLen l)
  case atStart=>exact ⟨[],_,none,0,[],rfl,by simp,World.ownsRow_nil _ _ _ _,hid (Els.nil _ _),hid (fun _=>rfl),hid (fun _ h=>by cases h),hSt,hid (.inl ⟨hm,rfl,rfl⟩),oSt⟩
  case round=>
   obtain ⟨xs,t1,ao,cap,mcs,rfl,hxn,hown,hE,hnil,hlen,hS,hF,hO1⟩:=hrel
   clear hSt oSt
   have HFi:=hid (fine_src hS.out)
   by_cases hlt : xs.length < n
   ·have g1 : ((xs.length : Int) < (n : Int)):=by omega
    cases hfi : isFine t1 with
    | true=>
     rw [hfi] at HFi
     have hFar : Hid (¬ most < n∧Far pMethod n t0 xs t1):=by
      rcases hF.out with ⟨_,h2,_⟩ | h2
      ·rw [h2] at hfi
       cases t0 <;> cases hfi
      ·exact h2
     have HR:=hid (rmethod_any hS.out)
     unfold meV at HR
     have c0:=hS.out.c0
     go_wp2_with fail
     refine HFi.out.mono ?_
     rintro e w2 ⟨rfl,rfl⟩
     go_wp2_with fail
     refine HR.out.mono ?_
     rintro e w2 ⟨x,t2,vp,vc,vh,rfl,hxl,hAt,hS2,hOx,ho2⟩
     clear HR c0
     have hl1:=hl.out
     have hown2:=rows_only hown.out (ho2.alloc (.cells #[.int .i64 x.flags,.string (str x.name),vp,.bool x.sig.2.1,.int .i64 x.sig.2.2.1,.string (str x.sig.2.2.2),.int .i64 x.stack,.int .i64 x.locals,vc,vh] 41)) (fun g hg=>by have:=(hown.out.lt g hg).1; simp; omega)
     have o2:=hid ((hO1.out.trans ho2 (by simp)).alloc (.cells #[.int .i64 x.flags,.string (str x.name),vp,.bool x.sig.2.1,.int .i64 x.sig.2.2.1,.string (str x.sig.2.2.2),.int .i64 x.stack,.int .i64 x.locals,vc,vh] 41))
     have hR:=RS.fresh w2 #[.int .i64 x.flags,.string (str x.name),vp,.bool x.sig.2.1,.int .i64 x.sig.2.2.1,.string (str x.sig.2.2.2),.int .i64 x.stack,.int .i64 x.locals,vc,vh] 41
     have hS3:=hid (hS2.only0 ((Only.refl [] w2).alloc (.cells #[.int .i64 x.flags,.string (str x.name),vp,.bool x.sig.2.1,.int .i64 x.sig.2.2.1,.string (str x.sig.2.2.2),.int .i64 x.stack,.int .i64 x.locals,vc,vh] 41)))
     have hOw:=hid hown2
     have hone : ∀ u∈meC vp vc vh x,u.oneCell' = true:=hAt.one
     replace hAt:=hid hAt
     go_wp2_with (at_builtin; refine wpList_append_any (ys:=meC vp vc vh x) rfl (.tmp 33) (.tmp 36) elMe Tryz.underlying26 rfl rfl rfl hown2 hR rfl hone (by simp) (by omega) (by have:=o2.out.size; omega) ?_; rintro ao3 cap3 w3 hA3)
     have hE3:=hid (els_grow (o:=.cells #[.int .i64 x.flags,.string (str x.name),vp,.bool x.sig.2.1,.int .i64 x.sig.2.2.1,.string (str x.sig.2.2.2),.int .i64 x.stack,.int .i64 x.locals,vc,vh] 41) hE.out hAt.out hown.out hO1.out.size ho2 (by omega) hA3)
     have hfin : Hid (Sc w3 sb r d t2):=by
      cases xs with
      | nil=>
       have hno:=hnil.out rfl
       exact hS3.out.row hOw.out hA3 (by omega) (u:=.string ⟨#[]⟩) (by simp) (fun h=>absurd hno h)
      | cons y ys=>
       obtain ⟨u,hu,hm⟩:=hE.out.second
       exact hS3.out.row hOw.out hA3 (by omega) hu (fun _=>.inr (.inl hm))
     have o3:=hid (o2.out.next hA3.only (fun z hz=>by
      cases ao with
      | none=>simp [Value.ownBlock] at hz
      | some a=>
       simp [Value.ownBlock] at hz
       subst hz
       exact (hOw.out.lt a.block rfl).1))
     have hown3:=hid hA3.own
     clear hA3 hAt hown2
     go_wp2_with fail
     refine ⟨⟨xs ++ [x],t2,ao3,cap3,_,by simp,by simp; omega,by simpa [Hid] using hown3,hE3,hid (by simp),hid (by
      intro y hy
      rcases List.mem_append.1 hy with hy | hy
      ·exact hlen.out y hy
      ·rw [List.mem_singleton.1 hy]; exact hxl),hfin,hid (.inr ⟨hFar.out.1,far_step hFar.out.2 hfi hOx hlt⟩),o3⟩,by simp [sliceLen]; omega⟩
    | false=>
     rw [hfi] at HFi
     go_wp2_with fail
     refine HFi.out.mono ?_
     rintro e w2 ⟨rfl,rfl⟩
     go_wp2_with fail
     go_ret
     refine ⟨xs,t1,ao,cap,rfl,mcs,hown.out,hE.out,hlen.out,by omega,hS.out,out_rows hO.out hat.out ?_,hO1.out⟩
     rcases hF.out with ⟨h1,h2,_⟩ | ⟨h1,h2⟩
     ·exact .inl ⟨h1,h2⟩
     ·exact .inr ⟨h1,h2,fun hf=>by rw [hfi] at hf; cases hf⟩
   ·have g1 : ¬ ((xs.length : Int) < (n : Int)):=by omega
    go_wp2_with fail
    go_ret
    refine ⟨xs,t1,ao,cap,rfl,mcs,hown.out,hE.out,hlen.out,by omega,hS.out,out_rows hO.out hat.out ?_,hO1.out⟩
    rcases hF.out with ⟨h1,h2,_⟩ | ⟨h1,h2⟩
    ·exact .inl ⟨h1,h2⟩
    ·exact .inr ⟨h1,h2,fun _=>by omega⟩
 ·have gm : ¬ (most : Int) < (n : Int):=by omega
  have hSt:=hid h0
  have oSt:=o1
  clear ho1 h0
  go_wp2_with fail
  go_loopw [11] (fun l wr=>∃ (xs : List Me) (t1 : St) (ao : Option Addr) (cap : Nat) (mcs : List Value),l = .slice ao xs.length cap∧xs.length≤n∧Hid (wr.ownsRow w.heap.size 41 10 (.slice ao xs.length cap) xs.length mcs)∧Hid (Els 10 (MeC (OwR wr w.heap.size (OffB ao))) mcs xs)∧Hid (xs = []→ao = none)∧Hid (AllFit MeFit xs)∧Hid (Sc wr sb r d t1)∧Hid ((most < n∧t1 = tRefuse (at_ : Int) 4 t0∧xs = [])∨(¬ most < n∧Far pMethod n t0 xs t1))∧Hid (Only [sb,r] w wr)) (fun l _=>n - sliceLen l)
  case atStart=>exact ⟨[],_,none,0,[],rfl,by simp,World.ownsRow_nil _ _ _ _,hid (Els.nil _ _),hid (fun _=>rfl),hid (fun _ h=>by cases h),hSt,hid (.inr ⟨hm,far_start _ _ _⟩),oSt⟩
  case round=>
   obtain ⟨xs,t1,ao,cap,mcs,rfl,hxn,hown,hE,hnil,hlen,hS,hF,hO1⟩:=hrel
   clear hSt oSt
   have HFi:=hid (fine_src hS.out)
   by_cases hlt : xs.length < n
   ·have g1 : ((xs.length : Int) < (n : Int)):=by omega
    cases hfi : isFine t1 with
    | true=>
     rw [hfi] at HFi
     have hFar : Hid (¬ most < n∧Far pMethod n t0 xs t1):=by
      rcases hF.out with ⟨_,h2,_⟩ | h2
      ·rw [h2] at hfi
       cases t0 <;> cases hfi
      ·exact h2
     have HR:=hid (rmethod_any hS.out)
     unfold meV at HR
     have c0:=hS.out.c0
     go_wp2_with fail
     refine HFi.out.mono ?_
     rintro e w2 ⟨rfl,rfl⟩
     go_wp2_with fail
     refine HR.out.mono ?_
     rintro e w2 ⟨x,t2,vp,vc,vh,rfl,hxl,hAt,hS2,hOx,ho2⟩
     clear HR c0
     have hl1:=hl.out
     have hown2:=rows_only hown.out (ho2.alloc (.cells #[.int .i64 x.flags,.string (str x.name),vp,.bool x.sig.2.1,.int .i64 x.sig.2.2.1,.string (str x.sig.2.2.2),.int .i64 x.stack,.int .i64 x.locals,vc,vh] 41)) (fun g hg=>by have:=(hown.out.lt g hg).1; simp; omega)
     have o2:=hid ((hO1.out.trans ho2 (by simp)).alloc (.cells #[.int .i64 x.flags,.string (str x.name),vp,.bool x.sig.2.1,.int .i64 x.sig.2.2.1,.string (str x.sig.2.2.2),.int .i64 x.stack,.int .i64 x.locals,vc,vh] 41))
     have hR:=RS.fresh w2 #[.int .i64 x.flags,.string (str x.name),vp,.bool x.sig.2.1,.int .i64 x.sig.2.2.1,.string (str x.sig.2.2.2),.int .i64 x.stack,.int .i64 x.locals,vc,vh] 41
     have hS3:=hid (hS2.only0 ((Only.refl [] w2).alloc (.cells #[.int .i64 x.flags,.string (str x.name),vp,.bool x.sig.2.1,.int .i64 x.sig.2.2.1,.string (str x.sig.2.2.2),.int .i64 x.stack,.int .i64 x.locals,vc,vh] 41)))
     have hOw:=hid hown2
     have hone : ∀ u∈meC vp vc vh x,u.oneCell' = true:=hAt.one
     replace hAt:=hid hAt
     go_wp2_with (at_builtin; refine wpList_append_any (ys:=meC vp vc vh x) rfl (.tmp 33) (.tmp 36) elMe Tryz.underlying26 rfl rfl rfl hown2 hR rfl hone (by simp) (by omega) (by have:=o2.out.size; omega) ?_; rintro ao3 cap3 w3 hA3)
     have hE3:=hid (els_grow (o:=.cells #[.int .i64 x.flags,.string (str x.name),vp,.bool x.sig.2.1,.int .i64 x.sig.2.2.1,.string (str x.sig.2.2.2),.int .i64 x.stack,.int .i64 x.locals,vc,vh] 41) hE.out hAt.out hown.out hO1.out.size ho2 (by omega) hA3)
     have hfin : Hid (Sc w3 sb r d t2):=by
      cases xs with
      | nil=>
       have hno:=hnil.out rfl
       exact hS3.out.row hOw.out hA3 (by omega) (u:=.string ⟨#[]⟩) (by simp) (fun h=>absurd hno h)
      | cons y ys=>
       obtain ⟨u,hu,hm⟩:=hE.out.second
       exact hS3.out.row hOw.out hA3 (by omega) hu (fun _=>.inr (.inl hm))
     have o3:=hid (o2.out.next hA3.only (fun z hz=>by
      cases ao with
      | none=>simp [Value.ownBlock] at hz
      | some a=>
       simp [Value.ownBlock] at hz
       subst hz
       exact (hOw.out.lt a.block rfl).1))
     have hown3:=hid hA3.own
     clear hA3 hAt hown2
     go_wp2_with fail
     refine ⟨⟨xs ++ [x],t2,ao3,cap3,_,by simp,by simp; omega,by simpa [Hid] using hown3,hE3,hid (by simp),hid (by
      intro y hy
      rcases List.mem_append.1 hy with hy | hy
      ·exact hlen.out y hy
      ·rw [List.mem_singleton.1 hy]; exact hxl),hfin,hid (.inr ⟨hFar.out.1,far_step hFar.out.2 hfi hOx hlt⟩),o3⟩,by simp [sliceLen]; omega⟩
    | false=>
     rw [hfi] at HFi
     go_wp2_with fail
     refine HFi.out.mono ?_
     rintro e w2 ⟨rfl,rfl⟩
     go_wp2_with fail
     go_ret
     refine ⟨xs,t1,ao,cap,rfl,mcs,hown.out,hE.out,hlen.out,by omega,hS.out,out_rows hO.out hat.out ?_,hO1.out⟩
     rcases hF.out with ⟨h1,h2,_⟩ | ⟨h1,h2⟩
     ·exact .inl ⟨h1,h2⟩
     ·exact .inr ⟨h1,h2,fun hf=>by rw [hfi] at hf; cases hf⟩
   ·have g1 : ¬ ((xs.length : Int) < (n : Int)):=by omega
    go_wp2_with fail
    go_ret
    refine ⟨xs,t1,ao,cap,rfl,mcs,hown.out,hE.out,hlen.out,by omega,hS.out,out_rows hO.out hat.out ?_,hO1.out⟩
    rcases hF.out with ⟨h1,h2,_⟩ | ⟨h1,h2⟩
    ·exact .inl ⟨h1,h2⟩
    ·exact .inr ⟨h1,h2,fun _=>by omega⟩

end Go.Proofs.YtildemmkhndhjaaGreatDoor
