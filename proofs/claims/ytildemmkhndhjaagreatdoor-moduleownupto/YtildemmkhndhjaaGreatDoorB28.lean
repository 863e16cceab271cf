/-
  What the proof leans on, part 28 of 48. The conditions stand in each theorem.
-/
import Derived.Test.YtildemmkhndhjaaGreatDoorB22
import Derived.Test.YtildemmkhndhjaaGreatDoorB26
namespace Go.Proofs.YtildemmkhndhjaaGreatDoor
open Go.RowKit

/-- A class in a block. -/
structure ClBlk (w : World) (b : Nat) (vf vd vm : Value) (c : Cl) : Prop where
 c0 : w.cell? ⟨b,0,none⟩ = some (.int .i64 c.flags)
 c1 : w.cell? ⟨b,1,none⟩ = some (.string (str c.name))
 c2 : w.cell? ⟨b,2,none⟩ = some (.string (str c.super))
 c3 : w.cell? ⟨b,3,none⟩ = some vf
 c4 : w.cell? ⟨b,4,none⟩ = some vd
 c5 : w.cell? ⟨b,5,none⟩ = some vm

theorem ClBlk.only {w w' : World} {S : List Nat} {b : Nat} {vf vd vm : Value} {c : Cl} (h : ClBlk w b vf vd vm c) (ho : Only S w w') (hb : b ∉ S) : ClBlk w' b vf vd vm c:=by
 have hl : b < w.heap.size:=World.block_lt_of_cell? w _ h.c1
 exact ⟨(ho.cell (p:=⟨b,0,none⟩) hl hb).trans h.c0,(ho.cell (p:=⟨b,1,none⟩) hl hb).trans h.c1,(ho.cell (p:=⟨b,2,none⟩) hl hb).trans h.c2,(ho.cell (p:=⟨b,3,none⟩) hl hb).trans h.c3,(ho.cell (p:=⟨b,4,none⟩) hl hb).trans h.c4,(ho.cell (p:=⟨b,5,none⟩) hl hb).trans h.c5⟩

theorem clBlk_new (w : World) (c : Cl) (vf vd vm : Value) : ClBlk (w.alloc (.cells #[.int .i64 c.flags,.string (str c.name),.string (str c.super),vf,vd,vm] 28)) w.heap.size vf vd vm c:=
 ⟨by rw [cell_new]; rfl,by rw [cell_new]; rfl,by rw [cell_new]; rfl,by rw [cell_new]; rfl,by rw [cell_new]; rfl,by rw [cell_new]; rfl⟩

theorem heading_16 {l : List Me} {m : Me} (h : headingE l m = 0) : m.sig.1.length≤16:=by
 unfold headingE at h
 split at h
 ·cases h
 ·split at h
  ·split at h
   ·rename_i hs
    exact (sigCheck_ok hs).1
   ·rename_i hs
    exact absurd h hs
  ·cases h

theorem bare_nil {e : Int} : bareV e = .nilIface ↔ e = 0:=by
 unfold bareV
 split
 ·rename_i h
  simp [h]
 ·rename_i h
  simp [h]

set_option maxHeartbeats 4000000 in
theorem clo_any {w : World} {P Q : Nat→Prop} {ao : Option Addr} {ah : List Me} {cs : List Value} {d cap : Nat} (hS : RS w ao cs d) (hE : Els 10 (MeC (SlR w P)) cs ah) (hl : ah.length≤9223372036854775807) (m : Me) (hF : MeFit m) {vp vc vh : Value} (hM : MeAt (SlR w P) vp vc vh m)
  (bc be : Nat) {vf vd vm ve : Value} {c : Cl} (hC : ClBlk w bc vf vd vm c) {l : List En} (hb : w.cell? ⟨be,0,none⟩ = some ve) (hEn : SlV w Q ve l.length (ecs l)) (hA : ∀ e∈l,e.2.1.length≤9223372036854775807) :
  Calls Tryz.prog 52 #[.slice ao ah.length cap,meV vp vc vh m,.pointer (some ⟨bc,0,none⟩),.pointer (some ⟨be,0,none⟩)] w fun e w'=>∃ v,e = .returned v∧EV w' w.heap.size v (0,0,(methodE l c.flags ah m).1,(methodE l c.flags ah m).2)∧Only [] w w':=by
 have o0:=(Only.refl [] w).alloc (.cells #[.int .i64 m.flags,.string (str m.name),vp,.bool m.sig.2.1,.int .i64 m.sig.2.2.1,.string (str m.sig.2.2.2),.int .i64 m.stack,.int .i64 m.locals,vc,vh] 41)
 have HH:=checkHeading_any (cap:=cap) (vc:=vc) (vh:=vh) (hS.only0 o0) (hE.imp fun _ _ _ h=>h.imp (slr_only o0 (by simp))) hl m hF (SlV.only hM.params o0 (by simp))
 have HF:=fun W=>checkFlags_any c vf vd vm m vp vc vh W
 have HB:=fun W (hW : Only [] w W) (h16 : m.sig.1.length≤16)=>checkBody_any (P:=P) (Q:=Q) l (SlV.only hEn hW (by simp)) hA m hF h16 (hM.only hW (by simp))
 have hs16:=heading_16 (l:=ah) (m:=m)
 have hC0:=hid (hC.only o0 (by simp))
 have hl8 : be < w.heap.size:=World.block_lt_of_cell? w _ hb
 have hb0:=hid (cell_alloc (.cells #[.int .i64 m.flags,.string (str m.name),vp,.bool m.sig.2.1,.int .i64 m.sig.2.2.1,.string (str m.sig.2.2.2),.int .i64 m.stack,.int .i64 m.locals,vc,vh] 41) hb)
 have hk0 : Hid ((w.alloc (.cells #[.int .i64 m.flags,.string (str m.name),vp,.bool m.sig.2.1,.int .i64 m.sig.2.2.1,.string (str m.sig.2.2.2),.int .i64 m.stack,.int .i64 m.locals,vc,vh] 41)).cell? ⟨w.heap.size,0,none⟩ = some (.int .i64 m.flags)∧(w.alloc (.cells #[.int .i64 m.flags,.string (str m.name),vp,.bool m.sig.2.1,.int .i64 m.sig.2.2.1,.string (str m.sig.2.2.2),.int .i64 m.stack,.int .i64 m.locals,vc,vh] 41)).cell? ⟨w.heap.size,1,none⟩ = some (.string (str m.name))∧(w.alloc (.cells #[.int .i64 m.flags,.string (str m.name),vp,.bool m.sig.2.1,.int .i64 m.sig.2.2.1,.string (str m.sig.2.2.2),.int .i64 m.stack,.int .i64 m.locals,vc,vh] 41)).cell? ⟨w.heap.size,2,none⟩ = some (vp)∧(w.alloc (.cells #[.int .i64 m.flags,.string (str m.name),vp,.bool m.sig.2.1,.int .i64 m.sig.2.2.1,.string (str m.sig.2.2.2),.int .i64 m.stack,.int .i64 m.locals,vc,vh] 41)).cell? ⟨w.heap.size,3,none⟩ = some (.bool m.sig.2.1)∧(w.alloc (.cells #[.int .i64 m.flags,.string (str m.name),vp,.bool m.sig.2.1,.int .i64 m.sig.2.2.1,.string (str m.sig.2.2.2),.int .i64 m.stack,.int .i64 m.locals,vc,vh] 41)).cell? ⟨w.heap.size,4,none⟩ = some (.int .i64 m.sig.2.2.1)∧(w.alloc (.cells #[.int .i64 m.flags,.string (str m.name),vp,.bool m.sig.2.1,.int .i64 m.sig.2.2.1,.string (str m.sig.2.2.2),.int .i64 m.stack,.int .i64 m.locals,vc,vh] 41)).cell? ⟨w.heap.size,5,none⟩ = some (.string (str m.sig.2.2.2))∧(w.alloc (.cells #[.int .i64 m.flags,.string (str m.name),vp,.bool m.sig.2.1,.int .i64 m.sig.2.2.1,.string (str m.sig.2.2.2),.int .i64 m.stack,.int .i64 m.locals,vc,vh] 41)).cell? ⟨w.heap.size,6,none⟩ = some (.int .i64 m.stack)∧(w.alloc (.cells #[.int .i64 m.flags,.string (str m.name),vp,.bool m.sig.2.1,.int .i64 m.sig.2.2.1,.string (str m.sig.2.2.2),.int .i64 m.stack,.int .i64 m.locals,vc,vh] 41)).cell? ⟨w.heap.size,7,none⟩ = some (.int .i64 m.locals)∧(w.alloc (.cells #[.int .i64 m.flags,.string (str m.name),vp,.bool m.sig.2.1,.int .i64 m.sig.2.2.1,.string (str m.sig.2.2.2),.int .i64 m.stack,.int .i64 m.locals,vc,vh] 41)).cell? ⟨w.heap.size,8,none⟩ = some (vc)∧(w.alloc (.cells #[.int .i64 m.flags,.string (str m.name),vp,.bool m.sig.2.1,.int .i64 m.sig.2.2.1,.string (str m.sig.2.2.2),.int .i64 m.stack,.int .i64 m.locals,vc,vh] 41)).cell? ⟨w.heap.size,9,none⟩ = some (vh)∧Only [] w (w.alloc (.cells #[.int .i64 m.flags,.string (str m.name),vp,.bool m.sig.2.1,.int .i64 m.sig.2.2.1,.string (str m.sig.2.2.2),.int .i64 m.stack,.int .i64 m.locals,vc,vh] 41))):=⟨by rw [cell_new]; rfl,by rw [cell_new]; rfl,by rw [cell_new]; rfl,by rw [cell_new]; rfl,by rw [cell_new]; rfl,by rw [cell_new]; rfl,by rw [cell_new]; rfl,by rw [cell_new]; rfl,by rw [cell_new]; rfl,by rw [cell_new]; rfl,o0⟩
 unfold methodE
 clear hS hE hM hEn hA hF hb hC
 generalize headingE ah m = he at *
 generalize flagsE c.flags m = fe at *
 generalize bodyE l m = bE at *
 unfold clV at HF
 unfold meV at HH HF HB ⊢
 replace HH:=hid HH
 replace HF:=hid HF
 replace HB:=hid HB
 by_cases h1 : he = 0
 ·subst h1
  rw [if_pos rfl]
  by_cases h2 : fe = 0
  ·subst h2
   rw [if_pos rfl]
   go_enter Tryz.func52,Tryz.ntmps52
   go_wp2_with fail
   refine HH.out.mono ?_
   rintro e w1 ⟨rfl,ho1⟩
   obtain ⟨k0,k1,k2,k3,k4,k5,k6,k7,k8,k9,oS⟩:=keep_me (w:=w) ho1 hk0.out
   obtain ⟨c0,c1,c2,c3,c4,c5⟩:=hC0.out.only ho1 (by simp)
   rw [bare_nil.2 rfl]
   go_wp2_with fail
   refine (HF.out _).mono ?_
   rintro e w2 ⟨rfl,ho2⟩
   obtain ⟨k0,k1,k2,k3,k4,k5,k6,k7,k8,k9,oS⟩:=keep_me (w:=w) ho2 ⟨k0,k1,k2,k3,k4,k5,k6,k7,k8,k9,oS⟩
   have hb1 : be < w1.heap.size:=Nat.lt_of_lt_of_le hl8 (Nat.le_trans o0.size ho1.size)
   have b0:=(ho2.cell (p:=⟨be,0,none⟩) hb1 (by simp)).trans ((ho1.cell (p:=⟨be,0,none⟩) (Nat.lt_of_lt_of_le hl8 o0.size) (by simp)).trans hb0.out)
   rw [bare_nil.2 rfl]
   clear c0 c1 c2 c3 c4 c5
   go_wp2_with fail
   refine (HB.out _ oS (hs16 (by first | rfl | trivial))).mono ?_
   rintro e w3 ⟨v,rfl,hev,ho3⟩
   go_wp2_with fail
   go_ret
   exact ⟨v,rfl,hev.down oS.size,oS.next ho3 (by simp)⟩
  ·rw [if_neg h2]
   have hbv : bareV fe = .iface 63 (.int .i64 fe):=by unfold bareV; rw [if_neg h2]
   go_enter Tryz.func52,Tryz.ntmps52
   go_wp2_with fail
   refine HH.out.mono ?_
   rintro e w1 ⟨rfl,ho1⟩
   obtain ⟨k0,k1,k2,k3,k4,k5,k6,k7,k8,k9,oS⟩:=keep_me (w:=w) ho1 hk0.out
   obtain ⟨c0,c1,c2,c3,c4,c5⟩:=hC0.out.only ho1 (by simp)
   rw [bare_nil.2 rfl]
   go_wp2_with fail
   refine (HF.out _).mono ?_
   rintro e w2 ⟨rfl,ho2⟩
   rw [hbv]
   go_wp2_with fail
   go_ret
   exact ⟨_,rfl,.num h2,oS.next ho2 (by simp)⟩
 ·rw [if_neg h1]
  have hbv : bareV he = .iface 63 (.int .i64 he):=by unfold bareV; rw [if_neg h1]
  go_enter Tryz.func52,Tryz.ntmps52
  go_wp2_with fail
  refine HH.out.mono ?_
  rintro e w1 ⟨rfl,ho1⟩
  rw [hbv]
  go_wp2_with fail
  go_ret
  exact ⟨_,rfl,.num h1,o0.next ho1 (by simp)⟩

set_option maxHeartbeats 4000000 in
theorem members_me {w : World} (hg : Ety w) {P Q : Nat→Prop} {ao : Option Addr} {l : List Me} {cs : List Value} {d cap : Nat} (hS : RS w ao cs d) (hE : Els 10 (MeC (SlR w P)) cs l) (hc : l.length≤cap) (hN : ∀ m∈l,MeFit m) (bc be : Nat) {vf vd vm ve : Value} {c : Cl} (hC : ClBlk w bc vf vd vm c) {pl : List En} (hb : w.cell? ⟨be,0,none⟩ = some ve) (hEn : SlV w Q ve pl.length (ecs pl)) (hA : ∀ e∈pl,e.2.1.length≤9223372036854775807) (most : Nat) (hm : most≤1000) :
  Calls Tryz.prog 51 #[.slice ao l.length cap,.int .i64 (most : Int),.func (.func 52) #[] #[.pointer (some ⟨bc,0,none⟩),.pointer (some ⟨be,0,none⟩)]] w fun e w'=>∃ v,e = .returned v∧EV w' w.heap.size v (membersE most (methodE pl c.flags) l)∧Only [] w w':=by
 unfold membersE
 have hsl:=slice_hiG elMe Tryz.underlying26 ao l.length cap
 by_cases hmany : most < l.length
 ·rw [if_pos hmany]
  have gm : (most : Int) < (l.length : Int):=by omega
  clear hsl
  go_enter Tryz.func51,Tryz.ntmps51
  go_wp2_with fail
  go_ret
  exact ⟨_,rfl,.num (by decide),Only.refl _ _⟩
 rw [if_neg hmany]
 have gm : ¬ (most : Int) < (l.length : Int):=by omega
 obtain ⟨x,hx⟩ : ∃ x,x = firstE (methodE pl c.flags) [] l:=⟨_,rfl⟩
 rw [← hx]
 have hr : Hid (x = firstE (methodE pl c.flags) (l.take 0) (l.drop 0)):=by rw [hx]; rfl
 clear hx
 have HS:=hid hS
 have HE:=hid hE
 have HN:=hid hN
 have HCB:=hid hC
 have HEB:=hid hb
 have HEN:=hid hEn
 have HAA:=hid hA
 clear hS hE hN hC hb hEn hA
 replace hg:=hid hg
 replace hsl:=hid hsl
 go_enter Tryz.func51,Tryz.ntmps51
 go_wp2_with fail
 go_loopw [17] (fun i wr=>∃ (j : Nat),j≤l.length∧i = .int .i64 (j : Int)∧Hid (x = firstE (methodE pl c.flags) (l.take j) (l.drop j))∧Hid (Only [] w wr)) (fun i _=>l.length - (intOf i).toNat)
 case atStart=>exact ⟨0,by omega,rfl,hr,hid (Only.refl _ _)⟩
 case round=>
  obtain ⟨j,hj,rfl,hq,ho⟩:=hrel
  clear hr
  by_cases hlt : j < l.length
  ·have g2 : ((j : Int) < (l.length : Int)):=by omega
   have hdr:=firstE_drop (methodE pl c.flags) l j hlt
   rw [← hq.out] at hdr
   have ks:=hsl.out j (by omega)
   have hR:=HS.out.only0 ho.out
   have hT:=hR.take (j * 10)
   have hTE:=HE.out.take j (by omega)
   obtain ⟨off,vp,vc,vh,rfl,hMA,c0,c1,c2,c3,c4,c5,c6,c7,c8,c9⟩:=me_cells hR HE.out hlt
   have hn:=HN.out l[j] (List.getElem_mem hlt)
   obtain ⟨po,pc,pd,rfl,_⟩:=hMA.params
   obtain ⟨co,cc,cd,rfl,_⟩:=hMA.code
   obtain ⟨ho',hc',hd',rfl,_⟩:=hMA.hands
   have hlt2 : (l.take j).length = j:=by rw [List.length_take]; omega
   have hbl : be < w.heap.size:=World.block_lt_of_cell? w _ HEB.out
   have HC0:=fun W (hW : Only [] wr W)=>clo_any (P:=P) (Q:=Q) (cap:=cap) (hT.only0 hW) (hTE.imp fun _ _ _ h=>h.imp (slr_only (ho.out.next hW (by simp)) (by simp))) (by omega) l[j] hn (hMA.only (ho.out.next hW (by simp)) (by simp)) bc be (HCB.out.only (ho.out.next hW (by simp)) (by simp)) (((ho.out.next hW (by simp)).cell (p:=⟨be,0,none⟩) hbl (by simp)).trans HEB.out) (SlV.only HEN.out (ho.out.next hW (by simp)) (by simp)) HAA.out
   rw [hlt2] at HC0
   clear hT hTE hMA hn hlt2 hR hbl
   generalize l[j] = y at *
   unfold meV at HC0
   have oo:=(Only.refl [] wr).alloc (.cells #[.int .i64 y.flags,.string (str y.name),.slice po y.sig.1.length pc,.bool y.sig.2.1,.int .i64 y.sig.2.2.1,.string (str y.sig.2.2.2),.int .i64 y.stack,.int .i64 y.locals,.slice co y.code.length cc,.slice ho' y.hands.length hc'] 41)
   have HC : Hid (∀ W,Only [] wr W→Calls Tryz.prog 52 #[.slice (some ⟨d,off,none⟩) j cap,.agg #[.int .i64 y.flags,.string (str y.name),.slice po y.sig.1.length pc,.bool y.sig.2.1,.int .i64 y.sig.2.2.1,.string (str y.sig.2.2.2),.int .i64 y.stack,.int .i64 y.locals,.slice co y.code.length cc,.slice ho' y.hands.length hc'],.pointer (some ⟨bc,0,none⟩),.pointer (some ⟨be,0,none⟩)] W fun e w'=>∃ v,e = .returned v∧EV w' wr.heap.size v (0,0,(methodE pl c.flags (l.take j) y).1,(methodE pl c.flags (l.take j) y).2)∧Only [] W w'):=fun W hW=>(HC0 W hW).mono fun _ _ h=>by
    obtain ⟨v,h1,h2,h3⟩:=h
    exact ⟨v,h1,h2.down hW.size,h3⟩
   clear HC0
   clear hq
   go_wp2_with fail
   go_region_held3 (fun w'=>w'.cell? ⟨wr.heap.size,0,none⟩ = some (.int .i64 y.flags)∧w'.cell? ⟨wr.heap.size,1,none⟩ = some (.string (str y.name))∧w'.cell? ⟨wr.heap.size,2,none⟩ = some (.slice po y.sig.1.length pc)∧w'.cell? ⟨wr.heap.size,3,none⟩ = some (.bool y.sig.2.1)∧w'.cell? ⟨wr.heap.size,4,none⟩ = some (.int .i64 y.sig.2.2.1)∧w'.cell? ⟨wr.heap.size,5,none⟩ = some (.string (str y.sig.2.2.2))∧w'.cell? ⟨wr.heap.size,6,none⟩ = some (.int .i64 y.stack)∧w'.cell? ⟨wr.heap.size,7,none⟩ = some (.int .i64 y.locals)∧w'.cell? ⟨wr.heap.size,8,none⟩ = some (.slice co y.code.length cc)∧w'.cell? ⟨wr.heap.size,9,none⟩ = some (.slice ho' y.hands.length hc')∧Only [] wr w')
    (first | assumption | exact keep_me (by assumption) (by assumption) | exact ⟨by rw [cell_new]; rfl,by rw [cell_new]; rfl,by rw [cell_new]; rfl,by rw [cell_new]; rfl,by rw [cell_new]; rfl,by rw [cell_new]; rfl,by rw [cell_new]; rfl,by rw [cell_new]; rfl,by rw [cell_new]; rfl,by rw [cell_new]; rfl,oo⟩ | exact ⟨by show (wr.alloc _).cell? _ = _; rw [cell_new]; rfl,by show (wr.alloc _).cell? _ = _; rw [cell_new]; rfl,by show (wr.alloc _).cell? _ = _; rw [cell_new]; rfl,by show (wr.alloc _).cell? _ = _; rw [cell_new]; rfl,by show (wr.alloc _).cell? _ = _; rw [cell_new]; rfl,by show (wr.alloc _).cell? _ = _; rw [cell_new]; rfl,by show (wr.alloc _).cell? _ = _; rw [cell_new]; rfl,by show (wr.alloc _).cell? _ = _; rw [cell_new]; rfl,by show (wr.alloc _).cell? _ = _; rw [cell_new]; rfl,by show (wr.alloc _).cell? _ = _; rw [cell_new]; rfl,oo.drew⟩)
    (first
     | (go_at_call 52; (with_reducible refine (HC.out _ ?_).mono ?_); (simp [*]); rintro e w1 ⟨v,rfl,hev,ho1⟩))
   rename_i hS
   replace ho1:=hS.2.2.2.2.2.2.2.2.2.2
   clear hS
   rcases hev.nil_iff with ⟨he,rfl⟩ | ⟨he,t,u,rfl⟩
   ·rw [if_pos he] at hdr
    replace hdr:=hid hdr
    go_wp2_with fail
    refine ⟨⟨j + 1,by omega,by go_num,hdr,hid (ho.out.next ho1 (by simp))⟩,by simp [intOf]; omega⟩
   ·rw [if_neg he] at hdr
    have HM:=hid (inMember_any (hg.out.only0 (ho.out.next ho1 (by simp))) (B:=wr.heap.size) ho1.size hev he (j : Int))
    clear hsl ks
    go_wp2_with fail
    refine HM.out.mono ?_
    rintro e w2 ⟨p,hp,rfl,hb,ho2,hp2⟩
    go_wp2_with fail
    go_ret
    subst hdr
    exact ⟨_,rfl,.bad he (by have:=ho.out.size; omega) hb,(ho.out.next ho1 (by simp)).next ho2 (by simp; have:=ho.out.size; omega)⟩
  ·have g2 : ¬ ((j : Int) < (l.length : Int)):=by omega
   have hxx : x = ok4:=by rw [hq.out,List.drop_eq_nil_of_le (by omega)]; rfl
   clear hq
   go_wp2_with fail
   go_ret
   subst hxx
   exact ⟨_,rfl,.no rfl,ho.out⟩


theorem row_two (op : Int) : (rowI op = 2→op = 3∨op = 4)∧(rowI op≠2→op≠3∧op≠4)∧(rowI op = 4→jumpsI op = true)∧(rowI op≠4→jumpsI op = false):=by
 refine ⟨fun h=>?_,fun h=>?_,fun h=>?_,fun h=>?_⟩
 ·unfold rowI at h
  repeat' split at h
  all_goals omega
 ·unfold rowI at h
  repeat' split at h
  all_goals omega
 ·have : 19≤op∧op≤24:=by
   unfold rowI at h
   repeat' split at h
   all_goals omega
  simp [jumpsI,this.1,this.2]
 ·have : ¬ (19≤op∧op≤24):=by
   unfold rowI at h
   repeat' split at h
   all_goals omega
  unfold jumpsI
  by_cases q : 19≤op
  ·have : ¬ (op≤24):=fun z=>this ⟨q,z⟩
   simp [this]
  ·simp [q]

theorem entry_row {l : List En} {i : In} (h : rowI i.2.1 = 2∨rowI i.2.1 = 4) : entryI l i = 0:=by
 unfold entryI
 rw [if_neg (by omega),if_neg (by omega),if_neg (by omega),if_neg (by omega),if_neg (by omega)]

set_option maxHeartbeats 2000000 in
set_option maxRecDepth 100000 in
theorem rcheck4_any {w : World} {ao eo : Option Addr} {code : List UInt8} {l : List En} {d de cap ecap : Nat} (hB : RS w ao (bcs code) d) (hc : code.length≤cap) (hcl : cap≤9223372036854775807)
  (hE : ES w eo l de) (hl : l.length≤9223372036854775807) (hA : ∀ e∈l,e.2.1.length≤1048576) (locals : Int) :
  Calls Tryz.prog 201 #[.slice ao code.length cap,.slice eo l.length ecap,.int .i64 locals] w fun e w'=>e = .returned (.tuple #[.int .i64 (checkI code l locals).1,.int .i64 (checkI code l locals).2])∧Only [] w w':=by
 unfold checkI
 by_cases h0 : code = []
 ·subst h0
  rw [if_pos rfl]
  clear hB hE
  go_enter Tryz.func201,Tryz.ntmps201
  go_wp2
  go_ret2
  exact ⟨rfl,Only.refl _ _⟩
 rw [if_neg h0]
 have hpos:=List.length_pos_iff.2 h0
 have g0 : ¬ ((code.length : Int) = 0):=by omega
 have g0' : ((code.length : Int) == 0) = false:=by simpa using g0
 clear h0
 by_cases h1 : 1024 < code.length
 ·rw [if_pos h1]
  have g1 : (1024 < (code.length : Int)):=by omega
  clear hB hE
  go_enter Tryz.func201,Tryz.ntmps201
  go_wp2
  go_ret2
  exact ⟨rfl,Only.refl _ _⟩
 rw [if_neg h1]
 have g1 : ¬ (1024 < (code.length : Int)):=by omega
 have HA:=hid (rall_any hB hc hcl (by omega))
 have hev:=all_each code
 have hln:=all_len code
 generalize allR code = X at *
 obtain ⟨al,aa,ae⟩:=X
 simp only at hev hln ⊢
 clear hB
 by_cases hae : ae = 0
 ·subst hae
  rw [if_pos rfl]
  have HE:=hid (fun W (hW : Only [] w W) (a op n s : Int)=>rentry_in (cap:=ecap) (hE.only hW (by simp)) hl hA a op n s)
  clear hE hA
  obtain ⟨x,hx⟩ : ∃ x,x = checkL al l locals al:=⟨_,rfl⟩
  rw [← hx]
  have hr : Hid (x = checkL al l locals (al.drop 0)):=by rw [hx]; rfl
  clear hx
  replace hev:=hid hev
  go_enter Tryz.func201,Tryz.ntmps201
  go_wp2_with (go_at_call 217; refine HA.out.mono ?_; rintro e w1 ⟨ao1,cap1,rfl,hown1,ho1⟩)
  obtain ⟨d1,hR1⟩ : ∃ d,RS w1 ao1 (qcs al) d:=⟨_,(RS.of_owns hown1).1⟩
  have R1:=hid hR1
  clear hown1 hR1 HA
  go_loopw [11] (fun i wr=>∃ (j : Nat),j≤al.length∧i = .int .i64 (j : Int)∧Hid (x = checkL al l locals (al.drop j))∧Hid (RS wr ao1 (qcs al) d1)∧Hid (Only [] w wr)) (fun i _=>al.length - (intOf i).toNat)
  case atStart=>exact ⟨0,by omega,rfl,hr,R1,hid ho1⟩
  case round=>
   obtain ⟨j,hj,rfl,hq,hR,hor⟩:=hrel
   clear hr R1
   by_cases hlt : j < al.length
   ·have g4 : ((j : Int) < (al.length : Int)):=by omega
    have hRI:=hid hR.out
    obtain ⟨off,ha1,hy⟩:=hR.out.inAt hlt
    have v6:=(hev.out al[j] (List.getElem_mem hlt)).2.2.2.2.2.2.1
    have hdr:=checkL_drop (all:=al) (l:=l) (locals:=locals) hlt
    rw [← hq.out] at hdr
    have her:=@entry_row l al[j]
    have ewr : wrongI al l locals al[j] = if rowI al[j].2.1 = 2 then (if locals≤al[j].2.2.1 then 43 else 0) else if rowI al[j].2.1 = 4 then (if begunI al al[j].2.2.1.toNat = true then 0 else 18) else entryI l al[j]:=rfl
    obtain ⟨k2,k2',k4,k4'⟩:=row_two al[j].2.1
    rw [ewr] at hdr
    clear hq hev ewr
    generalize al[j] = i at *
    obtain ⟨p,o,n,s⟩:=i
    obtain ⟨y0,y1,y2,y3⟩:=hy
    simp only at y0 y1 y2 y3 v6 hdr her k2 k2' k4 k4'
    obtain ⟨n,rfl⟩ : ∃ q : Nat,n = (q : Int):=⟨n.toNat,by omega⟩
    rw [Int.toNat_natCast] at hdr
    have oo:=hid ((Only.refl [] wr).alloc (.cells #[.int .i64 p,.int .i64 o,.int .i64 (n : Int),.int .i64 s] 250))
    have I0:=hid (inAt_new wr p o (n : Int) s 250)
    have HE1:=HE.out _ (hor.out.next oo.out (by simp)) p o (n : Int) s
    have HP1:=hid (rplace_any (cap:=cap1) (hRI.out.only0 oo.out) (by omega) n)
    have HJ:=rjumps_any o (wr.alloc (.cells #[.int .i64 p,.int .i64 o,.int .i64 (n : Int),.int .i64 s] 250))
    simp only [inV] at HE1
    generalize entryI l (p,o,(n : Int),s) = en at *
    generalize begunI al n = bg at *
    generalize rowI o = r at *
    subst ha1
    by_cases r2 : r = 2
    ·subst r2
     have e0:=her (.inl rfl)
     subst e0
     rw [k4' (by decide)] at HJ
     replace HJ:=hid HJ
     replace HE1:=hid HE1
     have ho:=k2 rfl
     rw [if_pos rfl] at hdr
     clear her k2 k2' k4 k4' HP1
     by_cases hL : locals≤(n : Int)
     ·rw [if_pos hL,if_neg (by decide)] at hdr
      subst hdr
      clear HE1 HJ
      rcases ho with rfl | rfl
      all_goals
       go_wp2
       go_ret2
       exact ⟨rfl,hor.out.next oo.out (by simp)⟩
     ·rw [if_neg hL,if_pos rfl] at hdr
      replace hdr:=hid hdr
      rcases ho with rfl | rfl
      all_goals
       go_wp2_with (first | (go_at_call 218; refine HJ.out.mono ?_; rintro e w' ⟨rfl,rfl⟩) | (go_at_call 220; refine HE1.out.mono ?_; rintro e w5 ⟨rfl,ho5⟩))
       exact ⟨⟨j + 1,by omega,by go_num,hdr,hid (hRI.out.only0 (oo.out.next ho5 (by simp))),hid (hor.out.next (oo.out.next ho5 (by simp)) (by simp))⟩,by simp [intOf]; omega⟩
    ·obtain ⟨n3,n4⟩:=k2' r2
     have b3 : (o == 3) = false:=by simpa using n3
     have b4 : (o == 4) = false:=by simpa using n4
     rw [if_neg r2] at hdr
     by_cases r4 : r = 4
     ·subst r4
      have e0:=her (.inr rfl)
      subst e0
      rw [k4 rfl] at HJ
      replace HJ:=hid HJ
      replace HE1:=hid HE1
      rw [if_pos rfl] at hdr
      clear her k2 k2' k4 k4'
      cases bg with
      | true=>
       rw [if_pos rfl,if_pos rfl] at hdr
       replace hdr:=hid hdr
       go_wp2_with (first | (go_at_call 218; refine HJ.out.mono ?_; rintro e w' ⟨rfl,rfl⟩) | (go_at_call 219; refine HP1.out.mono ?_; rintro e w' ⟨⟨k,rfl,hk⟩,rfl⟩; have hk' : ¬ (k < 0):=of_decide_eq_false hk; clear hk) | (go_at_call 220; refine HE1.out.mono ?_; rintro e w5 ⟨rfl,ho5⟩))
       exact ⟨⟨j + 1,by omega,by go_num,hdr,hid (hRI.out.only0 (oo.out.next ho5 (by simp))),hid (hor.out.next (oo.out.next ho5 (by simp)) (by simp))⟩,by simp [intOf]; omega⟩
      | false=>
       rw [if_neg (by decide),if_neg (by decide)] at hdr
       subst hdr
       clear HE1
       go_wp2_with (first | (go_at_call 218; refine HJ.out.mono ?_; rintro e w' ⟨rfl,rfl⟩) | (go_at_call 219; refine HP1.out.mono ?_; rintro e w' ⟨⟨k,rfl,hk⟩,rfl⟩; have hk' : k < 0:=of_decide_eq_true hk; clear hk))
       go_ret2
       exact ⟨rfl,hor.out.next oo.out (by simp)⟩
     ·rw [k4' r4] at HJ
      replace HJ:=hid HJ
      replace HE1:=hid HE1
      rw [if_neg r4] at hdr
      clear her k2 k2' k4 k4' HP1
      by_cases he : en = 0
      ·subst he
       rw [if_pos rfl] at hdr
       replace hdr:=hid hdr
       go_wp2_with (first | (go_at_call 218; refine HJ.out.mono ?_; rintro e w' ⟨rfl,rfl⟩) | (go_at_call 220; refine HE1.out.mono ?_; rintro e w5 ⟨rfl,ho5⟩))
       exact ⟨⟨j + 1,by omega,by go_num,hdr,hid (hRI.out.only0 (oo.out.next ho5 (by simp))),hid (hor.out.next (oo.out.next ho5 (by simp)) (by simp))⟩,by simp [intOf]; omega⟩
      ·have ge : (en == 0) = false:=by simpa using he
       rw [if_neg he] at hdr
       subst hdr
       go_wp2_with (first | (go_at_call 218; refine HJ.out.mono ?_; rintro e w' ⟨rfl,rfl⟩) | (go_at_call 220; refine HE1.out.mono ?_; rintro e w5 ⟨rfl,ho5⟩; obtain ⟨c0,c1,c2,c3⟩:=I0.out.only ho5 (by simp)))
       go_ret2
       exact ⟨rfl,hor.out.next (oo.out.next ho5 (by simp)) (by simp)⟩
   ·have g4 : ¬ ((j : Int) < (al.length : Int)):=by omega
    have hxx : x = (0,0):=by rw [hq.out,List.drop_eq_nil_of_le (by omega)]; rfl
    subst hxx
    clear hq hev HE
    go_wp2
    go_ret2
    exact ⟨rfl,hor.out⟩
 ·have ge : (ae == 0) = false:=by simpa using hae
  rw [if_neg hae]
  clear hE hA hev
  go_enter Tryz.func201,Tryz.ntmps201
  go_wp2_with (go_at_call 217; refine HA.out.mono ?_; rintro e w1 ⟨ao1,cap1,rfl,hown1,ho1⟩; clear hown1)
  go_ret2
  exact ⟨rfl,ho1⟩

end Go.Proofs.YtildemmkhndhjaaGreatDoor
