/-
  What the proof leans on, part 22 of 48. The conditions stand in each theorem.
-/
import Derived.Test.YtildemmkhndhjaaGreatDoorB12
import Derived.Test.YtildemmkhndhjaaGreatDoorB16
import Derived.Test.YtildemmkhndhjaaGreatDoorB17
import Derived.Deep.RegionHeld3
import Derived.Test.YtildemmkhndhjaaGreatDoorB13
namespace Go.Proofs.YtildemmkhndhjaaGreatDoor
open Go.RowKit

def bpV (b : Bp) : Value:=.agg #[.int .i64 b.1,.int .i64 b.2.1,.int .i64 b.2.2.1,.int .i64 b.2.2.2]

/-- The four cells of a Bad's block. -/
structure B4 (w : World) (b : Nat) (v0 v1 v2 v3 : Value) : Prop where
 c0 : w.cell? ⟨b,0,none⟩ = some v0
 c1 : w.cell? ⟨b,1,none⟩ = some v1
 c2 : w.cell? ⟨b,2,none⟩ = some v2
 c3 : w.cell? ⟨b,3,none⟩ = some v3
 f0 : w.frozen? ⟨b,0,none⟩ = false
 f1 : w.frozen? ⟨b,1,none⟩ = false
 f2 : w.frozen? ⟨b,2,none⟩ = false
 f3 : w.frozen? ⟨b,3,none⟩ = false

theorem B4.only {w w' : World} {S : List Nat} {b : Nat} {v0 v1 v2 v3 : Value} (h : B4 w b v0 v1 v2 v3) (ho : Only S w w') (hb : b ∉ S) : B4 w' b v0 v1 v2 v3:=by
 have hl:=World.block_lt_of_cell? w _ h.c0
 exact ⟨(ho.cell (p:=⟨b,0,none⟩) hl hb).trans h.c0,(ho.cell (p:=⟨b,1,none⟩) hl hb).trans h.c1,(ho.cell (p:=⟨b,2,none⟩) hl hb).trans h.c2,(ho.cell (p:=⟨b,3,none⟩) hl hb).trans h.c3,(ho.frozen (p:=⟨b,0,none⟩) hl hb).trans h.f0,(ho.frozen (p:=⟨b,1,none⟩) hl hb).trans h.f1,(ho.frozen (p:=⟨b,2,none⟩) hl hb).trans h.f2,(ho.frozen (p:=⟨b,3,none⟩) hl hb).trans h.f3⟩

theorem b4_new (w : World) (v0 v1 v2 v3 : Value) (t : TypeId) : B4 (w.alloc (.cells #[v0,v1,v2,v3] t)) w.heap.size v0 v1 v2 v3:=
 ⟨by rw [cell_new]; rfl,by rw [cell_new]; rfl,by rw [cell_new]; rfl,by rw [cell_new]; rfl,frozen_new _ _ _ _,frozen_new _ _ _ _,frozen_new _ _ _ _,frozen_new _ _ _ _⟩

theorem B4.put0 {w : World} {b : Nat} {v0 v1 v2 v3 : Value} (h : B4 w b v0 v1 v2 v3) (u : Value) : B4 (w.setCell ⟨b,0,none⟩ u) b u v1 v2 v3:=
 ⟨cell_setCell_same _ _ h.c0,(cell_setCell_ne _ _ (by simp)).trans h.c1,(cell_setCell_ne _ _ (by simp)).trans h.c2,(cell_setCell_ne _ _ (by simp)).trans h.c3,(frozen_setCell _ _ _ _).trans h.f0,(frozen_setCell _ _ _ _).trans h.f1,(frozen_setCell _ _ _ _).trans h.f2,(frozen_setCell _ _ _ _).trans h.f3⟩

theorem B4.put1 {w : World} {b : Nat} {v0 v1 v2 v3 : Value} (h : B4 w b v0 v1 v2 v3) (u : Value) : B4 (w.setCell ⟨b,1,none⟩ u) b v0 u v2 v3:=
 ⟨(cell_setCell_ne _ _ (by simp)).trans h.c0,cell_setCell_same _ _ h.c1,(cell_setCell_ne _ _ (by simp)).trans h.c2,(cell_setCell_ne _ _ (by simp)).trans h.c3,(frozen_setCell _ _ _ _).trans h.f0,(frozen_setCell _ _ _ _).trans h.f1,(frozen_setCell _ _ _ _).trans h.f2,(frozen_setCell _ _ _ _).trans h.f3⟩

theorem B4.put2 {w : World} {b : Nat} {v0 v1 v2 v3 : Value} (h : B4 w b v0 v1 v2 v3) (u : Value) : B4 (w.setCell ⟨b,2,none⟩ u) b v0 v1 u v3:=
 ⟨(cell_setCell_ne _ _ (by simp)).trans h.c0,(cell_setCell_ne _ _ (by simp)).trans h.c1,cell_setCell_same _ _ h.c2,(cell_setCell_ne _ _ (by simp)).trans h.c3,(frozen_setCell _ _ _ _).trans h.f0,(frozen_setCell _ _ _ _).trans h.f1,(frozen_setCell _ _ _ _).trans h.f2,(frozen_setCell _ _ _ _).trans h.f3⟩

theorem B4.put3 {w : World} {b : Nat} {v0 v1 v2 v3 : Value} (h : B4 w b v0 v1 v2 v3) (u : Value) : B4 (w.setCell ⟨b,3,none⟩ u) b v0 v1 v2 u:=
 ⟨(cell_setCell_ne _ _ (by simp)).trans h.c0,(cell_setCell_ne _ _ (by simp)).trans h.c1,(cell_setCell_ne _ _ (by simp)).trans h.c2,cell_setCell_same _ _ h.c3,(frozen_setCell _ _ _ _).trans h.f0,(frozen_setCell _ _ _ _).trans h.f1,(frozen_setCell _ _ _ _).trans h.f2,(frozen_setCell _ _ _ _).trans h.f3⟩

theorem B4.put {w : World} {b : Nat} {v0 v1 v2 v3 : Value} (h : B4 w b v0 v1 v2 v3) (u0 u1 u2 u3 : Value) : B4 ((((w.setCell ⟨b,0,none⟩ u0).setCell ⟨b,1,none⟩ u1).setCell ⟨b,2,none⟩ u2).setCell ⟨b,3,none⟩ u3) b u0 u1 u2 u3∧Only [b] w ((((w.setCell ⟨b,0,none⟩ u0).setCell ⟨b,1,none⟩ u1).setCell ⟨b,2,none⟩ u2).setCell ⟨b,3,none⟩ u3):=
 ⟨((((h.put0 _).put1 _).put2 _).put3 _),(((((Only.refl [b] w).setCell (.inl (by simp)) _).setCell (.inl (by simp)) _).setCell (.inl (by simp)) _).setCell (.inl (by simp)) _)⟩


theorem plB_eq {bl : List Bool} {all : List In} {n : Nat} (hn : bl.length = n) (h : ∀ k,bl.getD k false = begunI all k) (k : Int) : plB bl k = begE all n k:=by
 unfold plB begE
 rw [h,hn]

theorem handB_eq {bl : List Bool} {all : List In} {n : Nat} (hn : bl.length = n) (h : ∀ k,bl.getD k false = begunI all k) (x : Hd) : handB bl x = handE all n x:=by
 unfold handB handE
 rw [plB_eq hn h,plB_eq hn h,plB_eq hn h,hn]

theorem handsE_drop (all : List In) (n : Nat) (r : List Hd) (j : Nat) (h : j < r.length) : handsE all n j (r.drop j) = if handE all n r[j] = 0 then handsE all n (j + 1) (r.drop (j + 1)) else ((j : Int),handE all n r[j]):=by
 rw [List.drop_eq_getElem_cons h,handsE]

set_option maxHeartbeats 4000000 in
set_option maxRecDepth 100000 in
theorem checkHandlers_any {w : World} {P : Nat→Prop} (m : Me) (hF : MeFit m) (vp : Value) {vc vh : Value} (hC : SlV w P vc m.code.length (bcs m.code)) (hH : SlV w P vh m.hands.length (hcs m.hands)) (hsz : m.code.length≤1024) :
  Calls Tryz.prog 126 #[meV vp vc vh m] w fun e w'=>∃ v,e = .returned v∧EV w' w.heap.size v (0,0,(handlersE m).1,(handlersE m).2)∧Only [] w w':=by
 obtain ⟨co,cc,cd,rfl,hC⟩:=hC
 obtain ⟨ho,hc,hd,rfl,hH⟩:=hH
 have hnm:=hF.hands
 clear hF
 obtain ⟨fl,nm,⟨ps,vo,td,tn⟩,st,lo,code,hs⟩:=m
 unfold meV handlersE
 simp only at hC hH hnm hsz ⊢
 have o0:=(Only.refl [] w).alloc (.cells #[.int .i64 fl,.string (str nm),vp,.bool vo,.int .i64 td,.string (str tn),.int .i64 st,.int .i64 lo,.slice co code.length cc,.slice ho hs.length hc] 41)
 have hlh : hs.length≤9223372036854775807:=by have:=hH.le; have:=hH.max; omega
 by_cases hm : 32 < hs.length
 ·rw [if_pos hm]
  have gm : (32 : Int) < (hs.length : Int):=by omega
  clear hC hH hnm
  go_enter Tryz.func126,Tryz.ntmps126
  go_wp2_with fail
  go_ret
  exact ⟨_,rfl,.num (by decide),o0⟩
 rw [if_neg hm]
 have gm : ¬ (32 : Int) < (hs.length : Int):=by omega
 have HA:=hid (all_any (hC.rs.only0 o0) hC.le hC.max (by omega))
 have hev:=all_each code
 have hln:=all_len code
 have HH:=hid (fun W (ho : Only [] w W)=>hH.rs.only0 ho)
 generalize allR code = X at *
 obtain ⟨al,aa,ae⟩:=X
 simp only at hev hln ⊢
 have b4 : (w.alloc (.cells #[.int .i64 fl,.string (str nm),vp,.bool vo,.int .i64 td,.string (str tn),.int .i64 st,.int .i64 lo,.slice co code.length cc,.slice ho hs.length hc] 41)).cell? ⟨w.heap.size,8,none⟩ = some (.slice co code.length cc):=by rw [cell_new]; rfl
 have b5 : (w.alloc (.cells #[.int .i64 fl,.string (str nm),vp,.bool vo,.int .i64 td,.string (str tn),.int .i64 st,.int .i64 lo,.slice co code.length cc,.slice ho hs.length hc] 41)).cell? ⟨w.heap.size,9,none⟩ = some (.slice ho hs.length hc):=by rw [cell_new]; rfl
 clear hC hH
 replace hev:=hid hev
 obtain ⟨i0,hi,hz0,hz1,hz2⟩:=elBool.parts
 obtain ⟨x,hx⟩ : ∃ x,x = handsE al code.length 0 hs:=⟨_,rfl⟩
 rw [← hx]
 have hr : Hid (x = handsE al code.length 0 (hs.drop 0)):=by rw [hx]; rfl
 clear hx
 go_enter Tryz.func126,Tryz.ntmps126
 go_wp2_with (first | (go_at_call 169; refine HA.out.mono ?_; rintro e w1 ⟨ao1,cap1,rfl,hown1,ho1⟩; have c8:=(ho1.cell (p:=⟨w.heap.size,8,none⟩) (by simp) (by simp)).trans b4) | (at_make; refine wpList_make_full _ rfl (.tmp 26) (.tmp 26) 246 rfl w1.heap.size 4 i0 (.bool false) 1 Tryz.underlying246 hi hz0 hz1 .i64 .i64 _ _ code.length rfl rfl rfl rfl (by rw [hz2]; omega) (by unfold maxLen; omega) (Nat.le_refl _) ?_; intro w2 hownG hgr) | fail)
 have hG0:=hownG
 rw [lcs_replicate] at hG0
 have hg2 : w1.heap.size < w2.heap.size:=by
  have:=hG0.lt w1.heap.size rfl
  omega
 have hs1 : w.heap.size < w1.heap.size:=Nat.lt_of_lt_of_le (by simp) ho1.size
 have o2:=hid ((o0.next ho1 (by simp)).next (Only.of_grown hgr) (by simp))
 have k9 : Hid (w2.cell? ⟨w.heap.size,9,none⟩ = some (.slice ho hs.length hc)):=((Only.of_grown hgr).cell (p:=⟨w.heap.size,9,none⟩) hs1 (by simp)).trans ((ho1.cell (p:=⟨w.heap.size,9,none⟩) (by simp) (by simp)).trans b5)
 obtain ⟨d1,hR1⟩ : ∃ d,RS w1 ao1 (qcs al) d:=⟨_,(RS.of_owns hown1).1⟩
 have hd1 : Hid (al≠[]→d1 < w1.heap.size):=fun h=>hR1.lt (qcs_ne h)
 have R1:=hid (hR1.only0 (Only.of_grown hgr))
 have G1:=hid hG0
 have hN0:=hid (begun_nil code.length)
 clear hownG hG0 hgr hown1 hR1 HA c8 b4 b5 ho1
 replace hnm:=hid hnm
 go_loopw [30] (fun i wr=>∃ (j : Nat) (bl : List Bool),j≤al.length∧i = .int .i64 (j : Int)∧Hid (bl.length = code.length)∧Hid (∀ k,bl.getD k false = begunI (al.take j) k)∧Hid (wr.ownsRow w1.heap.size 4 1 (.slice (some ⟨w1.heap.size,0,none⟩) code.length code.length) code.length (lcs bl))∧Hid (wr.cell? ⟨w.heap.size,9,none⟩ = some (.slice ho hs.length hc))∧Hid (RS wr ao1 (qcs al) d1)∧Hid (Only [] w wr)) (fun i _=>al.length - (intOf i).toNat)
 case atStart=>exact ⟨0,List.replicate code.length false,by omega,rfl,by simp [Hid],hN0,G1,k9,R1,o2⟩
 case round=>
  obtain ⟨j,bl,hj,rfl,hbl,hbg,hG,h9,hR,hor⟩:=hrel
  clear G1 k9 R1 o2 hN0
  by_cases hlt : j < al.length
  ·have g2 : ((j : Int) < (al.length : Int)):=by omega
   obtain ⟨off,rfl,y0,y1,y2,y3⟩:=hR.out.inAt hlt
   obtain ⟨v0,v1,_,_,_,v5,_,_⟩:=hev.out al[j] (List.getElem_mem hlt)
   have htk:=List.take_succ_eq_append_getElem hlt
   have hd:=hd1.out (fun e=>by rw [e] at hlt; simp at hlt)
   clear hev hr HH
   generalize al[j] = i at *
   obtain ⟨p,o,n,s⟩:=i
   simp only at y0 y1 y2 y3 v0 v1 v5
   obtain ⟨p,rfl⟩ : ∃ q : Nat,p = (q : Int):=⟨p.toNat,by omega⟩
   have hp : p < code.length:=by omega
   have hgl : w1.heap.size < wr.heap.size:=((hG.out.lt w1.heap.size rfl)).2
   have z0 : wr.cell? ⟨w1.heap.size,p,none⟩ = some (.bool (bl[p]'(by rw [hbl.out]; exact hp))):=by
    rw [hG.out.cellAt p (by omega),lcs_get bl p (by rw [hbl.out]; exact hp)]
   have z0':=fun o=>cell_alloc o z0
   have zf : ∀ o,(wr.alloc o).frozen? ⟨w1.heap.size,p,none⟩ = false:=fun o=>by rw [frozen_alloc o hgl]; exact hG.out.frozenAt p
   have g3 : ((p : Int) < (code.length : Int)):=by omega
   have hbg' : Hid (∀ k,(bl.set p true).getD k false = begunI (al.take (j + 1)) k):=by
    rw [htk]
    exact begun_set hbg.out rfl (by rw [hbl.out]; exact hp)
   have G2:=hG.out.stored p (.bool true)
   rw [lcs_set] at G2
   have oo:=hid (((Only.refl [w1.heap.size] wr).setCell (p:=⟨w1.heap.size,p,none⟩) (.inl (by simp)) (.bool true)).alloc (.cells #[.int .i64 (p : Int),.int .i64 o,.int .i64 n,.int .i64 s] 250))
   replace G2:=hid (G2.1.alloc (.cells #[.int .i64 (p : Int),.int .i64 o,.int .i64 n,.int .i64 s] 250))
   clear htk z0 hd1
   go_wp2
   refine ⟨⟨j + 1,bl.set p true,by omega,by go_num,by simpa [Hid] using hbl.out,hbg',G2,hid ((oo.out.cell (p:=⟨w.heap.size,9,none⟩) (by simp; omega) (by simp; omega)).trans h9.out),hid (hR.out.only oo.out (fun _=>by simp; omega)),hid ((hor.out.setCell (p:=⟨w1.heap.size,p,none⟩) (.inr (by simp; omega)) _).alloc _)⟩,by simp [intOf]; omega⟩
  ·have g2 : ¬ ((j : Int) < (al.length : Int)):=by omega
   have hbg' : Hid (∀ k,bl.getD k false = begunI al k):=by
    have:=hbg.out
    rw [List.take_of_length_le (by omega)] at this
    exact this
   have HW:=hid (fun W (hG : RS W (some ⟨w1.heap.size,0,none⟩) (lcs bl) w1.heap.size) (y : Hd) (hy : y.2.2.2.length≤9223372036854775807)=>checkHandler_any (cap:=code.length) hG y hy)
   simp only [hbl.out,handB_eq hbl.out hbg'.out] at HW
   clear hbg hbg' hev hd1 hR
   have k9:=h9.out
   go_wp2
   clear k9 h9
   go_loopw [42] (fun i wr=>∃ (j : Nat),j≤hs.length∧i = .int .i64 (j : Int)∧Hid (x = handsE al code.length j (hs.drop j))∧Hid (wr.ownsRow w1.heap.size 4 1 (.slice (some ⟨w1.heap.size,0,none⟩) code.length code.length) code.length (lcs bl))∧Hid (Only [] w wr)) (fun i _=>hs.length - (intOf i).toNat)
   case atStart=>exact ⟨0,by omega,rfl,hr,hG,hor⟩
   case round=>
    obtain ⟨j',hj',rfl,hq,hG',hor'⟩:=hrel
    clear hr hG hor
    by_cases hlt' : j' < hs.length
    ·have g4 : ((j' : Int) < (hs.length : Int)):=by omega
     obtain ⟨off,rfl,y0,y1,y2,y3⟩:=hd_cells (HH.out _ hor'.out) hlt'
     have hdr:=handsE_drop al code.length hs j' hlt'
     rw [← hq.out] at hdr
     have hy:=hnm.out hs[j'] (List.getElem_mem hlt')
     clear hq
     generalize hs[j'] = y at *
     have oo:=hid ((Only.refl [] wr).alloc (.cells #[.int .i64 y.1,.int .i64 y.2.1,.int .i64 y.2.2.1,.string (str y.2.2.2)] 46))
     have HW3:=HW.out _ (RS.of_owns (rows_only hG'.out oo.out (by simp))).1 y hy
     unfold hdV at HW3
     generalize handE al code.length y = er at *
     replace HW3:=hid HW3
     by_cases he : er = 0
     ·subst he
      rw [if_pos rfl] at hdr
      replace hdr:=hid hdr
      go_wp2_with (go_at_call 171; refine HW3.out.mono ?_; rintro e w5 ⟨rfl,ho5⟩)
      exact ⟨⟨j' + 1,by omega,by go_num,hdr,hid (rows_only hG'.out (oo.out.next ho5 (by simp)) (by simp)),hid (hor'.out.next (oo.out.next ho5 (by simp)) (by simp))⟩,by simp [intOf]; omega⟩
     ·have ge : (er == 0) = false:=by simpa using he
      rw [if_neg he] at hdr
      subst hdr
      go_wp2_with (go_at_call 171; refine HW3.out.mono ?_; rintro e w5 ⟨rfl,ho5⟩)
      go_ret
      exact ⟨_,rfl,.bad he (by have:=hor'.out.size; have:=oo.out.size; have:=ho5.size; omega) (bad_new w5 0 0 (j' : Int) er),(hor'.out.next (oo.out.next ho5 (by simp)) (by simp)).alloc _⟩
    ·have g4 : ¬ ((j' : Int) < (hs.length : Int)):=by omega
     have hxx : x = (0,0):=by rw [hq.out,List.drop_eq_nil_of_le (by omega)]; rfl
     subst hxx
     clear hq HW
     go_wp2
     go_ret
     exact ⟨_,rfl,.no rfl,hor'.out⟩


theorem checkI_small {code : List UInt8} {l : List En} {locals : Int} (h : (checkI code l locals).2 = 0) : code.length≤1024:=by
 unfold checkI at h
 split at h
 ·cases h
 ·split at h
  ·cases h
  ·omega

theorem keep_me {w z z' : World} {b : Nat} {v0 v1 v2 v3 v4 v5 v6 v7 v8 v9 : Value} (ho : Only [] z z') (h : z.cell? ⟨b,0,none⟩ = some (v0)∧z.cell? ⟨b,1,none⟩ = some (v1)∧z.cell? ⟨b,2,none⟩ = some (v2)∧z.cell? ⟨b,3,none⟩ = some (v3)∧z.cell? ⟨b,4,none⟩ = some (v4)∧z.cell? ⟨b,5,none⟩ = some (v5)∧z.cell? ⟨b,6,none⟩ = some (v6)∧z.cell? ⟨b,7,none⟩ = some (v7)∧z.cell? ⟨b,8,none⟩ = some (v8)∧z.cell? ⟨b,9,none⟩ = some (v9)∧Only [] w z) : z'.cell? ⟨b,0,none⟩ = some (v0)∧z'.cell? ⟨b,1,none⟩ = some (v1)∧z'.cell? ⟨b,2,none⟩ = some (v2)∧z'.cell? ⟨b,3,none⟩ = some (v3)∧z'.cell? ⟨b,4,none⟩ = some (v4)∧z'.cell? ⟨b,5,none⟩ = some (v5)∧z'.cell? ⟨b,6,none⟩ = some (v6)∧z'.cell? ⟨b,7,none⟩ = some (v7)∧z'.cell? ⟨b,8,none⟩ = some (v8)∧z'.cell? ⟨b,9,none⟩ = some (v9)∧Only [] w z':=by
 obtain ⟨h0,h1,h2,h3,h4,h5,h6,h7,h8,h9,h⟩:=h
 have hl:=World.block_lt_of_cell? z _ h0
 exact ⟨(ho.cell (p:=⟨b,0,none⟩) hl (by simp)).trans h0,(ho.cell (p:=⟨b,1,none⟩) hl (by simp)).trans h1,(ho.cell (p:=⟨b,2,none⟩) hl (by simp)).trans h2,(ho.cell (p:=⟨b,3,none⟩) hl (by simp)).trans h3,(ho.cell (p:=⟨b,4,none⟩) hl (by simp)).trans h4,(ho.cell (p:=⟨b,5,none⟩) hl (by simp)).trans h5,(ho.cell (p:=⟨b,6,none⟩) hl (by simp)).trans h6,(ho.cell (p:=⟨b,7,none⟩) hl (by simp)).trans h7,(ho.cell (p:=⟨b,8,none⟩) hl (by simp)).trans h8,(ho.cell (p:=⟨b,9,none⟩) hl (by simp)).trans h9,h.next ho (by simp)⟩

set_option maxHeartbeats 4000000 in
theorem checkBody_any {w : World} {P Q : Nat→Prop} (l : List En) {ve : Value} (hE : SlV w Q ve l.length (ecs l)) (hA : ∀ e∈l,e.2.1.length≤9223372036854775807) (m : Me) (hF : MeFit m) (h16 : m.sig.1.length≤16) {vp vc vh : Value} (hM : MeAt (SlR w P) vp vc vh m) :
  Calls Tryz.prog 55 #[meV vp vc vh m,ve] w fun e w'=>∃ v,e = .returned v∧EV w' w.heap.size v (0,0,(bodyE l m).1,(bodyE l m).2)∧Only [] w w':=by
 obtain ⟨eo,ec,ed,rfl,hE⟩:=hE
 have hC0:=hM.code
 have hH0:=hM.hands
 obtain ⟨po,pc,pd,rfl,hP⟩:=hM.params
 obtain ⟨co,cc,cd,rfl,hC⟩:=hM.code
 obtain ⟨ho,hc,hd,rfl,hH⟩:=hM.hands
 have hlp : m.sig.1.length≤9223372036854775807:=by have:=hP.le; have:=hP.max; omega
 have hlc : m.code.length≤9223372036854775807:=by have:=hC.le; have:=hC.max; omega
 have hlh : m.hands.length≤9223372036854775807:=by have:=hH.le; have:=hH.max; omega
 have o0:=(Only.refl [] w).alloc (.cells #[.int .i64 m.flags,.string (str m.name),.slice po m.sig.1.length pc,.bool m.sig.2.1,.int .i64 m.sig.2.2.1,.string (str m.sig.2.2.2),.int .i64 m.stack,.int .i64 m.locals,.slice co m.code.length cc,.slice ho m.hands.length hc] 41)
 have HI:=hid (handedIn_any m (po:=po) (pc:=pc) (by omega) (.slice co m.code.length cc) (.slice ho m.hands.length hc))
 have HK:=fun W (hW : Only [] w W)=>icheck_any (cap:=cc) (ecap:=ec) (hC.rs.only0 hW) hC.le hC.max (ES.of_rs (hE.rs.only0 hW)) (by have:=hE.le; have:=hE.max; omega) hA m.locals
 have HB:=fun W (hW : Only [] w W) (hs : m.code.length≤1024)=>checkHandlers_any (P:=P) m hF (.slice po m.sig.1.length pc) (SlV.only hC0 hW (by simp)) (SlV.only hH0 hW (by simp)) hs
 have hsm:=checkI_small (code:=m.code) (l:=l) (locals:=m.locals)
 clear hM hC0 hH0 hP hC hH hE hA hF
 unfold bodyE
 unfold meV at HB HI ⊢
 generalize handlersE m = hE at *
 generalize handedE m = hI at *
 generalize checkI m.code l m.locals = cI at *
 obtain ⟨ca,ce⟩:=cI
 obtain ⟨fl,nm,⟨ps,vo,td,tn⟩,st,lo,code,hs⟩:=m
 simp only at HI HK HB o0 hsm hlp hlc hlh ⊢
 replace HK:=hid HK
 replace HB:=hid HB
 by_cases f2 : fl = 2
 ·subst f2
  rw [if_pos rfl]
  clear HI HK HB
  by_cases h1 : st = 0
  ·subst h1
   by_cases h2 : lo = 0
   ·subst h2
    by_cases h3 : 0 < code.length
    ·rw [if_pos (by simp [h3])]
     have g3 : (0 : Int) < (code.length : Int):=by omega
     go_enter Tryz.func55,Tryz.ntmps55
     go_wp2_with fail
     go_ret
     exact ⟨_,rfl,.num (by decide),o0⟩
    ·have g3 : ¬ (0 : Int) < (code.length : Int):=by omega
     by_cases h4 : 0 < hs.length
     ·rw [if_pos (by simp [h4])]
      have g4 : (0 : Int) < (hs.length : Int):=by omega
      go_enter Tryz.func55,Tryz.ntmps55
      go_wp2_with fail
      go_ret
      exact ⟨_,rfl,.num (by decide),o0⟩
     ·rw [if_neg (by simp only [ne_eq,not_true_eq_false,false_or]; omega)]
      have g4 : ¬ (0 : Int) < (hs.length : Int):=by omega
      go_enter Tryz.func55,Tryz.ntmps55
      go_wp2_with fail
      go_ret
      exact ⟨_,rfl,.no rfl,o0⟩
   ·rw [if_pos (by simp [h2])]
    have g2 : (lo == 0) = false:=by simpa using h2
    have g2n : (lo != 0) = true:=by simpa using h2
    go_enter Tryz.func55,Tryz.ntmps55
    go_wp2_with fail
    go_ret
    exact ⟨_,rfl,.num (by decide),o0⟩
  ·rw [if_pos (by simp [h1])]
   have g1 : (st == 0) = false:=by simpa using h1
   have g1n : (st != 0) = true:=by simpa using h1
   go_enter Tryz.func55,Tryz.ntmps55
   go_wp2_with fail
   go_ret
   exact ⟨_,rfl,.num (by decide),o0⟩
 ·rw [if_neg f2]
  have f2' : (fl == 2) = false:=by simpa using f2
  by_cases a1 : st < 0
  ·rw [if_pos (by omega)]
   go_enter Tryz.func55,Tryz.ntmps55
   go_wp2_with fail
   go_ret
   exact ⟨_,rfl,.num (by decide),o0⟩
  ·by_cases a2 : 64 < st
   ·rw [if_pos (by omega)]
    go_enter Tryz.func55,Tryz.ntmps55
    go_wp2_with fail
    go_ret
    exact ⟨_,rfl,.num (by decide),o0⟩
   ·by_cases a3 : lo < 0
    ·rw [if_pos (by omega)]
     go_enter Tryz.func55,Tryz.ntmps55
     go_wp2_with fail
     go_ret
     exact ⟨_,rfl,.num (by decide),o0⟩
    ·by_cases a4 : 64 < lo
     ·rw [if_pos (by omega)]
      go_enter Tryz.func55,Tryz.ntmps55
      go_wp2_with fail
      go_ret
      exact ⟨_,rfl,.num (by decide),o0⟩
     ·rw [if_neg (by omega)]
      by_cases a5 : lo < hI
      ·rw [if_pos a5]
       go_enter Tryz.func55,Tryz.ntmps55
       go_wp2_with fail
       go_region_held3 (fun w'=>w'.cell? ⟨w.heap.size,0,none⟩ = some (.int .i64 fl)∧w'.cell? ⟨w.heap.size,1,none⟩ = some (.string (str nm))∧w'.cell? ⟨w.heap.size,2,none⟩ = some (.slice po ps.length pc)∧w'.cell? ⟨w.heap.size,3,none⟩ = some (.bool vo)∧w'.cell? ⟨w.heap.size,4,none⟩ = some (.int .i64 td)∧w'.cell? ⟨w.heap.size,5,none⟩ = some (.string (str tn))∧w'.cell? ⟨w.heap.size,6,none⟩ = some (.int .i64 st)∧w'.cell? ⟨w.heap.size,7,none⟩ = some (.int .i64 lo)∧w'.cell? ⟨w.heap.size,8,none⟩ = some (.slice co code.length cc)∧w'.cell? ⟨w.heap.size,9,none⟩ = some (.slice ho hs.length hc)∧Only [] w w') (first | assumption | exact keep_me (by assumption) (by assumption) | exact ⟨by rw [cell_new]; rfl,by rw [cell_new]; rfl,by rw [cell_new]; rfl,by rw [cell_new]; rfl,by rw [cell_new]; rfl,by rw [cell_new]; rfl,by rw [cell_new]; rfl,by rw [cell_new]; rfl,by rw [cell_new]; rfl,by rw [cell_new]; rfl,o0⟩ | exact ⟨by show (w.alloc _).cell? _ = _; rw [cell_new]; rfl,by show (w.alloc _).cell? _ = _; rw [cell_new]; rfl,by show (w.alloc _).cell? _ = _; rw [cell_new]; rfl,by show (w.alloc _).cell? _ = _; rw [cell_new]; rfl,by show (w.alloc _).cell? _ = _; rw [cell_new]; rfl,by show (w.alloc _).cell? _ = _; rw [cell_new]; rfl,by show (w.alloc _).cell? _ = _; rw [cell_new]; rfl,by show (w.alloc _).cell? _ = _; rw [cell_new]; rfl,by show (w.alloc _).cell? _ = _; rw [cell_new]; rfl,by show (w.alloc _).cell? _ = _; rw [cell_new]; rfl,o0.drew⟩)
        (first
         | (go_at_call 124; with_reducible refine (HI.out _).mono ?_; rintro e v1 ⟨rfl,hv1⟩))
       rename_i hS
       obtain ⟨k0,k1,k2,k3,k4,k5,k6,k7,k8,k9,oS⟩:=hS
       go_wp2_with fail
       go_ret
       exact ⟨_,rfl,.num (by decide),oS⟩
      ·rw [if_neg a5]
       by_cases he : ce = 0
       ·subst he
        rw [if_pos rfl]
        go_enter Tryz.func55,Tryz.ntmps55
        go_wp2_with fail
        go_region_held3 (fun w'=>w'.cell? ⟨w.heap.size,0,none⟩ = some (.int .i64 fl)∧w'.cell? ⟨w.heap.size,1,none⟩ = some (.string (str nm))∧w'.cell? ⟨w.heap.size,2,none⟩ = some (.slice po ps.length pc)∧w'.cell? ⟨w.heap.size,3,none⟩ = some (.bool vo)∧w'.cell? ⟨w.heap.size,4,none⟩ = some (.int .i64 td)∧w'.cell? ⟨w.heap.size,5,none⟩ = some (.string (str tn))∧w'.cell? ⟨w.heap.size,6,none⟩ = some (.int .i64 st)∧w'.cell? ⟨w.heap.size,7,none⟩ = some (.int .i64 lo)∧w'.cell? ⟨w.heap.size,8,none⟩ = some (.slice co code.length cc)∧w'.cell? ⟨w.heap.size,9,none⟩ = some (.slice ho hs.length hc)∧Only [] w w') (first | assumption | exact keep_me (by assumption) (by assumption) | exact ⟨by rw [cell_new]; rfl,by rw [cell_new]; rfl,by rw [cell_new]; rfl,by rw [cell_new]; rfl,by rw [cell_new]; rfl,by rw [cell_new]; rfl,by rw [cell_new]; rfl,by rw [cell_new]; rfl,by rw [cell_new]; rfl,by rw [cell_new]; rfl,o0⟩ | exact ⟨by show (w.alloc _).cell? _ = _; rw [cell_new]; rfl,by show (w.alloc _).cell? _ = _; rw [cell_new]; rfl,by show (w.alloc _).cell? _ = _; rw [cell_new]; rfl,by show (w.alloc _).cell? _ = _; rw [cell_new]; rfl,by show (w.alloc _).cell? _ = _; rw [cell_new]; rfl,by show (w.alloc _).cell? _ = _; rw [cell_new]; rfl,by show (w.alloc _).cell? _ = _; rw [cell_new]; rfl,by show (w.alloc _).cell? _ = _; rw [cell_new]; rfl,by show (w.alloc _).cell? _ = _; rw [cell_new]; rfl,by show (w.alloc _).cell? _ = _; rw [cell_new]; rfl,o0.drew⟩)
         (first
          | (go_at_call 124; with_reducible refine (HI.out _).mono ?_; rintro e v1 ⟨rfl,hv1⟩))
        rename_i hS
        obtain ⟨k0,k1,k2,k3,k4,k5,k6,k7,k8,k9,oS⟩:=hS
        go_wp2_with fail
        refine (HK.out _ oS).mono ?_
        rintro e w2 ⟨rfl,ho2⟩
        obtain ⟨k0,k1,k2,k3,k4,k5,k6,k7,k8,k9,o2⟩:=keep_me (w:=w) ho2 ⟨k0,k1,k2,k3,k4,k5,k6,k7,k8,k9,oS⟩
        go_wp2_with fail
        refine (HB.out _ o2 (hsm (by first | rfl | trivial))).mono ?_
        rintro e w3 ⟨v,rfl,hev,ho3⟩
        go_wp2_with fail
        go_ret
        exact ⟨v,rfl,hev.down o2.size,o2.next ho3 (by simp)⟩
       ·rw [if_neg he]
        have he' : (ce == 0) = false:=by simpa using he
        go_enter Tryz.func55,Tryz.ntmps55
        go_wp2_with fail
        go_region_held3 (fun w'=>w'.cell? ⟨w.heap.size,0,none⟩ = some (.int .i64 fl)∧w'.cell? ⟨w.heap.size,1,none⟩ = some (.string (str nm))∧w'.cell? ⟨w.heap.size,2,none⟩ = some (.slice po ps.length pc)∧w'.cell? ⟨w.heap.size,3,none⟩ = some (.bool vo)∧w'.cell? ⟨w.heap.size,4,none⟩ = some (.int .i64 td)∧w'.cell? ⟨w.heap.size,5,none⟩ = some (.string (str tn))∧w'.cell? ⟨w.heap.size,6,none⟩ = some (.int .i64 st)∧w'.cell? ⟨w.heap.size,7,none⟩ = some (.int .i64 lo)∧w'.cell? ⟨w.heap.size,8,none⟩ = some (.slice co code.length cc)∧w'.cell? ⟨w.heap.size,9,none⟩ = some (.slice ho hs.length hc)∧Only [] w w') (first | assumption | exact keep_me (by assumption) (by assumption) | exact ⟨by rw [cell_new]; rfl,by rw [cell_new]; rfl,by rw [cell_new]; rfl,by rw [cell_new]; rfl,by rw [cell_new]; rfl,by rw [cell_new]; rfl,by rw [cell_new]; rfl,by rw [cell_new]; rfl,by rw [cell_new]; rfl,by rw [cell_new]; rfl,o0⟩ | exact ⟨by show (w.alloc _).cell? _ = _; rw [cell_new]; rfl,by show (w.alloc _).cell? _ = _; rw [cell_new]; rfl,by show (w.alloc _).cell? _ = _; rw [cell_new]; rfl,by show (w.alloc _).cell? _ = _; rw [cell_new]; rfl,by show (w.alloc _).cell? _ = _; rw [cell_new]; rfl,by show (w.alloc _).cell? _ = _; rw [cell_new]; rfl,by show (w.alloc _).cell? _ = _; rw [cell_new]; rfl,by show (w.alloc _).cell? _ = _; rw [cell_new]; rfl,by show (w.alloc _).cell? _ = _; rw [cell_new]; rfl,by show (w.alloc _).cell? _ = _; rw [cell_new]; rfl,o0.drew⟩)
         (first
          | (go_at_call 124; with_reducible refine (HI.out _).mono ?_; rintro e v1 ⟨rfl,hv1⟩))
        rename_i hS
        obtain ⟨k0,k1,k2,k3,k4,k5,k6,k7,k8,k9,oS⟩:=hS
        go_wp2_with fail
        refine (HK.out _ oS).mono ?_
        rintro e w2 ⟨rfl,ho2⟩
        obtain ⟨k0,k1,k2,k3,k4,k5,k6,k7,k8,k9,o2⟩:=keep_me (w:=w) ho2 ⟨k0,k1,k2,k3,k4,k5,k6,k7,k8,k9,oS⟩
        go_wp2_with fail
        go_ret
        exact ⟨_,rfl,.bad he o2.size (bad_new w2 0 0 ca ce),o2.alloc _⟩


theorem elStr : ElT 9 (.string ⟨#[]⟩) 1 16:=⟨by kernel_rfl,rfl,by decide,by decide⟩
theorem elFd : ElT 44 (.agg #[.int .i64 0,.string ⟨#[]⟩,.int .i64 0,.string ⟨#[]⟩]) 4 48:=⟨by kernel_rfl,rfl,by decide,by decide⟩
theorem elHd : ElT 46 (.agg #[.int .i64 0,.int .i64 0,.int .i64 0,.string ⟨#[]⟩]) 4 40:=⟨by kernel_rfl,rfl,by decide,by decide⟩
theorem elMe : ElT 41 (.agg #[.int .i64 0,.string ⟨#[]⟩,.slice none 0 0,.bool false,.int .i64 0,.string ⟨#[]⟩,.int .i64 0,.int .i64 0,.slice none 0 0,.slice none 0 0]) 10 144:=⟨by kernel_rfl,rfl,by decide,by decide⟩
theorem elCl : ElT 28 (.agg #[.int .i64 0,.string ⟨#[]⟩,.string ⟨#[]⟩,.slice none 0 0,.slice none 0 0,.slice none 0 0]) 6 112:=⟨by kernel_rfl,rfl,by decide,by decide⟩

theorem slice_hiG {st e : TypeId} {z : Value} {k n : Nat} (hE : ElT e z k n) (hst : Tryz.prog.underlying st = some (.slice e)) (ao : Option Addr) (len cap m : Nat) (hm : m≤cap) (w : World) :
  (Instr.slice st (.slice ao len cap) none (some (.int .i64 (m : Int))) none).run Tryz.prog w = .ok (.slice ao m cap) w:=by
 obtain ⟨i0,hi,hz0,hz1,hz2⟩:=hE.parts
 simp [Instr.slice,run_underlying hst,Instr.sliceBounds,run_sliceBound,sizeOf,typeInfo,hi,hm]
 cases ao <;> simp [Addr.add]

theorem firstE_drop {α : Type} (g : List α→α→Int × Int) (l : List α) (j : Nat) (h : j < l.length) : firstE g (l.take j) (l.drop j) = if (g (l.take j) l[j]).2 = 0 then firstE g (l.take (j + 1)) (l.drop (j + 1)) else (0,(j : Int),(g (l.take j) l[j]).1,(g (l.take j) l[j]).2):=by
 rw [List.drop_eq_getElem_cons h,firstE,List.take_succ_eq_append_getElem h,List.length_take,Nat.min_eq_left (by omega)]

theorem keep4 {w z z' : World} {b : Nat} {v0 v1 v2 v3 : Value} (ho : Only [] z z') (h : z.cell? ⟨b,0,none⟩ = some v0∧z.cell? ⟨b,1,none⟩ = some v1∧z.cell? ⟨b,2,none⟩ = some v2∧z.cell? ⟨b,3,none⟩ = some v3∧Only [] w z) : z'.cell? ⟨b,0,none⟩ = some v0∧z'.cell? ⟨b,1,none⟩ = some v1∧z'.cell? ⟨b,2,none⟩ = some v2∧z'.cell? ⟨b,3,none⟩ = some v3∧Only [] w z':=by
 obtain ⟨h0,h1,h2,h3,h⟩:=h
 have hl:=World.block_lt_of_cell? z _ h0
 exact ⟨(ho.cell (p:=⟨b,0,none⟩) hl (by simp)).trans h0,(ho.cell (p:=⟨b,1,none⟩) hl (by simp)).trans h1,(ho.cell (p:=⟨b,2,none⟩) hl (by simp)).trans h2,(ho.cell (p:=⟨b,3,none⟩) hl (by simp)).trans h3,h.next ho (by simp)⟩

theorem flat_take {α : Type} {k : Nat} (f : α→List Value) (hf : ∀ x,(f x).length = k) (l : List α) (n : Nat) : (l.flatMap f).take (n * k) = (l.take n).flatMap f:=by
 induction l generalizing n with
 | nil=>simp
 | cons x l ih=>
  cases n with
  | zero=>simp
  | succ n=>
   rw [List.flatMap_cons,List.take_succ_cons,List.flatMap_cons,Nat.add_mul,Nat.one_mul,Nat.add_comm,← hf x,List.take_length_add_append,hf x,ih]
theorem scs_take (l : List (List UInt8)) (n : Nat) : (scs l).take n = scs (l.take n):=by
 have:=flat_take scC (fun _=>rfl) l n
 rwa [Nat.mul_one] at this
theorem fcs_take (l : List Fd) (n : Nat) : (fcs l).take (n * 4) = fcs (l.take n):=flat_take fdC (fun _=>rfl) l n

/-- An error that is none is nil, and the other way. -/
theorem EV.nil_iff {w : World} {B : Nat} {v : Value} {b : Bp} (h : EV w B v b) : (b.2.2.2 = 0∧v = .nilIface)∨(b.2.2.2≠0∧∃ t u,v = .iface t u):=by
 cases h with
 | no h=>exact .inl ⟨h,rfl⟩
 | num h=>exact .inr ⟨h,_,_,rfl⟩
 | bad h hp hb=>exact .inr ⟨h,_,_,rfl⟩

set_option maxHeartbeats 4000000 in
theorem members_str {w : World} (hg : Ety w) {ao : Option Addr} {l : List (List UInt8)} {d cap : Nat} (hS : RS w ao (scs l) d) (hc : l.length≤cap) (hN : ∀ s∈l,s.length≤9223372036854775807) (most : Nat) (hm : most≤1000) :
  Calls Tryz.prog 47 #[.slice ao l.length cap,.int .i64 (most : Int),.func (.func 48) #[] #[]] w fun e w'=>∃ v,e = .returned v∧EV w' w.heap.size v (membersE most (at0 faceE) l)∧Only [] w w':=by
 unfold membersE
 have hsl:=slice_hiG elStr Tryz.underlying24 ao l.length cap
 by_cases hmany : most < l.length
 ·rw [if_pos hmany]
  have gm : (most : Int) < (l.length : Int):=by omega
  clear hsl
  go_enter Tryz.func47,Tryz.ntmps47
  go_wp2_with fail
  go_ret
  exact ⟨_,rfl,.num (by decide),Only.refl _ _⟩
 rw [if_neg hmany]
 have gm : ¬ (most : Int) < (l.length : Int):=by omega
 obtain ⟨x,hx⟩ : ∃ x,x = firstE (at0 faceE) [] l:=⟨_,rfl⟩
 rw [← hx]
 have hr : Hid (x = firstE (at0 faceE) (l.take 0) (l.drop 0)):=by rw [hx]; rfl
 clear hx
 have HS:=hid hS
 have HN:=hid hN
 clear hS hN
 replace hg:=hid hg
 replace hsl:=hid hsl
 go_enter Tryz.func47,Tryz.ntmps47
 go_wp2_with fail
 go_loopw [17] (fun i wr=>∃ (j : Nat),j≤l.length∧i = .int .i64 (j : Int)∧Hid (x = firstE (at0 faceE) (l.take j) (l.drop j))∧Hid (Only [] w wr)) (fun i _=>l.length - (intOf i).toNat)
 case atStart=>exact ⟨0,by omega,rfl,hr,hid (Only.refl _ _)⟩
 case round=>
  obtain ⟨j,hj,rfl,hq,ho⟩:=hrel
  clear hr
  by_cases hlt : j < l.length
  ·have g2 : ((j : Int) < (l.length : Int)):=by omega
   have hdr:=firstE_drop (at0 faceE) l j hlt
   rw [← hq.out] at hdr
   have ks:=hsl.out j (by omega)
   have hR:=HS.out.only0 ho.out
   have hT:=hR.take j
   rw [scs_take] at hT
   obtain ⟨off,rfl,c0⟩:=hR.str hlt
   have hn:=HN.out l[j] (List.getElem_mem hlt)
   have hlt2 : (l.take j).length = j:=by rw [List.length_take]; omega
   have HC0:=checkFace_any (cap:=cap) hT (by omega) l[j] hn
   rw [hlt2] at HC0
   generalize l[j] = y at *
   have HC : Hid (Calls Tryz.prog 48 #[.slice (some ⟨d,off,none⟩) j cap,.string (str y)] wr fun e w'=>∃ v,e = .returned v∧EV w' wr.heap.size v (0,0,(at0 faceE (l.take j) y).1,(at0 faceE (l.take j) y).2)∧Only [] wr w'):=HC0.mono fun _ _ h=>⟨_,h.1,EV.bare _ _ _,h.2⟩
   clear HC0 hT hR hn hlt2
   clear hq
   go_wp2_with fail
   refine HC.out.mono ?_
   rintro e w1 ⟨v,rfl,hev,ho1⟩
   rcases hev.nil_iff with ⟨he,rfl⟩ | ⟨he,t,u,rfl⟩
   ·rw [if_pos he] at hdr
    replace hdr:=hid hdr
    go_wp2_with fail
    refine ⟨⟨j + 1,by omega,by go_num,hdr,hid (ho.out.next ho1 (by simp))⟩,by simp [intOf]; omega⟩
   ·rw [if_neg he] at hdr
    have HM:=hid (inMember_any (hg.out.only0 (ho.out.next ho1 (by simp))) (B:=wr.heap.size) ho1.size hev he (j : Int))
    clear hsl ks
    go_wp2_with fail
    refine HM.out.mono ?_
    rintro e w2 ⟨p,hp,rfl,hb,ho2,hp2⟩
    go_wp2_with fail
    go_ret
    subst hdr
    exact ⟨_,rfl,.bad he (by have:=ho.out.size; omega) hb,(ho.out.next ho1 (by simp)).next ho2 (by simp; have:=ho.out.size; omega)⟩
  ·have g2 : ¬ ((j : Int) < (l.length : Int)):=by omega
   have hxx : x = ok4:=by rw [hq.out,List.drop_eq_nil_of_le (by omega)]; rfl
   clear hq
   go_wp2_with fail
   go_ret
   subst hxx
   exact ⟨_,rfl,.no rfl,ho.out⟩

set_option maxHeartbeats 4000000 in
theorem members_fd {w : World} (hg : Ety w) {ao : Option Addr} {l : List Fd} {d cap : Nat} (hS : RS w ao (fcs l) d) (hc : l.length≤cap) (hN : ∀ f∈l,f.2.1.length≤9223372036854775807∧f.2.2.2.length≤9223372036854775807) (most : Nat) (hm : most≤1000) :
  Calls Tryz.prog 49 #[.slice ao l.length cap,.int .i64 (most : Int),.func (.func 50) #[] #[]] w fun e w'=>∃ v,e = .returned v∧EV w' w.heap.size v (membersE most (at0 fieldE) l)∧Only [] w w':=by
 unfold membersE
 have hsl:=slice_hiG elFd Tryz.underlying25 ao l.length cap
 by_cases hmany : most < l.length
 ·rw [if_pos hmany]
  have gm : (most : Int) < (l.length : Int):=by omega
  clear hsl
  go_enter Tryz.func49,Tryz.ntmps49
  go_wp2_with fail
  go_ret
  exact ⟨_,rfl,.num (by decide),Only.refl _ _⟩
 rw [if_neg hmany]
 have gm : ¬ (most : Int) < (l.length : Int):=by omega
 obtain ⟨x,hx⟩ : ∃ x,x = firstE (at0 fieldE) [] l:=⟨_,rfl⟩
 rw [← hx]
 have hr : Hid (x = firstE (at0 fieldE) (l.take 0) (l.drop 0)):=by rw [hx]; rfl
 clear hx
 have HS:=hid hS
 have HN:=hid hN
 clear hS hN
 replace hg:=hid hg
 replace hsl:=hid hsl
 go_enter Tryz.func49,Tryz.ntmps49
 go_wp2_with fail
 go_loopw [17] (fun i wr=>∃ (j : Nat),j≤l.length∧i = .int .i64 (j : Int)∧Hid (x = firstE (at0 fieldE) (l.take j) (l.drop j))∧Hid (Only [] w wr)) (fun i _=>l.length - (intOf i).toNat)
 case atStart=>exact ⟨0,by omega,rfl,hr,hid (Only.refl _ _)⟩
 case round=>
  obtain ⟨j,hj,rfl,hq,ho⟩:=hrel
  clear hr
  by_cases hlt : j < l.length
  ·have g2 : ((j : Int) < (l.length : Int)):=by omega
   have hdr:=firstE_drop (at0 fieldE) l j hlt
   rw [← hq.out] at hdr
   have ks:=hsl.out j (by omega)
   have hR:=HS.out.only0 ho.out
   have hT:=hR.take (j * 4)
   rw [fcs_take] at hT
   obtain ⟨off,rfl,c0,c1,c2,c3⟩:=fd_cells hR hlt
   have hn:=HN.out l[j] (List.getElem_mem hlt)
   have hlt2 : (l.take j).length = j:=by rw [List.length_take]; omega
   have HC0:=fun W (hW : Only [] wr W)=>checkField_any (cap:=cap) (hT.only0 hW) (by omega) l[j] hn.1 hn.2
   rw [hlt2] at HC0
   generalize l[j] = y at *
   unfold fdV at HC0
   have HC : Hid (∀ W,Only [] wr W→Calls Tryz.prog 50 #[.slice (some ⟨d,off,none⟩) j cap,.agg #[.int .i64 y.1,.string (str y.2.1),.int .i64 y.2.2.1,.string (str y.2.2.2)]] W fun e w'=>∃ v,e = .returned v∧EV w' wr.heap.size v (0,0,(at0 fieldE (l.take j) y).1,(at0 fieldE (l.take j) y).2)∧Only [] W w'):=fun W hW=>(HC0 W hW).mono fun _ _ h=>⟨_,h.1,EV.bare _ _ _,h.2⟩
   have oo:=(Only.refl [] wr).alloc (.cells #[.int .i64 y.1,.string (str y.2.1),.int .i64 y.2.2.1,.string (str y.2.2.2)] 44)
   clear HC0 hT hR hn hlt2
   clear hq
   go_wp2_with fail
   go_region_held3 (fun w'=>w'.cell? ⟨wr.heap.size,0,none⟩ = some (.int .i64 y.1)∧w'.cell? ⟨wr.heap.size,1,none⟩ = some (.string (str y.2.1))∧w'.cell? ⟨wr.heap.size,2,none⟩ = some (.int .i64 y.2.2.1)∧w'.cell? ⟨wr.heap.size,3,none⟩ = some (.string (str y.2.2.2))∧Only [] wr w')
    (first | assumption | exact keep4 (by assumption) (by assumption) | exact ⟨by rw [cell_new]; rfl,by rw [cell_new]; rfl,by rw [cell_new]; rfl,by rw [cell_new]; rfl,oo⟩ | exact ⟨by show (wr.alloc _).cell? _ = _; rw [cell_new]; rfl,by show (wr.alloc _).cell? _ = _; rw [cell_new]; rfl,by show (wr.alloc _).cell? _ = _; rw [cell_new]; rfl,by show (wr.alloc _).cell? _ = _; rw [cell_new]; rfl,oo.drew⟩)
    (first
     | (go_at_call 50; (with_reducible refine (HC.out _ ?_).mono ?_); (simp [*]); rintro e w1 ⟨v,rfl,hev,ho1⟩))
   rename_i hS
   replace ho1:=hS.2.2.2.2
   clear hS
   rcases hev.nil_iff with ⟨he,rfl⟩ | ⟨he,t,u,rfl⟩
   ·rw [if_pos he] at hdr
    replace hdr:=hid hdr
    go_wp2_with fail
    refine ⟨⟨j + 1,by omega,by go_num,hdr,hid (ho.out.next ho1 (by simp))⟩,by simp [intOf]; omega⟩
   ·rw [if_neg he] at hdr
    have HM:=hid (inMember_any (hg.out.only0 (ho.out.next ho1 (by simp))) (B:=wr.heap.size) ho1.size hev he (j : Int))
    clear hsl ks
    go_wp2_with fail
    refine HM.out.mono ?_
    rintro e w2 ⟨p,hp,rfl,hb,ho2,hp2⟩
    go_wp2_with fail
    go_ret
    subst hdr
    exact ⟨_,rfl,.bad he (by have:=ho.out.size; omega) hb,(ho.out.next ho1 (by simp)).next ho2 (by simp; have:=ho.out.size; omega)⟩
  ·have g2 : ¬ ((j : Int) < (l.length : Int)):=by omega
   have hxx : x = ok4:=by rw [hq.out,List.drop_eq_nil_of_le (by omega)]; rfl
   clear hq
   go_wp2_with fail
   go_ret
   subst hxx
   exact ⟨_,rfl,.no rfl,ho.out⟩


theorem elEn : ElT 90 (.agg #[.int .i64 0,.string ⟨#[]⟩,.int .i64 0,.int .i64 0,.int .i64 0,.int .i64 0]) 6 56:=⟨by kernel_rfl,rfl,by decide,by decide⟩

set_option maxHeartbeats 4000000 in
theorem rows_en {w : World} {sb r d : Nat} {t : St} (h : Sc w sb r d t) (most : Nat) (hmost : most≤100000) :
  Calls Tryz.prog 76 #[.pointer (some ⟨sb,0,none⟩),.func (.func 77) #[.pointer (some ⟨r,0,none⟩)] #[],.int .i64 (most : Int),.func (.func 78) #[.pointer (some ⟨sb,0,none⟩)] #[]] w
   fun e w'=>∃ (xs : List En) (t' : St) (ao : Option Addr) (cap : Nat),e = .returned (.slice ao xs.length cap)∧w'.ownsRow w.heap.size 90 6 (.slice ao xs.length cap) xs.length (ecs xs)∧(∀ x∈xs,(x.2.1.length≤262144∧-9223372036854775808≤x.2.2.1∧x.2.2.1≤9223372036854775807))∧xs.length≤65536∧Sc w' sb r d t'∧Out (pRows 2 most pEntry) t xs t'∧Only [sb,r] w w':=by
 have c0:=h.c0
 have hl:=hid h.lt
 have HA:=hid (sc_at h)
 have HU:=hid (sc_u2 h)
 clear h
 go_enter Tryz.func76,Tryz.ntmps76
 go_wp2_with fail
 refine HA.out.mono ?_
 rintro e w1 ⟨at_,rfl,hat,rfl⟩
 go_wp2_with fail
 refine HU.out.mono ?_
 rintro e w1 ⟨n,t0,rfl,hn,h0,hO,ho1⟩
 clear HA HU c0
 have o1 : Hid (Only [sb,r] w w1):=ho1.mono (by simp)
 replace hat:=hid hat
 replace hO:=hid hO
 by_cases hm : most < n
 ·have gm : (most : Int) < (n : Int):=by omega
  have HR:=hid (refuse_src h0 (at_ : Int) 4 (by decide))
  go_wp2_with fail
  refine HR.out.mono ?_
  rintro e w2 ⟨rfl,hS2,ho2⟩
  clear HR
  have hSt:=hid hS2
  have oSt:=hid (o1.out.trans ho2 (by simp))
  clear hS2 ho2 ho1 h0
  go_wp2_with fail
  go_loopw [11] (fun l wr=>∃ (xs : List En) (t1 : St) (ao : Option Addr) (cap : Nat),l = .slice ao xs.length cap∧xs.length≤n∧Hid (wr.ownsRow w.heap.size 90 6 (.slice ao xs.length cap) xs.length (ecs xs))∧Hid (xs = []→ao = none)∧Hid (∀ x∈xs,(x.2.1.length≤262144∧-9223372036854775808≤x.2.2.1∧x.2.2.1≤9223372036854775807))∧Hid (Sc wr sb r d t1)∧Hid ((most < n∧t1 = tRefuse (at_ : Int) 4 t0∧xs = [])∨(¬ most < n∧Far pEntry n t0 xs t1))∧Hid (Only [sb,r] w wr)) (fun l _=>n - sliceLen l)
  case atStart=>exact ⟨[],_,none,0,rfl,by simp,World.ownsRow_nil _ _ _ _,hid (fun _=>rfl),hid (by simp),hSt,hid (.inl ⟨hm,rfl,rfl⟩),oSt⟩
  case round=>
   obtain ⟨xs,t1,ao,cap,rfl,hxn,hown,hnil,hlen,hS,hF,hO1⟩:=hrel
   clear hSt oSt
   have HFi:=hid (fine_src hS.out)
   by_cases hlt : xs.length < n
   ·have g1 : ((xs.length : Int) < (n : Int)):=by omega
    cases hfi : isFine t1 with
    | true=>
     rw [hfi] at HFi
     have hFar : Hid (¬ most < n∧Far pEntry n t0 xs t1):=by
      rcases hF.out with ⟨_,h2,_⟩ | h2
      ·rw [h2] at hfi
       cases t0 <;> cases hfi
      ·exact h2
     have HR:=hid (rentry_any hS.out)
     unfold enV at HR
     have c0:=hS.out.c0
     go_wp2_with fail
     refine HFi.out.mono ?_
     rintro e w2 ⟨rfl,rfl⟩
     go_wp2_with fail
     refine HR.out.mono ?_
     rintro e w2 ⟨x,t2,rfl,hxl,hS2,hOx,ho2⟩
     clear HR c0
     have hl1:=hl.out
     have hown2:=rows_only hown.out (ho2.alloc (.cells #[.int .i64 x.1,.string (str x.2.1),.int .i64 x.2.2.1,.int .i64 x.2.2.2.1,.int .i64 x.2.2.2.2.1,.int .i64 x.2.2.2.2.2] 90)) (fun g hg=>by have:=(hown.out.lt g hg).1; simp; omega)
     have o2:=hid ((hO1.out.trans ho2 (by simp)).alloc (.cells #[.int .i64 x.1,.string (str x.2.1),.int .i64 x.2.2.1,.int .i64 x.2.2.2.1,.int .i64 x.2.2.2.2.1,.int .i64 x.2.2.2.2.2] 90))
     have hR:=RS.fresh w2 #[.int .i64 x.1,.string (str x.2.1),.int .i64 x.2.2.1,.int .i64 x.2.2.2.1,.int .i64 x.2.2.2.2.1,.int .i64 x.2.2.2.2.2] 90
     have hS3:=hid (hS2.only0 ((Only.refl [] w2).alloc (.cells #[.int .i64 x.1,.string (str x.2.1),.int .i64 x.2.2.1,.int .i64 x.2.2.2.1,.int .i64 x.2.2.2.2.1,.int .i64 x.2.2.2.2.2] 90)))
     have hOw:=hid hown2
     go_wp2_with (at_builtin; refine wpList_append_any (ys:=ecs [x]) rfl (.tmp 33) (.tmp 36) elEn Tryz.underlying29 rfl rfl rfl hown2 hR rfl (ecs_one _) (by simp) (by omega) (by have:=o2.out.size; omega) ?_; rintro ao3 cap3 w3 hA3)
     have hfin : Hid (Sc w3 sb r d t2):=by
      cases xs with
      | nil=>
       have hno:=hnil.out rfl
       subst hno
       exact hS3.out.only0 hA3.only
      | cons y ys=>exact hS3.out.row hOw.out hA3 (by omega) (u:=.string (str y.2.1)) (by simp) (fun _=>.inr (.inl rfl))
     have o3:=hid (o2.out.next hA3.only (fun z hz=>by
      cases ao with
      | none=>simp [Value.ownBlock] at hz
      | some a=>
       simp [Value.ownBlock] at hz
       subst hz
       exact (hOw.out.lt a.block rfl).1))
     have hown3:=hA3.own
     have ee : ecs xs ++ ecs [x] = ecs (xs ++ [x]):=(ecs_append _ _).symm
     rw [ee] at hown3
     have hnone:=hA3.none
     go_wp2_with fail
     refine ⟨⟨xs ++ [x],t2,ao3,cap3,by simp,by simp; omega,by simpa [Hid] using hown3,hid (by simp),hid (by
      intro y hy
      rcases List.mem_append.1 hy with hy | hy
      ·exact hlen.out y hy
      ·rw [List.mem_singleton.1 hy]; exact hxl),hfin,hid (.inr ⟨hFar.out.1,far_step hFar.out.2 hfi hOx hlt⟩),o3⟩,by simp [sliceLen]; omega⟩
    | false=>
     rw [hfi] at HFi
     go_wp2_with fail
     refine HFi.out.mono ?_
     rintro e w2 ⟨rfl,rfl⟩
     go_wp2_with fail
     go_ret
     refine ⟨xs,t1,ao,cap,rfl,hown.out,(by first | exact hlen.out | (intros; exact hlen.out _ (by assumption))),by omega,hS.out,out_rows hO.out hat.out ?_,hO1.out⟩
     rcases hF.out with ⟨h1,h2,_⟩ | ⟨h1,h2⟩
     ·exact .inl ⟨h1,h2⟩
     ·exact .inr ⟨h1,h2,fun hf=>by rw [hfi] at hf; cases hf⟩
   ·have g1 : ¬ ((xs.length : Int) < (n : Int)):=by omega
    go_wp2_with fail
    go_ret
    refine ⟨xs,t1,ao,cap,rfl,hown.out,(by first | exact hlen.out | (intros; exact hlen.out _ (by assumption))),by omega,hS.out,out_rows hO.out hat.out ?_,hO1.out⟩
    rcases hF.out with ⟨h1,h2,_⟩ | ⟨h1,h2⟩
    ·exact .inl ⟨h1,h2⟩
    ·exact .inr ⟨h1,h2,fun _=>by omega⟩
 ·have gm : ¬ (most : Int) < (n : Int):=by omega
  have hSt:=hid h0
  have oSt:=o1
  clear ho1 h0
  go_wp2_with fail
  go_loopw [11] (fun l wr=>∃ (xs : List En) (t1 : St) (ao : Option Addr) (cap : Nat),l = .slice ao xs.length cap∧xs.length≤n∧Hid (wr.ownsRow w.heap.size 90 6 (.slice ao xs.length cap) xs.length (ecs xs))∧Hid (xs = []→ao = none)∧Hid (∀ x∈xs,(x.2.1.length≤262144∧-9223372036854775808≤x.2.2.1∧x.2.2.1≤9223372036854775807))∧Hid (Sc wr sb r d t1)∧Hid ((most < n∧t1 = tRefuse (at_ : Int) 4 t0∧xs = [])∨(¬ most < n∧Far pEntry n t0 xs t1))∧Hid (Only [sb,r] w wr)) (fun l _=>n - sliceLen l)
  case atStart=>exact ⟨[],_,none,0,rfl,by simp,World.ownsRow_nil _ _ _ _,hid (fun _=>rfl),hid (by simp),hSt,hid (.inr ⟨hm,far_start _ _ _⟩),oSt⟩
  case round=>
   obtain ⟨xs,t1,ao,cap,rfl,hxn,hown,hnil,hlen,hS,hF,hO1⟩:=hrel
   clear hSt oSt
   have HFi:=hid (fine_src hS.out)
   by_cases hlt : xs.length < n
   ·have g1 : ((xs.length : Int) < (n : Int)):=by omega
    cases hfi : isFine t1 with
    | true=>
     rw [hfi] at HFi
     have hFar : Hid (¬ most < n∧Far pEntry n t0 xs t1):=by
      rcases hF.out with ⟨_,h2,_⟩ | h2
      ·rw [h2] at hfi
       cases t0 <;> cases hfi
      ·exact h2
     have HR:=hid (rentry_any hS.out)
     unfold enV at HR
     have c0:=hS.out.c0
     go_wp2_with fail
     refine HFi.out.mono ?_
     rintro e w2 ⟨rfl,rfl⟩
     go_wp2_with fail
     refine HR.out.mono ?_
     rintro e w2 ⟨x,t2,rfl,hxl,hS2,hOx,ho2⟩
     clear HR c0
     have hl1:=hl.out
     have hown2:=rows_only hown.out (ho2.alloc (.cells #[.int .i64 x.1,.string (str x.2.1),.int .i64 x.2.2.1,.int .i64 x.2.2.2.1,.int .i64 x.2.2.2.2.1,.int .i64 x.2.2.2.2.2] 90)) (fun g hg=>by have:=(hown.out.lt g hg).1; simp; omega)
     have o2:=hid ((hO1.out.trans ho2 (by simp)).alloc (.cells #[.int .i64 x.1,.string (str x.2.1),.int .i64 x.2.2.1,.int .i64 x.2.2.2.1,.int .i64 x.2.2.2.2.1,.int .i64 x.2.2.2.2.2] 90))
     have hR:=RS.fresh w2 #[.int .i64 x.1,.string (str x.2.1),.int .i64 x.2.2.1,.int .i64 x.2.2.2.1,.int .i64 x.2.2.2.2.1,.int .i64 x.2.2.2.2.2] 90
     have hS3:=hid (hS2.only0 ((Only.refl [] w2).alloc (.cells #[.int .i64 x.1,.string (str x.2.1),.int .i64 x.2.2.1,.int .i64 x.2.2.2.1,.int .i64 x.2.2.2.2.1,.int .i64 x.2.2.2.2.2] 90)))
     have hOw:=hid hown2
     go_wp2_with (at_builtin; refine wpList_append_any (ys:=ecs [x]) rfl (.tmp 33) (.tmp 36) elEn Tryz.underlying29 rfl rfl rfl hown2 hR rfl (ecs_one _) (by simp) (by omega) (by have:=o2.out.size; omega) ?_; rintro ao3 cap3 w3 hA3)
     have hfin : Hid (Sc w3 sb r d t2):=by
      cases xs with
      | nil=>
       have hno:=hnil.out rfl
       subst hno
       exact hS3.out.only0 hA3.only
      | cons y ys=>exact hS3.out.row hOw.out hA3 (by omega) (u:=.string (str y.2.1)) (by simp) (fun _=>.inr (.inl rfl))
     have o3:=hid (o2.out.next hA3.only (fun z hz=>by
      cases ao with
      | none=>simp [Value.ownBlock] at hz
      | some a=>
       simp [Value.ownBlock] at hz
       subst hz
       exact (hOw.out.lt a.block rfl).1))
     have hown3:=hA3.own
     have ee : ecs xs ++ ecs [x] = ecs (xs ++ [x]):=(ecs_append _ _).symm
     rw [ee] at hown3
     have hnone:=hA3.none
     go_wp2_with fail
     refine ⟨⟨xs ++ [x],t2,ao3,cap3,by simp,by simp; omega,by simpa [Hid] using hown3,hid (by simp),hid (by
      intro y hy
      rcases List.mem_append.1 hy with hy | hy
      ·exact hlen.out y hy
      ·rw [List.mem_singleton.1 hy]; exact hxl),hfin,hid (.inr ⟨hFar.out.1,far_step hFar.out.2 hfi hOx hlt⟩),o3⟩,by simp [sliceLen]; omega⟩
    | false=>
     rw [hfi] at HFi
     go_wp2_with fail
     refine HFi.out.mono ?_
     rintro e w2 ⟨rfl,rfl⟩
     go_wp2_with fail
     go_ret
     refine ⟨xs,t1,ao,cap,rfl,hown.out,(by first | exact hlen.out | (intros; exact hlen.out _ (by assumption))),by omega,hS.out,out_rows hO.out hat.out ?_,hO1.out⟩
     rcases hF.out with ⟨h1,h2,_⟩ | ⟨h1,h2⟩
     ·exact .inl ⟨h1,h2⟩
     ·exact .inr ⟨h1,h2,fun hf=>by rw [hfi] at hf; cases hf⟩
   ·have g1 : ¬ ((xs.length : Int) < (n : Int)):=by omega
    go_wp2_with fail
    go_ret
    refine ⟨xs,t1,ao,cap,rfl,hown.out,(by first | exact hlen.out | (intros; exact hlen.out _ (by assumption))),by omega,hS.out,out_rows hO.out hat.out ?_,hO1.out⟩
    rcases hF.out with ⟨h1,h2,_⟩ | ⟨h1,h2⟩
    ·exact .inl ⟨h1,h2⟩
    ·exact .inr ⟨h1,h2,fun _=>by omega⟩

end Go.Proofs.YtildemmkhndhjaaGreatDoor
