/-
  What the proof leans on, part 36 of 48. The conditions stand in each theorem.
-/
import Derived.Test.YtildemmkhndhjaaGreatDoorB29
import Derived.Test.YtildemmkhndhjaaGreatDoorB35
import Derived.Test.YtildemmkhndhjaaGreatDoorB18
import Derived.Test.YtildemmkhndhjaaGreatDoorB09
namespace Go.Proofs.YtildemmkhndhjaaGreatDoor
open Go.RowKit

theorem stR_ok {l : List Ty} {void : Bool} {t : Ty} (h : sigCheck l void t = 0) : stR l void t = sigText l void t:=by unfold stR; rw [if_pos h]

theorem meth_head {l : List En} {cf : Int} {a : List Me} {m : Me} {x : Int} (h : headingE a m = x) (hx : x≠0) : methodE l cf a m = (0,x):=by
 unfold methodE
 rw [if_neg (by rw [h]; exact hx),h]

theorem meth_flag {l : List En} {cf : Int} {a : List Me} {m : Me} {x : Int} (h : headingE a m = 0) (hf : flagsE cf m = x) (hx : x≠0) : methodE l cf a m = (0,x):=by
 unfold methodE
 rw [if_pos h,if_neg (by rw [hf]; exact hx),hf]

theorem meth_body {l : List En} {cf : Int} {a : List Me} {m : Me} (h : headingE a m = 0) (hf : flagsE cf m = 0) : methodE l cf a m = bodyE l m:=by
 unfold methodE
 rw [if_pos h,if_pos hf]

theorem keep11 {z0 z z' : World} {p0 p1 p2 p3 p4 p5 p6 p7 p8 p9 p10 : Addr} {v0 v1 v2 v3 v4 v5 v6 v7 v8 v9 v10 : Value} (ho : Only [] z z') (h : z.cell? p0 = some v0∧z.cell? p1 = some v1∧z.cell? p2 = some v2∧z.cell? p3 = some v3∧z.cell? p4 = some v4∧z.cell? p5 = some v5∧z.cell? p6 = some v6∧z.cell? p7 = some v7∧z.cell? p8 = some v8∧z.cell? p9 = some v9∧z.cell? p10 = some v10∧Only [] z0 z) :
  z'.cell? p0 = some v0∧z'.cell? p1 = some v1∧z'.cell? p2 = some v2∧z'.cell? p3 = some v3∧z'.cell? p4 = some v4∧z'.cell? p5 = some v5∧z'.cell? p6 = some v6∧z'.cell? p7 = some v7∧z'.cell? p8 = some v8∧z'.cell? p9 = some v9∧z'.cell? p10 = some v10∧Only [] z0 z':=by
 have k : ∀ {p : Addr} {v : Value},z.cell? p = some v→z'.cell? p = some v:=fun {p v} hc=>(ho.cell (World.block_lt_of_cell? z _ hc) (by simp)).trans hc
 obtain ⟨h0,h1,h2,h3,h4,h5,h6,h7,h8,h9,h10,h11⟩:=h
 exact ⟨k h0,k h1,k h2,k h3,k h4,k h5,k h6,k h7,k h8,k h9,k h10,h11.trans ho (by simp)⟩

/-- Has one ahead its name and signature? -/
def twinP (m : Me) (n : Me) : Bool:=decide (n.name = m.name) && sameR n.sig m.sig

theorem heading_rest {a : List Me} {m : Me} (hf : m.flags = 0∨m.flags = 2∨m.flags = 4) (hn : methodOK m.name = true) (hs : sigCheck m.sig.1 m.sig.2.1 m.sig.2.2 = 0) (hl : ¬ 255 < (sigText m.sig.1 m.sig.2.1 m.sig.2.2).length) :
  headingE a m = if a.any (twinP m) = true then 20 else 0:=by
 unfold headingE
 rw [if_neg (by omega),if_pos hn,if_pos hs,if_neg hl]
 rfl

set_option maxHeartbeats 8000000 in
set_option maxRecDepth 100000 in
theorem rmethod5_any {w : World} {P Q : Nat→Prop} (l : List En) {ve : Value} (hE0 : SlV w Q ve l.length (ecs l)) (hA : ∀ e∈l,e.2.1.length≤1048576) (cf : Int) (cn cs : List UInt8) (M : List Me) (i : Nat) (hi : i < M.length) (hF : ∀ m∈M,MeFit m∧m.sig.1.length≤2000000) {vf vd vm : Value} {mcs : List Value} (hC : SlV w P vm M.length mcs) (hEl : Els 10 (MeC (SlR w P)) mcs M) :
  Calls Tryz.prog 155 #[ve,.agg #[.int .i64 cf,.string (str cn),.string (str cs),vf,vd,vm],.int .i64 (i : Int)] w fun e w'=>e = .returned (.tuple #[.int .i64 (methodE l cf (M.take i) M[i]).1,.int .i64 (methodE l cf (M.take i) M[i]).2])∧Only [] w w':=by
 obtain ⟨mo,mc,rfl,hlen⟩:=hC.shape
 obtain ⟨d,hr⟩:=hC.rs
 clear hC
 obtain ⟨hfit,hps⟩:=hF _ (List.getElem_mem hi)
 obtain ⟨off,vp,vc,vh,hao,hm,y0,y1,y2,y3,y4,y5,y6,y7,y8,y9⟩:=me_cells hr hEl hi
 subst hao
 have hm0:=hm
 obtain ⟨po,pc,pd,rfl,hP⟩:=hm.params
 obtain ⟨co,cc,cd,rfl,hCo⟩:=hm.code
 obtain ⟨ho,hc,hd,rfl,hH⟩:=hm.hands
 have hlp : M[i].sig.1.length≤9223372036854775807:=by have:=hP.le; have:=hP.max; omega
 have HN:=fun W=>xmethod_any M[i].name hfit.name W
 have HT:=fun W (hW : Only [] w W)=>rsigText_any (cap:=pc) (TS.of_rs (hP.rs.only0 hW)) hlp hfit.params M[i].sig.2.1 M[i].sig.2.2 hfit.res
 have HB:=fun W (hW : Only [] w W)=>rbody_any (P:=P) (Q:=Q) l (SlV.only hE0 hW (by simp)) hA M[i] hfit hps (hm0.only0 hW)
 have hPr:=hid hP.rs
 obtain ⟨R,hR⟩ : ∃ R,R = methodE l cf (M.take i) M[i]:=⟨_,rfl⟩
 rw [← hR]
 clear hm hm0 hfit hps hP hCo hH hE0 hA hF
 unfold meV at HB
 generalize hMi : M[i] = m at *
 obtain ⟨fl,nm,⟨ps,vo,td,tn⟩,st,lo,code,hs⟩:=m
 simp only [sigV] at HN HT HB hR hPr hlp y0 y1 y2 y3 y4 y5 y6 y7 y8 y9
 replace HN:=hid HN
 replace HT:=hid HT
 replace HB:=hid HB
 replace hR:=hid hR
 replace hMi:=hid hMi
 replace hEl:=hid hEl
 have gi : ((i : Int) < (M.length : Int)):=by omega
 have z0:=fun x=>cell_alloc x y0
 have z1:=fun x=>cell_alloc x y1
 have z2:=fun x=>cell_alloc x y2
 have z3:=fun x=>cell_alloc x y3
 have z4:=fun x=>cell_alloc x y4
 have z5:=fun x=>cell_alloc x y5
 have z6:=fun x=>cell_alloc x y6
 have z7:=fun x=>cell_alloc x y7
 have z8:=fun x=>cell_alloc x y8
 have z9:=fun x=>cell_alloc x y9
 clear y0 y1 y2 y3 y4 y5 y6 y7 y8 y9
 replace hr:=hid hr
 have S0:=cl6_new w (.int .i64 cf) (.string (str cn)) (.string (str cs)) vf vd (.slice (some ⟨d,off,none⟩) M.length mc) 28
 have o1:=((Only.refl [] w).alloc (.cells #[.int .i64 cf,.string (str cn),.string (str cs),vf,vd,.slice (some ⟨d,off,none⟩) M.length mc] 28)).alloc (.cells #[.int .i64 fl,.string (str nm),.slice po ps.length pc,.bool vo,.int .i64 td,.string (str tn),.int .i64 st,.int .i64 lo,.slice co code.length cc,.slice ho hs.length hc] 41)
 have M1:=me10_new (w.alloc (.cells #[.int .i64 cf,.string (str cn),.string (str cs),vf,vd,.slice (some ⟨d,off,none⟩) M.length mc] 28)) (.int .i64 fl) (.string (str nm)) (.slice po ps.length pc) (.bool vo) (.int .i64 td) (.string (str tn)) (.int .i64 st) (.int .i64 lo) (.slice co code.length cc) (.slice ho hs.length hc) 41
 rw [World.size_alloc] at M1
 have S1:=hid (S0.only ((Only.refl [] _).alloc (.cells #[.int .i64 fl,.string (str nm),.slice po ps.length pc,.bool vo,.int .i64 td,.string (str tn),.int .i64 st,.int .i64 lo,.slice co code.length cc,.slice ho hs.length hc] 41)) (by simp))
 obtain ⟨c0,c1,c2,c3,c4,c5,_,_,_,_,_,_⟩:=S0
 have M1h:=hid M1
 clear M1
 by_cases hfl : fl≠0∧fl≠2∧fl≠4
 ·have hRR : R = (0,21):=by
   rw [hR.out]
   exact meth_head (by unfold headingE; rw [if_pos hfl]) (by decide)
  subst hRR
  obtain ⟨g0,g2,g4⟩:=hfl
  have g0' : (fl == 0) = false:=by simpa using g0
  have g2' : (fl == 2) = false:=by simpa using g2
  have g4' : (fl == 4) = false:=by simpa using g4
  have n0 : (fl != 0) = true:=by simpa using g0
  have n2 : (fl != 2) = true:=by simpa using g2
  have n4 : (fl != 4) = true:=by simpa using g4
  clear hR HN HT HB
  go_enter Tryz.func155,Tryz.ntmps155
  go_wp2
  go_ret2
  exact ⟨rfl,o1⟩
 have hfl' : fl = 0∨fl = 2∨fl = 4:=by omega
 clear hfl
 rcases hfl' with rfl | rfl | rfl
 ·cases hnm : methodOK nm with
  | false=>
   rw [hnm] at HN
   have hRR : R = (0,14):=by
    rw [hR.out]
    exact meth_head (by unfold headingE; rw [if_neg (by simp)]; simp [hnm]) (by decide)
   subst hRR
   clear hR HT HB
   go_enter Tryz.func155,Tryz.ntmps155
   go_wp2_with fail
   refine (HN.out _).mono ?_
   rintro e w' ⟨rfl,rfl⟩
   go_wp2_with fail
   go_ret2
   exact ⟨rfl,o1⟩
  | true=>
   rw [hnm] at HN
   by_cases hsg : sigCheck ps vo (td,tn) = 0
   case neg=>
    have hRR : R = (0,sigCheck ps vo (td,tn)):=by
     rw [hR.out]
     exact meth_head (by unfold headingE; rw [if_neg (by simp),if_pos hnm,if_neg hsg]) hsg
    subst hRR
    have n1 : (sigCheck ps vo (td,tn) != 0) = true:=by simpa using hsg
    have m1 : (sigCheck ps vo (td,tn) == 0) = false:=by simpa using hsg
    generalize sigCheck ps vo (td,tn) = sc at *
    clear hR HB
    go_enter Tryz.func155,Tryz.ntmps155
    go_wp2_with fail
    refine (HN.out _).mono ?_
    rintro e w' ⟨rfl,rfl⟩
    go_wp2_with fail
    refine (HT.out _ o1).mono ?_
    rintro e w3 ⟨rfl,o3⟩
    go_wp2_with fail
    go_ret2
    exact ⟨rfl,o1.trans o3 (by simp)⟩
   replace HT : Hid (∀ W,Only [] w W→Calls Tryz.prog 150 #[.agg #[.slice po ps.length pc,.bool vo,.int .i64 td,.string (str tn)]] W fun e w'=>e = .returned (.tuple #[.string (str (sigText ps vo (td,tn))),.int .i64 0])∧Only [] W w'):=fun W hW=>by
    have:=HT.out W hW
    rw [stR_ok hsg,hsg] at this
    exact this
   have hz:=str_size (sigText ps vo (td,tn))
   by_cases hlg : 255 < (sigText ps vo (td,tn)).length
   ·have hRR : R = (0,5):=by
     rw [hR.out]
     exact meth_head (by unfold headingE; rw [if_neg (by simp),if_pos hnm,if_pos hsg,if_pos hlg]) (by decide)
    subst hRR
    have g5 : (255 : Int) < ((str (sigText ps vo (td,tn))).size : Int):=by omega
    clear hR HB hz
    generalize sigText ps vo (td,tn) = sx at *
    go_enter Tryz.func155,Tryz.ntmps155
    go_wp2_with fail
    refine (HN.out _).mono ?_
    rintro e w' ⟨rfl,rfl⟩
    go_wp2_with fail
    refine (HT.out _ o1).mono ?_
    rintro e w3 ⟨rfl,o3⟩
    go_wp2_with fail
    go_ret2
    exact ⟨rfl,o1.trans o3 (by simp)⟩
   have hR2 : Hid (headingE (M.take i) ⟨0,nm,(ps,vo,td,tn),st,lo,code,hs⟩ = if (M.take i).any (twinP ⟨0,nm,(ps,vo,td,tn),st,lo,code,hs⟩) = true then 20 else 0):=heading_rest (.inl rfl) hnm hsg hlg
   have g5 : ¬ (255 : Int) < ((str (sigText ps vo (td,tn))).size : Int):=by omega
   clear hz hlg hsg
   generalize sigText ps vo (td,tn) = sx at *
   go_enter Tryz.func155,Tryz.ntmps155
   go_wp2_with fail
   refine (HN.out _).mono ?_
   rintro e w' ⟨rfl,rfl⟩
   go_wp2_with fail
   refine (HT.out _ o1).mono ?_
   rintro e w3 ⟨rfl,o3⟩
   have S3:=hid (S1.out.only o3 (by simp))
   have M3:=hid (M1h.out.only o3 (by simp))
   have oo:=hid (o1.trans o3 (by simp))
   clear HN HT c0 c1 c2 c3 c4 c5 z0 z1 z2 z3 z4 z5 z6 z7 z8 z9 S1 M1h o1 o3
   go_wp2_with fail
   clear g5
   go_loopw [11] (fun v wr=>∃ j : Nat,j≤i∧v = .int .i64 (j : Int)∧Hid (∀ k (hk : k < M.length),k < j→twinP ⟨0,nm,(ps,vo,td,tn),st,lo,code,hs⟩ M[k] = false)∧Hid (Cl6 wr w.heap.size (.int .i64 cf) (.string (str cn)) (.string (str cs)) vf vd (.slice (some ⟨d,off,none⟩) M.length mc))∧Hid (Me10 wr (w.heap.size + 1) (.int .i64 0) (.string (str nm)) (.slice po ps.length pc) (.bool vo) (.int .i64 td) (.string (str tn)) (.int .i64 st) (.int .i64 lo) (.slice co code.length cc) (.slice ho hs.length hc))∧Hid (Only [] w wr)) (fun v _=>i - (intOf v).toNat)
   case atStart=>exact ⟨0,by omega,rfl,hid (fun k hk h=>by omega),S3,M3,oo⟩
   case round=>
    obtain ⟨j,hj,rfl,hno,hS,hM,hor⟩:=hrel
    clear S3 M3 oo
    obtain ⟨c0,c1,c2,c3,c4,c5,_,_,_,_,_,_⟩:=hS.out
    obtain ⟨a0,a1,a2,a3,a4,a5,a6,a7,a8,a9,_,_,_,_,_,_,_,_,_,_⟩:=hM.out
    by_cases hlt : j < i
    ·have g1 : ((j : Int) < (i : Int)):=by omega
     have hjl : j < M.length:=by omega
     have g2 : ((j : Int) < (M.length : Int)):=by omega
     obtain ⟨off1,vp1,vc1,vh1,e1,hm1,y0,y1,y2,y3,y4,y5,y6,y7,y8,y9⟩:=me_cells (hr.out.only0 hor.out) hEl.out hjl
     simp only [Option.some.injEq,Addr.mk.injEq,true_and,and_true] at e1
     subst e1
     obtain ⟨qo,qc,qd,rfl,hQ⟩:=hm1.params
     have hlq : M[j].sig.1.length≤9223372036854775807:=by have:=hQ.le; have:=hQ.max; omega
     have HS:=fun W (hW : Only [] wr W)=>rsame_any (cap:=qc) (bap:=pc) (TS.of_rs ((hQ.rs.only0 hor.out).only0 hW)) (TS.of_rs ((hPr.out.only0 hor.out).only0 hW)) hlq M[j].sig.2.1 vo M[j].sig.2.2 (td,tn)
     clear hm1 hQ
     have htw : Hid (twinP ⟨0,nm,(ps,vo,td,tn),st,lo,code,hs⟩ M[j] = (decide (M[j].name = nm) && sameR M[j].sig (ps,vo,td,tn))):=rfl
     have hyes : Hid (twinP ⟨0,nm,(ps,vo,td,tn),st,lo,code,hs⟩ M[j] = true→R = (0,20)):=fun h=>by
      rw [hR.out]
      exact meth_head (by rw [hR2.out,if_pos (any_true_take hjl hlt h)]) (by decide)
     have hnxt : Hid (twinP ⟨0,nm,(ps,vo,td,tn),st,lo,code,hs⟩ M[j] = false→∀ k (hk : k < M.length),k < j + 1→twinP ⟨0,nm,(ps,vo,td,tn),st,lo,code,hs⟩ M[k] = false):=fun h k hk hkj=>by
      by_cases e : k = j
      ·subst e; exact h
      ·exact hno.out k hk (by omega)
     clear hno
     generalize M[j] = x at *
     obtain ⟨xf,xn,⟨xps,xvo,xtd,xtn⟩,xst,xlo,xcode,xhs⟩:=x
     simp only [sigV] at HS htw y0 y1 y2 y3 y4 y5 y6 y7 y8 y9 hlq
     clear y0 y6 y7 y8 y9
     by_cases hnn : xn = nm
     ·subst hnn
      cases hsm : sameR (xps,xvo,xtd,xtn) (ps,vo,td,tn) with
      | true=>
       obtain rfl:=hyes.out (by rw [htw.out,hsm]; simp)
       rw [hsm] at HS
       replace HS:=hid HS
       clear hyes hnxt htw hR hsm
       have hk : Hid (wr.cell? ⟨w.heap.size,5,none⟩ = some (.slice (some ⟨d,off,none⟩) M.length mc)∧wr.cell? ⟨d,off + j * 10 + 1,none⟩ = some (.string (str xn))∧wr.cell? ⟨d,off + j * 10 + 2,none⟩ = some (.slice qo xps.length qc)∧wr.cell? ⟨d,off + j * 10 + 3,none⟩ = some (.bool xvo)∧wr.cell? ⟨d,off + j * 10 + 4,none⟩ = some (.int .i64 xtd)∧wr.cell? ⟨d,off + j * 10 + 5,none⟩ = some (.string (str xtn))∧wr.cell? ⟨w.heap.size + 1,1,none⟩ = some (.string (str xn))∧wr.cell? ⟨w.heap.size + 1,2,none⟩ = some (.slice po ps.length pc)∧wr.cell? ⟨w.heap.size + 1,3,none⟩ = some (.bool vo)∧wr.cell? ⟨w.heap.size + 1,4,none⟩ = some (.int .i64 td)∧wr.cell? ⟨w.heap.size + 1,5,none⟩ = some (.string (str tn))∧Only [] wr wr):=⟨c5,y1,y2,y3,y4,y5,a1,a2,a3,a4,a5,Only.refl _ _⟩
       go_wp2_with fail
       go_region_held3 (fun w'=>w'.cell? ⟨w.heap.size,5,none⟩ = some (.slice (some ⟨d,off,none⟩) M.length mc)∧w'.cell? ⟨d,off + j * 10 + 1,none⟩ = some (.string (str xn))∧w'.cell? ⟨d,off + j * 10 + 2,none⟩ = some (.slice qo xps.length qc)∧w'.cell? ⟨d,off + j * 10 + 3,none⟩ = some (.bool xvo)∧w'.cell? ⟨d,off + j * 10 + 4,none⟩ = some (.int .i64 xtd)∧w'.cell? ⟨d,off + j * 10 + 5,none⟩ = some (.string (str xtn))∧w'.cell? ⟨w.heap.size + 1,1,none⟩ = some (.string (str xn))∧w'.cell? ⟨w.heap.size + 1,2,none⟩ = some (.slice po ps.length pc)∧w'.cell? ⟨w.heap.size + 1,3,none⟩ = some (.bool vo)∧w'.cell? ⟨w.heap.size + 1,4,none⟩ = some (.int .i64 td)∧w'.cell? ⟨w.heap.size + 1,5,none⟩ = some (.string (str tn))∧Only [] wr w')
        (first | (with_reducible assumption) | (with_reducible exact hk.out) | (with_reducible exact keep11 (Only.refl [] _).drew hk.out) | (with_reducible exact keep11 (by assumption) (by assumption)))
        (first
         | (go_at_call 145; (with_reducible refine (HS.out _ ?_).mono ?_); (first | (exact (Only.refl [] _).drew) | (simp [*])); rintro e w4 ⟨rfl,o4⟩))
       rename_i hH
       have o5:=hid hH.2.2.2.2.2.2.2.2.2.2.2
       clear hH
       go_wp2
       go_ret2
       exact ⟨rfl,hor.out.trans o5.out (by simp)⟩
      | false=>
       have hnx:=hid (hnxt.out (by rw [htw.out,hsm]; simp))
       rw [hsm] at HS
       replace HS:=hid HS
       clear hyes hnxt htw hsm
       have hk : Hid (wr.cell? ⟨w.heap.size,5,none⟩ = some (.slice (some ⟨d,off,none⟩) M.length mc)∧wr.cell? ⟨d,off + j * 10 + 1,none⟩ = some (.string (str xn))∧wr.cell? ⟨d,off + j * 10 + 2,none⟩ = some (.slice qo xps.length qc)∧wr.cell? ⟨d,off + j * 10 + 3,none⟩ = some (.bool xvo)∧wr.cell? ⟨d,off + j * 10 + 4,none⟩ = some (.int .i64 xtd)∧wr.cell? ⟨d,off + j * 10 + 5,none⟩ = some (.string (str xtn))∧wr.cell? ⟨w.heap.size + 1,1,none⟩ = some (.string (str xn))∧wr.cell? ⟨w.heap.size + 1,2,none⟩ = some (.slice po ps.length pc)∧wr.cell? ⟨w.heap.size + 1,3,none⟩ = some (.bool vo)∧wr.cell? ⟨w.heap.size + 1,4,none⟩ = some (.int .i64 td)∧wr.cell? ⟨w.heap.size + 1,5,none⟩ = some (.string (str tn))∧Only [] wr wr):=⟨c5,y1,y2,y3,y4,y5,a1,a2,a3,a4,a5,Only.refl _ _⟩
       go_wp2_with fail
       go_region_held3 (fun w'=>w'.cell? ⟨w.heap.size,5,none⟩ = some (.slice (some ⟨d,off,none⟩) M.length mc)∧w'.cell? ⟨d,off + j * 10 + 1,none⟩ = some (.string (str xn))∧w'.cell? ⟨d,off + j * 10 + 2,none⟩ = some (.slice qo xps.length qc)∧w'.cell? ⟨d,off + j * 10 + 3,none⟩ = some (.bool xvo)∧w'.cell? ⟨d,off + j * 10 + 4,none⟩ = some (.int .i64 xtd)∧w'.cell? ⟨d,off + j * 10 + 5,none⟩ = some (.string (str xtn))∧w'.cell? ⟨w.heap.size + 1,1,none⟩ = some (.string (str xn))∧w'.cell? ⟨w.heap.size + 1,2,none⟩ = some (.slice po ps.length pc)∧w'.cell? ⟨w.heap.size + 1,3,none⟩ = some (.bool vo)∧w'.cell? ⟨w.heap.size + 1,4,none⟩ = some (.int .i64 td)∧w'.cell? ⟨w.heap.size + 1,5,none⟩ = some (.string (str tn))∧Only [] wr w')
        (first | (with_reducible assumption) | (with_reducible exact hk.out) | (with_reducible exact keep11 (Only.refl [] _).drew hk.out) | (with_reducible exact keep11 (by assumption) (by assumption)))
        (first
         | (go_at_call 145; (with_reducible refine (HS.out _ ?_).mono ?_); (first | (exact (Only.refl [] _).drew) | (simp [*])); rintro e w4 ⟨rfl,o4⟩))
       rename_i hH
       have o5:=hid hH.2.2.2.2.2.2.2.2.2.2.2
       clear hH
       go_wp2
       exact ⟨⟨j + 1,by omega,by go_num,hnx,hid (hS.out.only o5.out (by simp)),hid (hM.out.only o5.out (by simp)),hid (hor.out.trans o5.out (by simp))⟩,by simp [intOf]; omega⟩
     ·have hnx:=hid (hnxt.out (by rw [htw.out]; simp [hnn]))
      have p1 : ¬ ((str xn).toList = (str nm).toList):=by rw [str_toList,str_toList]; exact hnn
      have q1 : ((str xn).toList == (str nm).toList) = false:=by simpa using p1
      clear hyes hnxt htw HS hnn
      go_wp2_with fail
      go_region
      go_wp2
      exact ⟨⟨j + 1,by omega,by go_num,hnx,hid (hS.out.only (Only.refl [] _).drew (by simp)),hid (hM.out.only (Only.refl [] _).drew (by simp)),hid hor.out.drew⟩,by simp [intOf]; omega⟩
    ·have g1 : ¬ ((j : Int) < (i : Int)):=by omega
     obtain rfl : j = i:=by omega
     have hH0 : Hid (headingE (M.take j) ⟨0,nm,(ps,vo,td,tn),st,lo,code,hs⟩ = 0):=by
      unfold Hid
      rw [hR2.out,if_neg]
      rw [any_false_take hno.out]
      simp
     clear hno hR2
     have HB3:=hid (HB.out wr hor.out)
     clear HB
     have ht:=str_toList nm
     by_cases hin : nm = initL
     ·subst hin
      have ht2 : (str initL).toList = [60,105,110,105,116,62]:=str_toList _
      clear ht
      cases vo with
      | false=>
       have hRR : R = (0,15):=by
        rw [hR.out]
        exact meth_flag hH0.out (by unfold flagsE; simp []) (by decide)
       subst hRR
       clear hR HB3
       go_wp2
       go_ret2
       exact ⟨rfl,hor.out⟩
      | true=>
       by_cases hcf : cf = 1
       ·subst hcf
        have hRR : R = (0,33):=by
         rw [hR.out]
         exact meth_flag hH0.out (by unfold flagsE; simp []) (by decide)
        subst hRR
        clear hR HB3
        go_wp2
        go_ret2
        exact ⟨rfl,hor.out⟩
       ·have hcf1 : (cf == 1) = false:=by simpa using hcf
        have hRR : R = bodyE l ⟨0,initL,(ps,true,td,tn),st,lo,code,hs⟩:=by
         rw [hR.out]
         exact meth_body hH0.out (by unfold flagsE; simp [hcf])
        replace hRR:=hid hRR
        clear hR
        go_wp2_with fail
        refine HB3.out.mono ?_
        rintro e w4 ⟨rfl,o4⟩
        go_wp2_with fail
        go_ret2
        rw [hRR.out]
        exact ⟨rfl,hor.out.trans o4 (by simp)⟩
     ·have hb2 : ¬ (nm = [60,105,110,105,116,62]):=hin
      have hb3 : (nm == [60,105,110,105,116,62]) = false:=by simpa using hb2
      by_cases hcf : cf = 1
      ·subst hcf
       have hRR : R = (0,33):=by
        rw [hR.out]
        exact meth_flag hH0.out (by unfold flagsE; simp [hin]) (by decide)
       subst hRR
       clear hR HB3
       go_wp2
       go_ret2
       exact ⟨rfl,hor.out⟩
      ·have hcf1 : (cf == 1) = false:=by simpa using hcf
       have hRR : R = bodyE l ⟨0,nm,(ps,vo,td,tn),st,lo,code,hs⟩:=by
        rw [hR.out]
        exact meth_body hH0.out (by unfold flagsE; simp [hin,hcf])
       replace hRR:=hid hRR
       clear hR
       go_wp2_with fail
       refine HB3.out.mono ?_
       rintro e w4 ⟨rfl,o4⟩
       go_wp2_with fail
       go_ret2
       rw [hRR.out]
       exact ⟨rfl,hor.out.trans o4 (by simp)⟩
 ·cases hnm : methodOK nm with
  | false=>
   rw [hnm] at HN
   have hRR : R = (0,14):=by
    rw [hR.out]
    exact meth_head (by unfold headingE; rw [if_neg (by simp)]; simp [hnm]) (by decide)
   subst hRR
   clear hR HT HB
   go_enter Tryz.func155,Tryz.ntmps155
   go_wp2_with fail
   refine (HN.out _).mono ?_
   rintro e w' ⟨rfl,rfl⟩
   go_wp2_with fail
   go_ret2
   exact ⟨rfl,o1⟩
  | true=>
   rw [hnm] at HN
   by_cases hsg : sigCheck ps vo (td,tn) = 0
   case neg=>
    have hRR : R = (0,sigCheck ps vo (td,tn)):=by
     rw [hR.out]
     exact meth_head (by unfold headingE; rw [if_neg (by simp),if_pos hnm,if_neg hsg]) hsg
    subst hRR
    have n1 : (sigCheck ps vo (td,tn) != 0) = true:=by simpa using hsg
    have m1 : (sigCheck ps vo (td,tn) == 0) = false:=by simpa using hsg
    generalize sigCheck ps vo (td,tn) = sc at *
    clear hR HB
    go_enter Tryz.func155,Tryz.ntmps155
    go_wp2_with fail
    refine (HN.out _).mono ?_
    rintro e w' ⟨rfl,rfl⟩
    go_wp2_with fail
    refine (HT.out _ o1).mono ?_
    rintro e w3 ⟨rfl,o3⟩
    go_wp2_with fail
    go_ret2
    exact ⟨rfl,o1.trans o3 (by simp)⟩
   replace HT : Hid (∀ W,Only [] w W→Calls Tryz.prog 150 #[.agg #[.slice po ps.length pc,.bool vo,.int .i64 td,.string (str tn)]] W fun e w'=>e = .returned (.tuple #[.string (str (sigText ps vo (td,tn))),.int .i64 0])∧Only [] W w'):=fun W hW=>by
    have:=HT.out W hW
    rw [stR_ok hsg,hsg] at this
    exact this
   have hz:=str_size (sigText ps vo (td,tn))
   by_cases hlg : 255 < (sigText ps vo (td,tn)).length
   ·have hRR : R = (0,5):=by
     rw [hR.out]
     exact meth_head (by unfold headingE; rw [if_neg (by simp),if_pos hnm,if_pos hsg,if_pos hlg]) (by decide)
    subst hRR
    have g5 : (255 : Int) < ((str (sigText ps vo (td,tn))).size : Int):=by omega
    clear hR HB hz
    generalize sigText ps vo (td,tn) = sx at *
    go_enter Tryz.func155,Tryz.ntmps155
    go_wp2_with fail
    refine (HN.out _).mono ?_
    rintro e w' ⟨rfl,rfl⟩
    go_wp2_with fail
    refine (HT.out _ o1).mono ?_
    rintro e w3 ⟨rfl,o3⟩
    go_wp2_with fail
    go_ret2
    exact ⟨rfl,o1.trans o3 (by simp)⟩
   have hR2 : Hid (headingE (M.take i) ⟨2,nm,(ps,vo,td,tn),st,lo,code,hs⟩ = if (M.take i).any (twinP ⟨2,nm,(ps,vo,td,tn),st,lo,code,hs⟩) = true then 20 else 0):=heading_rest (.inr (.inl rfl)) hnm hsg hlg
   have g5 : ¬ (255 : Int) < ((str (sigText ps vo (td,tn))).size : Int):=by omega
   clear hz hlg hsg
   generalize sigText ps vo (td,tn) = sx at *
   go_enter Tryz.func155,Tryz.ntmps155
   go_wp2_with fail
   refine (HN.out _).mono ?_
   rintro e w' ⟨rfl,rfl⟩
   go_wp2_with fail
   refine (HT.out _ o1).mono ?_
   rintro e w3 ⟨rfl,o3⟩
   have S3:=hid (S1.out.only o3 (by simp))
   have M3:=hid (M1h.out.only o3 (by simp))
   have oo:=hid (o1.trans o3 (by simp))
   clear HN HT c0 c1 c2 c3 c4 c5 z0 z1 z2 z3 z4 z5 z6 z7 z8 z9 S1 M1h o1 o3
   go_wp2_with fail
   clear g5
   go_loopw [11] (fun v wr=>∃ j : Nat,j≤i∧v = .int .i64 (j : Int)∧Hid (∀ k (hk : k < M.length),k < j→twinP ⟨2,nm,(ps,vo,td,tn),st,lo,code,hs⟩ M[k] = false)∧Hid (Cl6 wr w.heap.size (.int .i64 cf) (.string (str cn)) (.string (str cs)) vf vd (.slice (some ⟨d,off,none⟩) M.length mc))∧Hid (Me10 wr (w.heap.size + 1) (.int .i64 2) (.string (str nm)) (.slice po ps.length pc) (.bool vo) (.int .i64 td) (.string (str tn)) (.int .i64 st) (.int .i64 lo) (.slice co code.length cc) (.slice ho hs.length hc))∧Hid (Only [] w wr)) (fun v _=>i - (intOf v).toNat)
   case atStart=>exact ⟨0,by omega,rfl,hid (fun k hk h=>by omega),S3,M3,oo⟩
   case round=>
    obtain ⟨j,hj,rfl,hno,hS,hM,hor⟩:=hrel
    clear S3 M3 oo
    obtain ⟨c0,c1,c2,c3,c4,c5,_,_,_,_,_,_⟩:=hS.out
    obtain ⟨a0,a1,a2,a3,a4,a5,a6,a7,a8,a9,_,_,_,_,_,_,_,_,_,_⟩:=hM.out
    by_cases hlt : j < i
    ·have g1 : ((j : Int) < (i : Int)):=by omega
     have hjl : j < M.length:=by omega
     have g2 : ((j : Int) < (M.length : Int)):=by omega
     obtain ⟨off1,vp1,vc1,vh1,e1,hm1,y0,y1,y2,y3,y4,y5,y6,y7,y8,y9⟩:=me_cells (hr.out.only0 hor.out) hEl.out hjl
     simp only [Option.some.injEq,Addr.mk.injEq,true_and,and_true] at e1
     subst e1
     obtain ⟨qo,qc,qd,rfl,hQ⟩:=hm1.params
     have hlq : M[j].sig.1.length≤9223372036854775807:=by have:=hQ.le; have:=hQ.max; omega
     have HS:=fun W (hW : Only [] wr W)=>rsame_any (cap:=qc) (bap:=pc) (TS.of_rs ((hQ.rs.only0 hor.out).only0 hW)) (TS.of_rs ((hPr.out.only0 hor.out).only0 hW)) hlq M[j].sig.2.1 vo M[j].sig.2.2 (td,tn)
     clear hm1 hQ
     have htw : Hid (twinP ⟨2,nm,(ps,vo,td,tn),st,lo,code,hs⟩ M[j] = (decide (M[j].name = nm) && sameR M[j].sig (ps,vo,td,tn))):=rfl
     have hyes : Hid (twinP ⟨2,nm,(ps,vo,td,tn),st,lo,code,hs⟩ M[j] = true→R = (0,20)):=fun h=>by
      rw [hR.out]
      exact meth_head (by rw [hR2.out,if_pos (any_true_take hjl hlt h)]) (by decide)
     have hnxt : Hid (twinP ⟨2,nm,(ps,vo,td,tn),st,lo,code,hs⟩ M[j] = false→∀ k (hk : k < M.length),k < j + 1→twinP ⟨2,nm,(ps,vo,td,tn),st,lo,code,hs⟩ M[k] = false):=fun h k hk hkj=>by
      by_cases e : k = j
      ·subst e; exact h
      ·exact hno.out k hk (by omega)
     clear hno
     generalize M[j] = x at *
     obtain ⟨xf,xn,⟨xps,xvo,xtd,xtn⟩,xst,xlo,xcode,xhs⟩:=x
     simp only [sigV] at HS htw y0 y1 y2 y3 y4 y5 y6 y7 y8 y9 hlq
     clear y0 y6 y7 y8 y9
     by_cases hnn : xn = nm
     ·subst hnn
      cases hsm : sameR (xps,xvo,xtd,xtn) (ps,vo,td,tn) with
      | true=>
       obtain rfl:=hyes.out (by rw [htw.out,hsm]; simp)
       rw [hsm] at HS
       replace HS:=hid HS
       clear hyes hnxt htw hR hsm
       have hk : Hid (wr.cell? ⟨w.heap.size,5,none⟩ = some (.slice (some ⟨d,off,none⟩) M.length mc)∧wr.cell? ⟨d,off + j * 10 + 1,none⟩ = some (.string (str xn))∧wr.cell? ⟨d,off + j * 10 + 2,none⟩ = some (.slice qo xps.length qc)∧wr.cell? ⟨d,off + j * 10 + 3,none⟩ = some (.bool xvo)∧wr.cell? ⟨d,off + j * 10 + 4,none⟩ = some (.int .i64 xtd)∧wr.cell? ⟨d,off + j * 10 + 5,none⟩ = some (.string (str xtn))∧wr.cell? ⟨w.heap.size + 1,1,none⟩ = some (.string (str xn))∧wr.cell? ⟨w.heap.size + 1,2,none⟩ = some (.slice po ps.length pc)∧wr.cell? ⟨w.heap.size + 1,3,none⟩ = some (.bool vo)∧wr.cell? ⟨w.heap.size + 1,4,none⟩ = some (.int .i64 td)∧wr.cell? ⟨w.heap.size + 1,5,none⟩ = some (.string (str tn))∧Only [] wr wr):=⟨c5,y1,y2,y3,y4,y5,a1,a2,a3,a4,a5,Only.refl _ _⟩
       go_wp2_with fail
       go_region_held3 (fun w'=>w'.cell? ⟨w.heap.size,5,none⟩ = some (.slice (some ⟨d,off,none⟩) M.length mc)∧w'.cell? ⟨d,off + j * 10 + 1,none⟩ = some (.string (str xn))∧w'.cell? ⟨d,off + j * 10 + 2,none⟩ = some (.slice qo xps.length qc)∧w'.cell? ⟨d,off + j * 10 + 3,none⟩ = some (.bool xvo)∧w'.cell? ⟨d,off + j * 10 + 4,none⟩ = some (.int .i64 xtd)∧w'.cell? ⟨d,off + j * 10 + 5,none⟩ = some (.string (str xtn))∧w'.cell? ⟨w.heap.size + 1,1,none⟩ = some (.string (str xn))∧w'.cell? ⟨w.heap.size + 1,2,none⟩ = some (.slice po ps.length pc)∧w'.cell? ⟨w.heap.size + 1,3,none⟩ = some (.bool vo)∧w'.cell? ⟨w.heap.size + 1,4,none⟩ = some (.int .i64 td)∧w'.cell? ⟨w.heap.size + 1,5,none⟩ = some (.string (str tn))∧Only [] wr w')
        (first | (with_reducible assumption) | (with_reducible exact hk.out) | (with_reducible exact keep11 (Only.refl [] _).drew hk.out) | (with_reducible exact keep11 (by assumption) (by assumption)))
        (first
         | (go_at_call 145; (with_reducible refine (HS.out _ ?_).mono ?_); (first | (exact (Only.refl [] _).drew) | (simp [*])); rintro e w4 ⟨rfl,o4⟩))
       rename_i hH
       have o5:=hid hH.2.2.2.2.2.2.2.2.2.2.2
       clear hH
       go_wp2
       go_ret2
       exact ⟨rfl,hor.out.trans o5.out (by simp)⟩
      | false=>
       have hnx:=hid (hnxt.out (by rw [htw.out,hsm]; simp))
       rw [hsm] at HS
       replace HS:=hid HS
       clear hyes hnxt htw hsm
       have hk : Hid (wr.cell? ⟨w.heap.size,5,none⟩ = some (.slice (some ⟨d,off,none⟩) M.length mc)∧wr.cell? ⟨d,off + j * 10 + 1,none⟩ = some (.string (str xn))∧wr.cell? ⟨d,off + j * 10 + 2,none⟩ = some (.slice qo xps.length qc)∧wr.cell? ⟨d,off + j * 10 + 3,none⟩ = some (.bool xvo)∧wr.cell? ⟨d,off + j * 10 + 4,none⟩ = some (.int .i64 xtd)∧wr.cell? ⟨d,off + j * 10 + 5,none⟩ = some (.string (str xtn))∧wr.cell? ⟨w.heap.size + 1,1,none⟩ = some (.string (str xn))∧wr.cell? ⟨w.heap.size + 1,2,none⟩ = some (.slice po ps.length pc)∧wr.cell? ⟨w.heap.size + 1,3,none⟩ = some (.bool vo)∧wr.cell? ⟨w.heap.size + 1,4,none⟩ = some (.int .i64 td)∧wr.cell? ⟨w.heap.size + 1,5,none⟩ = some (.string (str tn))∧Only [] wr wr):=⟨c5,y1,y2,y3,y4,y5,a1,a2,a3,a4,a5,Only.refl _ _⟩
       go_wp2_with fail
       go_region_held3 (fun w'=>w'.cell? ⟨w.heap.size,5,none⟩ = some (.slice (some ⟨d,off,none⟩) M.length mc)∧w'.cell? ⟨d,off + j * 10 + 1,none⟩ = some (.string (str xn))∧w'.cell? ⟨d,off + j * 10 + 2,none⟩ = some (.slice qo xps.length qc)∧w'.cell? ⟨d,off + j * 10 + 3,none⟩ = some (.bool xvo)∧w'.cell? ⟨d,off + j * 10 + 4,none⟩ = some (.int .i64 xtd)∧w'.cell? ⟨d,off + j * 10 + 5,none⟩ = some (.string (str xtn))∧w'.cell? ⟨w.heap.size + 1,1,none⟩ = some (.string (str xn))∧w'.cell? ⟨w.heap.size + 1,2,none⟩ = some (.slice po ps.length pc)∧w'.cell? ⟨w.heap.size + 1,3,none⟩ = some (.bool vo)∧w'.cell? ⟨w.heap.size + 1,4,none⟩ = some (.int .i64 td)∧w'.cell? ⟨w.heap.size + 1,5,none⟩ = some (.string (str tn))∧Only [] wr w')
        (first | (with_reducible assumption) | (with_reducible exact hk.out) | (with_reducible exact keep11 (Only.refl [] _).drew hk.out) | (with_reducible exact keep11 (by assumption) (by assumption)))
        (first
         | (go_at_call 145; (with_reducible refine (HS.out _ ?_).mono ?_); (first | (exact (Only.refl [] _).drew) | (simp [*])); rintro e w4 ⟨rfl,o4⟩))
       rename_i hH
       have o5:=hid hH.2.2.2.2.2.2.2.2.2.2.2
       clear hH
       go_wp2
       exact ⟨⟨j + 1,by omega,by go_num,hnx,hid (hS.out.only o5.out (by simp)),hid (hM.out.only o5.out (by simp)),hid (hor.out.trans o5.out (by simp))⟩,by simp [intOf]; omega⟩
     ·have hnx:=hid (hnxt.out (by rw [htw.out]; simp [hnn]))
      have p1 : ¬ ((str xn).toList = (str nm).toList):=by rw [str_toList,str_toList]; exact hnn
      have q1 : ((str xn).toList == (str nm).toList) = false:=by simpa using p1
      clear hyes hnxt htw HS hnn
      go_wp2_with fail
      go_region
      go_wp2
      exact ⟨⟨j + 1,by omega,by go_num,hnx,hid (hS.out.only (Only.refl [] _).drew (by simp)),hid (hM.out.only (Only.refl [] _).drew (by simp)),hid hor.out.drew⟩,by simp [intOf]; omega⟩
    ·have g1 : ¬ ((j : Int) < (i : Int)):=by omega
     obtain rfl : j = i:=by omega
     have hH0 : Hid (headingE (M.take j) ⟨2,nm,(ps,vo,td,tn),st,lo,code,hs⟩ = 0):=by
      unfold Hid
      rw [hR2.out,if_neg]
      rw [any_false_take hno.out]
      simp
     clear hno hR2
     have HB3:=hid (HB.out wr hor.out)
     clear HB
     have ht:=str_toList nm
     by_cases hin : nm = initL
     ·subst hin
      have ht2 : (str initL).toList = [60,105,110,105,116,62]:=str_toList _
      clear ht
      have hRR : R = (0,21):=by
       rw [hR.out]
       exact meth_flag hH0.out (by unfold flagsE; simp []) (by decide)
      subst hRR
      clear hR HB3
      go_wp2
      go_ret2
      exact ⟨rfl,hor.out⟩
     ·have hb2 : ¬ (nm = [60,105,110,105,116,62]):=hin
      have hb3 : (nm == [60,105,110,105,116,62]) = false:=by simpa using hb2
      by_cases hcf : cf = 1
      ·subst hcf
       have hRR : R = bodyE l ⟨2,nm,(ps,vo,td,tn),st,lo,code,hs⟩:=by
        rw [hR.out]
        exact meth_body hH0.out (by unfold flagsE; simp [hin])
       replace hRR:=hid hRR
       clear hR
       go_wp2_with fail
       refine HB3.out.mono ?_
       rintro e w4 ⟨rfl,o4⟩
       go_wp2_with fail
       go_ret2
       rw [hRR.out]
       exact ⟨rfl,hor.out.trans o4 (by simp)⟩
      ·have hcf1 : (cf == 1) = false:=by simpa using hcf
       by_cases hcz : cf = 0
       ·subst hcz
        have hRR : R = (0,21):=by
         rw [hR.out]
         exact meth_flag hH0.out (by unfold flagsE; simp [hin]) (by decide)
        subst hRR
        clear hR HB3
        go_wp2
        go_ret2
        exact ⟨rfl,hor.out⟩
       ·have hcz1 : (cf == 0) = false:=by simpa using hcz
        have hRR : R = bodyE l ⟨2,nm,(ps,vo,td,tn),st,lo,code,hs⟩:=by
         rw [hR.out]
         exact meth_body hH0.out (by unfold flagsE; simp [hin,hcf,hcz])
        replace hRR:=hid hRR
        clear hR
        go_wp2_with fail
        refine HB3.out.mono ?_
        rintro e w4 ⟨rfl,o4⟩
        go_wp2_with fail
        go_ret2
        rw [hRR.out]
        exact ⟨rfl,hor.out.trans o4 (by simp)⟩
 ·cases hnm : methodOK nm with
  | false=>
   rw [hnm] at HN
   have hRR : R = (0,14):=by
    rw [hR.out]
    exact meth_head (by unfold headingE; rw [if_neg (by simp)]; simp [hnm]) (by decide)
   subst hRR
   clear hR HT HB
   go_enter Tryz.func155,Tryz.ntmps155
   go_wp2_with fail
   refine (HN.out _).mono ?_
   rintro e w' ⟨rfl,rfl⟩
   go_wp2_with fail
   go_ret2
   exact ⟨rfl,o1⟩
  | true=>
   rw [hnm] at HN
   by_cases hsg : sigCheck ps vo (td,tn) = 0
   case neg=>
    have hRR : R = (0,sigCheck ps vo (td,tn)):=by
     rw [hR.out]
     exact meth_head (by unfold headingE; rw [if_neg (by simp),if_pos hnm,if_neg hsg]) hsg
    subst hRR
    have n1 : (sigCheck ps vo (td,tn) != 0) = true:=by simpa using hsg
    have m1 : (sigCheck ps vo (td,tn) == 0) = false:=by simpa using hsg
    generalize sigCheck ps vo (td,tn) = sc at *
    clear hR HB
    go_enter Tryz.func155,Tryz.ntmps155
    go_wp2_with fail
    refine (HN.out _).mono ?_
    rintro e w' ⟨rfl,rfl⟩
    go_wp2_with fail
    refine (HT.out _ o1).mono ?_
    rintro e w3 ⟨rfl,o3⟩
    go_wp2_with fail
    go_ret2
    exact ⟨rfl,o1.trans o3 (by simp)⟩
   replace HT : Hid (∀ W,Only [] w W→Calls Tryz.prog 150 #[.agg #[.slice po ps.length pc,.bool vo,.int .i64 td,.string (str tn)]] W fun e w'=>e = .returned (.tuple #[.string (str (sigText ps vo (td,tn))),.int .i64 0])∧Only [] W w'):=fun W hW=>by
    have:=HT.out W hW
    rw [stR_ok hsg,hsg] at this
    exact this
   have hz:=str_size (sigText ps vo (td,tn))
   by_cases hlg : 255 < (sigText ps vo (td,tn)).length
   ·have hRR : R = (0,5):=by
     rw [hR.out]
     exact meth_head (by unfold headingE; rw [if_neg (by simp),if_pos hnm,if_pos hsg,if_pos hlg]) (by decide)
    subst hRR
    have g5 : (255 : Int) < ((str (sigText ps vo (td,tn))).size : Int):=by omega
    clear hR HB hz
    generalize sigText ps vo (td,tn) = sx at *
    go_enter Tryz.func155,Tryz.ntmps155
    go_wp2_with fail
    refine (HN.out _).mono ?_
    rintro e w' ⟨rfl,rfl⟩
    go_wp2_with fail
    refine (HT.out _ o1).mono ?_
    rintro e w3 ⟨rfl,o3⟩
    go_wp2_with fail
    go_ret2
    exact ⟨rfl,o1.trans o3 (by simp)⟩
   have hR2 : Hid (headingE (M.take i) ⟨4,nm,(ps,vo,td,tn),st,lo,code,hs⟩ = if (M.take i).any (twinP ⟨4,nm,(ps,vo,td,tn),st,lo,code,hs⟩) = true then 20 else 0):=heading_rest (.inr (.inr rfl)) hnm hsg hlg
   have g5 : ¬ (255 : Int) < ((str (sigText ps vo (td,tn))).size : Int):=by omega
   clear hz hlg hsg
   generalize sigText ps vo (td,tn) = sx at *
   go_enter Tryz.func155,Tryz.ntmps155
   go_wp2_with fail
   refine (HN.out _).mono ?_
   rintro e w' ⟨rfl,rfl⟩
   go_wp2_with fail
   refine (HT.out _ o1).mono ?_
   rintro e w3 ⟨rfl,o3⟩
   have S3:=hid (S1.out.only o3 (by simp))
   have M3:=hid (M1h.out.only o3 (by simp))
   have oo:=hid (o1.trans o3 (by simp))
   clear HN HT c0 c1 c2 c3 c4 c5 z0 z1 z2 z3 z4 z5 z6 z7 z8 z9 S1 M1h o1 o3
   go_wp2_with fail
   clear g5
   go_loopw [11] (fun v wr=>∃ j : Nat,j≤i∧v = .int .i64 (j : Int)∧Hid (∀ k (hk : k < M.length),k < j→twinP ⟨4,nm,(ps,vo,td,tn),st,lo,code,hs⟩ M[k] = false)∧Hid (Cl6 wr w.heap.size (.int .i64 cf) (.string (str cn)) (.string (str cs)) vf vd (.slice (some ⟨d,off,none⟩) M.length mc))∧Hid (Me10 wr (w.heap.size + 1) (.int .i64 4) (.string (str nm)) (.slice po ps.length pc) (.bool vo) (.int .i64 td) (.string (str tn)) (.int .i64 st) (.int .i64 lo) (.slice co code.length cc) (.slice ho hs.length hc))∧Hid (Only [] w wr)) (fun v _=>i - (intOf v).toNat)
   case atStart=>exact ⟨0,by omega,rfl,hid (fun k hk h=>by omega),S3,M3,oo⟩
   case round=>
    obtain ⟨j,hj,rfl,hno,hS,hM,hor⟩:=hrel
    clear S3 M3 oo
    obtain ⟨c0,c1,c2,c3,c4,c5,_,_,_,_,_,_⟩:=hS.out
    obtain ⟨a0,a1,a2,a3,a4,a5,a6,a7,a8,a9,_,_,_,_,_,_,_,_,_,_⟩:=hM.out
    by_cases hlt : j < i
    ·have g1 : ((j : Int) < (i : Int)):=by omega
     have hjl : j < M.length:=by omega
     have g2 : ((j : Int) < (M.length : Int)):=by omega
     obtain ⟨off1,vp1,vc1,vh1,e1,hm1,y0,y1,y2,y3,y4,y5,y6,y7,y8,y9⟩:=me_cells (hr.out.only0 hor.out) hEl.out hjl
     simp only [Option.some.injEq,Addr.mk.injEq,true_and,and_true] at e1
     subst e1
     obtain ⟨qo,qc,qd,rfl,hQ⟩:=hm1.params
     have hlq : M[j].sig.1.length≤9223372036854775807:=by have:=hQ.le; have:=hQ.max; omega
     have HS:=fun W (hW : Only [] wr W)=>rsame_any (cap:=qc) (bap:=pc) (TS.of_rs ((hQ.rs.only0 hor.out).only0 hW)) (TS.of_rs ((hPr.out.only0 hor.out).only0 hW)) hlq M[j].sig.2.1 vo M[j].sig.2.2 (td,tn)
     clear hm1 hQ
     have htw : Hid (twinP ⟨4,nm,(ps,vo,td,tn),st,lo,code,hs⟩ M[j] = (decide (M[j].name = nm) && sameR M[j].sig (ps,vo,td,tn))):=rfl
     have hyes : Hid (twinP ⟨4,nm,(ps,vo,td,tn),st,lo,code,hs⟩ M[j] = true→R = (0,20)):=fun h=>by
      rw [hR.out]
      exact meth_head (by rw [hR2.out,if_pos (any_true_take hjl hlt h)]) (by decide)
     have hnxt : Hid (twinP ⟨4,nm,(ps,vo,td,tn),st,lo,code,hs⟩ M[j] = false→∀ k (hk : k < M.length),k < j + 1→twinP ⟨4,nm,(ps,vo,td,tn),st,lo,code,hs⟩ M[k] = false):=fun h k hk hkj=>by
      by_cases e : k = j
      ·subst e; exact h
      ·exact hno.out k hk (by omega)
     clear hno
     generalize M[j] = x at *
     obtain ⟨xf,xn,⟨xps,xvo,xtd,xtn⟩,xst,xlo,xcode,xhs⟩:=x
     simp only [sigV] at HS htw y0 y1 y2 y3 y4 y5 y6 y7 y8 y9 hlq
     clear y0 y6 y7 y8 y9
     by_cases hnn : xn = nm
     ·subst hnn
      cases hsm : sameR (xps,xvo,xtd,xtn) (ps,vo,td,tn) with
      | true=>
       obtain rfl:=hyes.out (by rw [htw.out,hsm]; simp)
       rw [hsm] at HS
       replace HS:=hid HS
       clear hyes hnxt htw hR hsm
       have hk : Hid (wr.cell? ⟨w.heap.size,5,none⟩ = some (.slice (some ⟨d,off,none⟩) M.length mc)∧wr.cell? ⟨d,off + j * 10 + 1,none⟩ = some (.string (str xn))∧wr.cell? ⟨d,off + j * 10 + 2,none⟩ = some (.slice qo xps.length qc)∧wr.cell? ⟨d,off + j * 10 + 3,none⟩ = some (.bool xvo)∧wr.cell? ⟨d,off + j * 10 + 4,none⟩ = some (.int .i64 xtd)∧wr.cell? ⟨d,off + j * 10 + 5,none⟩ = some (.string (str xtn))∧wr.cell? ⟨w.heap.size + 1,1,none⟩ = some (.string (str xn))∧wr.cell? ⟨w.heap.size + 1,2,none⟩ = some (.slice po ps.length pc)∧wr.cell? ⟨w.heap.size + 1,3,none⟩ = some (.bool vo)∧wr.cell? ⟨w.heap.size + 1,4,none⟩ = some (.int .i64 td)∧wr.cell? ⟨w.heap.size + 1,5,none⟩ = some (.string (str tn))∧Only [] wr wr):=⟨c5,y1,y2,y3,y4,y5,a1,a2,a3,a4,a5,Only.refl _ _⟩
       go_wp2_with fail
       go_region_held3 (fun w'=>w'.cell? ⟨w.heap.size,5,none⟩ = some (.slice (some ⟨d,off,none⟩) M.length mc)∧w'.cell? ⟨d,off + j * 10 + 1,none⟩ = some (.string (str xn))∧w'.cell? ⟨d,off + j * 10 + 2,none⟩ = some (.slice qo xps.length qc)∧w'.cell? ⟨d,off + j * 10 + 3,none⟩ = some (.bool xvo)∧w'.cell? ⟨d,off + j * 10 + 4,none⟩ = some (.int .i64 xtd)∧w'.cell? ⟨d,off + j * 10 + 5,none⟩ = some (.string (str xtn))∧w'.cell? ⟨w.heap.size + 1,1,none⟩ = some (.string (str xn))∧w'.cell? ⟨w.heap.size + 1,2,none⟩ = some (.slice po ps.length pc)∧w'.cell? ⟨w.heap.size + 1,3,none⟩ = some (.bool vo)∧w'.cell? ⟨w.heap.size + 1,4,none⟩ = some (.int .i64 td)∧w'.cell? ⟨w.heap.size + 1,5,none⟩ = some (.string (str tn))∧Only [] wr w')
        (first | (with_reducible assumption) | (with_reducible exact hk.out) | (with_reducible exact keep11 (Only.refl [] _).drew hk.out) | (with_reducible exact keep11 (by assumption) (by assumption)))
        (first
         | (go_at_call 145; (with_reducible refine (HS.out _ ?_).mono ?_); (first | (exact (Only.refl [] _).drew) | (simp [*])); rintro e w4 ⟨rfl,o4⟩))
       rename_i hH
       have o5:=hid hH.2.2.2.2.2.2.2.2.2.2.2
       clear hH
       go_wp2
       go_ret2
       exact ⟨rfl,hor.out.trans o5.out (by simp)⟩
      | false=>
       have hnx:=hid (hnxt.out (by rw [htw.out,hsm]; simp))
       rw [hsm] at HS
       replace HS:=hid HS
       clear hyes hnxt htw hsm
       have hk : Hid (wr.cell? ⟨w.heap.size,5,none⟩ = some (.slice (some ⟨d,off,none⟩) M.length mc)∧wr.cell? ⟨d,off + j * 10 + 1,none⟩ = some (.string (str xn))∧wr.cell? ⟨d,off + j * 10 + 2,none⟩ = some (.slice qo xps.length qc)∧wr.cell? ⟨d,off + j * 10 + 3,none⟩ = some (.bool xvo)∧wr.cell? ⟨d,off + j * 10 + 4,none⟩ = some (.int .i64 xtd)∧wr.cell? ⟨d,off + j * 10 + 5,none⟩ = some (.string (str xtn))∧wr.cell? ⟨w.heap.size + 1,1,none⟩ = some (.string (str xn))∧wr.cell? ⟨w.heap.size + 1,2,none⟩ = some (.slice po ps.length pc)∧wr.cell? ⟨w.heap.size + 1,3,none⟩ = some (.bool vo)∧wr.cell? ⟨w.heap.size + 1,4,none⟩ = some (.int .i64 td)∧wr.cell? ⟨w.heap.size + 1,5,none⟩ = some (.string (str tn))∧Only [] wr wr):=⟨c5,y1,y2,y3,y4,y5,a1,a2,a3,a4,a5,Only.refl _ _⟩
       go_wp2_with fail
       go_region_held3 (fun w'=>w'.cell? ⟨w.heap.size,5,none⟩ = some (.slice (some ⟨d,off,none⟩) M.length mc)∧w'.cell? ⟨d,off + j * 10 + 1,none⟩ = some (.string (str xn))∧w'.cell? ⟨d,off + j * 10 + 2,none⟩ = some (.slice qo xps.length qc)∧w'.cell? ⟨d,off + j * 10 + 3,none⟩ = some (.bool xvo)∧w'.cell? ⟨d,off + j * 10 + 4,none⟩ = some (.int .i64 xtd)∧w'.cell? ⟨d,off + j * 10 + 5,none⟩ = some (.string (str xtn))∧w'.cell? ⟨w.heap.size + 1,1,none⟩ = some (.string (str xn))∧w'.cell? ⟨w.heap.size + 1,2,none⟩ = some (.slice po ps.length pc)∧w'.cell? ⟨w.heap.size + 1,3,none⟩ = some (.bool vo)∧w'.cell? ⟨w.heap.size + 1,4,none⟩ = some (.int .i64 td)∧w'.cell? ⟨w.heap.size + 1,5,none⟩ = some (.string (str tn))∧Only [] wr w')
        (first | (with_reducible assumption) | (with_reducible exact hk.out) | (with_reducible exact keep11 (Only.refl [] _).drew hk.out) | (with_reducible exact keep11 (by assumption) (by assumption)))
        (first
         | (go_at_call 145; (with_reducible refine (HS.out _ ?_).mono ?_); (first | (exact (Only.refl [] _).drew) | (simp [*])); rintro e w4 ⟨rfl,o4⟩))
       rename_i hH
       have o5:=hid hH.2.2.2.2.2.2.2.2.2.2.2
       clear hH
       go_wp2
       exact ⟨⟨j + 1,by omega,by go_num,hnx,hid (hS.out.only o5.out (by simp)),hid (hM.out.only o5.out (by simp)),hid (hor.out.trans o5.out (by simp))⟩,by simp [intOf]; omega⟩
     ·have hnx:=hid (hnxt.out (by rw [htw.out]; simp [hnn]))
      have p1 : ¬ ((str xn).toList = (str nm).toList):=by rw [str_toList,str_toList]; exact hnn
      have q1 : ((str xn).toList == (str nm).toList) = false:=by simpa using p1
      clear hyes hnxt htw HS hnn
      go_wp2_with fail
      go_region
      go_wp2
      exact ⟨⟨j + 1,by omega,by go_num,hnx,hid (hS.out.only (Only.refl [] _).drew (by simp)),hid (hM.out.only (Only.refl [] _).drew (by simp)),hid hor.out.drew⟩,by simp [intOf]; omega⟩
    ·have g1 : ¬ ((j : Int) < (i : Int)):=by omega
     obtain rfl : j = i:=by omega
     have hH0 : Hid (headingE (M.take j) ⟨4,nm,(ps,vo,td,tn),st,lo,code,hs⟩ = 0):=by
      unfold Hid
      rw [hR2.out,if_neg]
      rw [any_false_take hno.out]
      simp
     clear hno hR2
     have HB3:=hid (HB.out wr hor.out)
     clear HB
     have ht:=str_toList nm
     by_cases hin : nm = initL
     ·subst hin
      have ht2 : (str initL).toList = [60,105,110,105,116,62]:=str_toList _
      clear ht
      have hRR : R = (0,21):=by
       rw [hR.out]
       exact meth_flag hH0.out (by unfold flagsE; simp []) (by decide)
      subst hRR
      clear hR HB3
      go_wp2
      go_ret2
      exact ⟨rfl,hor.out⟩
     ·have hb2 : ¬ (nm = [60,105,110,105,116,62]):=hin
      have hb3 : (nm == [60,105,110,105,116,62]) = false:=by simpa using hb2
      by_cases hcf : cf = 1
      ·subst hcf
       have hRR : R = (0,33):=by
        rw [hR.out]
        exact meth_flag hH0.out (by unfold flagsE; simp [hin]) (by decide)
       subst hRR
       clear hR HB3
       go_wp2
       go_ret2
       exact ⟨rfl,hor.out⟩
      ·have hcf1 : (cf == 1) = false:=by simpa using hcf
       have hRR : R = bodyE l ⟨4,nm,(ps,vo,td,tn),st,lo,code,hs⟩:=by
        rw [hR.out]
        exact meth_body hH0.out (by unfold flagsE; simp [hin,hcf])
       replace hRR:=hid hRR
       clear hR
       go_wp2_with fail
       refine HB3.out.mono ?_
       rintro e w4 ⟨rfl,o4⟩
       go_wp2_with fail
       go_ret2
       rw [hRR.out]
       exact ⟨rfl,hor.out.trans o4 (by simp)⟩

end Go.Proofs.YtildemmkhndhjaaGreatDoor
