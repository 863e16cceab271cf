/-
  What the proof leans on, part 40 of 48. The conditions stand in each theorem.
-/
import Derived.Test.YtildemmkhndhjaaGreatDoorB39
import Derived.Test.YtildemmkhndhjaaGreatDoorB27
import Derived.Test.YtildemmkhndhjaaGreatDoorB32
import Derived.Deep.DeepCutAuto
import Derived.Test.YtildemmkhndhjaaGreatDoorB17
import Derived.Test.YtildemmkhndhjaaGreatDoorB22
import Derived.Test.YtildemmkhndhjaaGreatDoorB14
import Derived.Test.YtildemmkhndhjaaGreatDoorB13
namespace Go.Proofs.YtildemmkhndhjaaGreatDoor
open Go.RowKit

theorem read_enc {m : Mo} (hn : ∀ e∈m.pool,-9223372036854775808≤e.2.2.1∧e.2.2.1≤9223372036854775807) (h : (writeM m).2.2.2.2 = 0) : (writeM m).1 = encM m∧readM (encM m) = (m,ok4)∧(encM m).length≤262144∧MoGood m:=by
 unfold writeM at h ⊢
 by_cases h1 : (checkM m).2.2.2 = 0
 ·rw [if_pos h1] at h ⊢
  by_cases h2 : 262144 < (encM m).length
  ·rw [if_pos h2] at h
   exact absurd h (by decide)
  ·rw [if_neg h2]
   have g:=mo_good h1 hn
   refine ⟨rfl,?_,by omega,g⟩
   have h3:=module_more g []
   rw [List.append_nil,if_pos rfl] at h3
   unfold readM
   rw [if_neg h2,h3]
   simp only
   rw [if_pos h1]
 ·rw [if_neg h1] at h
  exact absurd h h1

theorem good_kinds {w : World} {B : Nat} {P Z : Nat→Prop} {m : Mo} {vp vc : Value} (g : MoGood m) (h : MoAt (OwR w B P) vp vc m) (hZ : ∀ d,P d→B≤d→d < w.heap.size→Z d) : OX w Z 5000 90 6 vp∧RowC w Z 5000 vc:=by
 obtain ⟨hp,ccs,hc,hE⟩:=h.imp (owr_mono (Nat.zero_le B) hZ)
 refine ⟨⟨_,_,hp,by have:=g.manyP; omega⟩,rowC_of hc hE (by have:=g.manyC; omega) fun c hcm=>?_⟩
 have k:=g.classes c hcm
 refine ⟨by have:=k.manyF; omega,by have:=k.manyD; omega,k.manyM,fun x hx=>?_⟩
 have q:=k.methods x hx
 have q1:=(sigCheck_ok q.sig).1
 exact ⟨by omega,by have:=q.code; omega,by have:=q.many; omega⟩

theorem rows_made5 (w : World) (e : TypeId) (k : Nat) {b : Nat} (hb : b = w.heap.size) : (w.alloc (.cells #[] e)).ownsRow w.heap.size e k (.slice (some ⟨b,0,none⟩) 0 0) 0 []:=by
 subst hb
 exact World.ownsRow_made w #[] 0 (Nat.le_refl _) (by decide) (by simp)
/-- A module of one's own stands behind steps that leave its blocks alone. -/
theorem own_far {w w' : World} {B : Nat} {P : Nat→Prop} {S : List Nat} {m : Mo} {vp vc : Value} (h : MoAt (OwR w B P) vp vc m) (ho : Only S w w') (hS : ∀ d,P d→d ∉ S) : MoAt (OwR w' B P) vp vc m:=h.imp (owr_only ho hS)
theorem own_mark {w : World} {B : Nat} {m : Mo} {vp vc : Value} (h : MoAt (OwR w B fun _=>True) vp vc m) : MoAt (OwR w B fun d=>B≤d∧d < w.heap.size) vp vc m:=h.imp (owr_mono (Nat.le_refl B) fun _ _ h1 h2=>⟨h1,h2⟩)
theorem own_read {w : World} {B : Nat} {P : Nat→Prop} {m : Mo} {vp vc : Value} (h : MoAt (OwR w B P) vp vc m) : MoAt (SlR w P) vp vc m:=h.imp fun _ _ _ _ _ h=>owr_slice h
theorem own_shape {w : World} {B : Nat} {P : Nat→Prop} {m : Mo} {vp vc : Value} (h : MoAt (OwR w B P) vp vc m) : ∃ po pc co cc,vp = .slice po m.pool.length pc∧vc = .slice co m.classes.length cc:=by
 obtain ⟨h1,ccs,h2,_⟩:=h
 obtain ⟨po,pc,e1⟩:=rows_slice h1.1
 obtain ⟨co,cc,e2⟩:=rows_slice h2.1
 exact ⟨po,pc,co,cc,e1,e2⟩

/-- Bytes of one's own, one of them written over. -/
theorem byte_put {w : World} {B : Nat} {P : Nat→Prop} {ao : Option Addr} {n cap : Nat} {xs : List Value} (h : OwR w B P 5 1 (.slice ao n cap) n xs) {i : Nat} (hi : i < n) (u : Value) :
  ∃ g c,ao = some ⟨g,0,none⟩∧P g∧w.cell? ⟨g,i,none⟩ = some c∧w.frozen? ⟨g,i,none⟩ = false∧OwR (w.setCell ⟨g,i,none⟩ u) B P 5 1 (.slice ao n cap) n (xs.set i u):=by
 obtain ⟨g,hg,hP,_,hsp⟩:=own_spot ((owr_mono (Nat.zero_le B) (Q:=P) fun d hd _ _=>hd) _ _ _ _ _ h) hi
 obtain ⟨c,_,h1,h2⟩:=hsp 0 (by decide)
 rw [Nat.mul_one,Nat.add_zero] at h1 h2
 refine ⟨g,c,hg,hP,h1,h2,?_,h.2⟩
 subst hg
 rcases row_set h.1 g i u with ⟨_,k⟩ | ⟨k,_⟩
 ·exact k
 ·exact absurd rfl k


theorem tm_start {w w1 w2 : World} {m : Mo} {ccs : List Value} {vp vc : Value} {p1 p2 : Option Addr} {c1 c2 : Nat}
  (q1 : Only [] ((w.alloc (.cells #[vp,vc] 32)).alloc (.cells #[.slice none 0 0,.slice none 0 0] 32)) w1) (o2 : Only [] w1 w2)
  (r1 : w1.ownsRow (w.heap.size + 2) 90 6 (.slice p1 m.pool.length c1) m.pool.length (ecs m.pool)) (r2 : w2.ownsRow w1.heap.size 28 6 (.slice p2 m.classes.length c2) m.classes.length ccs) :
  TmI w m ccs p1 p2 c1 c2 0 ((w2.setCell ⟨w.heap.size,0,none⟩ (.slice p1 m.pool.length c1)).setCell ⟨w.heap.size,1,none⟩ (.slice p2 m.classes.length c2)) ccs:=by
 have hs : w.heap.size + 2≤w1.heap.size:=by have:=q1.size; simpa using this
 have B0:=((((mo2_new w vp vc 32).only ((Only.refl [] _).alloc (.cells #[.slice none 0 0,.slice none 0 0] 32)) (by simp)).only q1 (by simp)).only o2 (by simp)).put (.slice p1 m.pool.length c1) (.slice p2 m.classes.length c2)
 obtain ⟨B1,os⟩:=B0
 have C0:=mo2_new (w.alloc (.cells #[vp,vc] 32)) (.slice none 0 0) (.slice none 0 0) 32
 rw [World.size_alloc] at C0
 have C1:=((C0.only q1 (by simp)).only o2 (by simp)).only os (by simp)
 refine ⟨?_,fun i _ h=>by omega,rfl,?_,?_,B1,C1,fun a ha=>?_⟩
 ·refine rows_mono (rows_only r2 os fun b hb=>?_) (by omega)
  have:=(r2.lt b hb).1
  simp
  omega
 ·refine rows_mono (rows_only (rows_only r1 o2 (by simp)) os fun b hb=>?_) (by omega)
  have:=(r1.lt b hb).1
  simp
  omega
 ·exact (((((Only.refl [] w).alloc _).alloc _).trans q1 (by simp)).trans o2 (by simp)).next os (by simp)
 ·have:=(r2.lt a.block (by rw [ha]; rfl)).1
  omega

set_option maxHeartbeats 8000000 in
set_option maxRecDepth 100000 in
theorem twin_of (HT : ∀ (w : World) (P : Nat→Prop) (c : Cl),ClSm 1048576 c→∀ (vf vd vm : Value),ClAt (SlR w P) vf vd vm c→∀ (g off : Nat),Q3 w g (off + 3) (off + 4) (off + 5) vf vd vm→(∀ d,P d→d≠g) →
   Calls Tryz.prog 42 #[.pointer (some ⟨g,off,none⟩)] w fun r w'=>r = .returned (.tuple #[])∧∃ vf vd vm,ClAt (OwR w' w.heap.size fun _=>True) vf vd vm c∧Only [g] w w'∧w'.heap[g]? = (set3 w g (off + 3) (off + 4) (off + 5) vf vd vm).heap[g]?)
  {w : World} {P : Nat→Prop} (m : Mo) (hS : MoSm 1048576 m) {vp vc : Value} (hM : MoAt (SlR w P) vp vc m) :
  Calls Tryz.prog 16 #[.agg #[vp,vc]] w (TwPost w m):=by
 have hM2 : MoAt (SlR w (· < w.heap.size)) vp vc m:=hM.mono fun d _ h=>h
 clear hM
 obtain ⟨hP0,ccs,hC0,hEl⟩:=hM2
 have H1:=fun W (hW : Only [] w W)=>apart_Entry (SlV.only hP0 hW (by simp)) (Nat.le_trans hS.np (by decide)) (by rw [ecs_flat]; exact (els_flat enC (fun _=>rfl) m.pool).len) (one_ecs m.pool)
 have H2:=fun W (hW : Only [] w W)=>apart_Class (SlV.only hC0 hW (by simp)) (Nat.le_trans hS.nc (by decide)) hEl.len (els_one hEl (by decide) cl_one)
 obtain ⟨po,pc,rfl,lp⟩:=SlV.shape hP0
 obtain ⟨co,cc,rfl,lc⟩:=SlV.shape hC0
 clear hP0 hC0
 replace H1:=hid H1
 replace H2:=hid H2
 replace hEl:=hid hEl
 replace HT:=hid HT
 replace hS:=hid hS.classes
 have o0:=((Only.refl [] w).alloc (.cells #[.slice po m.pool.length pc,.slice co m.classes.length cc] 32)).alloc (.cells #[.slice none 0 0,.slice none 0 0] 32)
 have B0:=hid ((mo2_new w (.slice po m.pool.length pc) (.slice co m.classes.length cc) 32).only ((Only.refl [] _).alloc (.cells #[.slice none 0 0,.slice none 0 0] 32)) (by simp))
 go_enter Tryz.func16,Tryz.ntmps16
 go_upto_region 1 with fail
 go_cut [] (fun wx=>∃ p1 c1 p2 c2,Hid (TmI w m ccs p1 p2 c1 c2 0 wx ccs))
 case first=>
  obtain ⟨b0,b1,z0,z1⟩:=B0.out
  go_region_with (first
   | (go_at_call 40; refine (H1.out _ o0.drew).mono ?_; rintro e w1 ⟨p1,c1,rfl,r1,o1⟩; have q1 : Only [] ((w.alloc (.cells #[.slice po m.pool.length pc,.slice co m.classes.length cc] 32)).alloc (.cells #[.slice none 0 0,.slice none 0 0] 32)) w1:=(Only.refl [] _).drew.trans o1 (by simp); obtain ⟨b0,b1,z0,z1⟩:=B0.out.only q1 (by simp))
   | (go_at_call 41; refine (H2.out _ (o0.trans q1 (by simp))).mono ?_; rintro e w2 ⟨p2,c2,rfl,r2,o2⟩; obtain ⟨b0,b1,z0,z1⟩:=(B0.out.only q1 (by simp)).only o2 (by simp)))
  all_goals
   have fin:=hid (tm_start q1 o2 (by simpa using r1) r2)
   clear H1 H2 HT hEl hS r1 r2 o1 o2 q1 B0 o0 b0 b1 z0 z1
   go_wp2
   go_meet
   exact ⟨_,_,_,_,fin⟩
 case rest=>
  obtain ⟨p1,c1,p2,c2,I0⟩:=hcut
  clear H1 H2 B0 o0
  obtain ⟨b0,b1,_,_⟩:=I0.out.box
  go_wp2_with fail
  clear b0 b1
  go_loopw [15] (fun v wr=>∃ (k : Nat) (cs : List Value),k≤m.classes.length∧v = .int .i64 (k : Int)∧Hid (TmI w m ccs p1 p2 c1 c2 k wr cs)) (fun v _=>m.classes.length - (intOf v).toNat)
  case atStart=>exact ⟨0,ccs,by omega,rfl,I0⟩
  case round=>
   obtain ⟨k,cs,hk,rfl,hI⟩:=hrel
   clear I0
   obtain ⟨b0,b1,_,_⟩:=hI.out.box
   by_cases hlt : k < m.classes.length
   ·have g1 : ((k : Int) < (m.classes.length : Int)):=by omega
    obtain ⟨g,vf,vd,vm,rfl,hg1,hg2,hp,hat,hq⟩:=hI.out.head hEl.out hlt
    have hs:=hI.out.only.size
    have HC:=hid (HT.out wr (· < w.heap.size) m.classes[k] (hS.out _ (List.getElem_mem hlt)) vf vd vm (hat.only0 hI.out.only) g (k * 6) hq (fun d hd=>by omega))
    go_wp2_with fail
    refine HC.out.mono ?_
    rintro e w4 ⟨rfl,a,b,d,hCl,t1,t2⟩
    obtain ⟨cs',hn⟩:=hI.out.next hlt ⟨hg1,hg2⟩ hp hCl t1 t2
    replace hn:=hid hn
    clear HC hCl t1 t2 hI hp hat hq HT hEl hS
    go_wp2_with fail
    exact ⟨⟨k + 1,cs',by omega,by go_num,hn⟩,by simp [intOf]; omega⟩
   ·have g1 : ¬ ((k : Int) < (m.classes.length : Int)):=by omega
    obtain rfl : k = m.classes.length:=by omega
    have hT:=hid hI.out.res
    obtain ⟨y0,y1,u0,u1⟩:=hI.out.res
    go_wp2_with fail
    obtain ⟨T,oT⟩:=hT.out.put (.slice p1 m.pool.length c1) (.slice p2 m.classes.length c2)
    have hI2:=hI.out
    obtain ⟨d0,d1,_,_⟩:=T
    refine bodyPost_ret (v:=.agg #[.slice p1 m.pool.length c1,.slice p2 m.classes.length c2]) (by simp [results,Tryz.results16,go_sem,d0,d1]) rfl ?_
    have keep : ∀ e j v n xs,OwR wr (w.heap.size + 2) (fun _=>True) e j v n xs→OwR ((wr.setCell ⟨w.heap.size + 1,0,none⟩ (.slice p1 m.pool.length c1)).setCell ⟨w.heap.size + 1,1,none⟩ (.slice p2 m.classes.length c2)) w.heap.size (fun _=>True) e j v n xs:=fun e j v n xs h=>⟨rows_mono (rows_only h.1 oT fun b hb hx=>by
     have:=(h.1.lt b hb).1
     simp at hx
     omega) (by omega),fun _ _=>trivial⟩
    refine ⟨_,_,rfl,⟨keep _ _ _ _ _ ⟨hI2.pool,fun _ _=>trivial⟩,cs,keep _ _ _ _ _ ⟨hI2.row,fun _ _=>trivial⟩,hI2.row.1,fun i hi=>?_⟩,hI2.only.next oT (by simp)⟩
    exact (hI2.done i hi hi).imp fun _ _ _ _ _ h=>keep _ _ _ _ _ ⟨h.1,fun _ _=>trivial⟩


set_option maxHeartbeats 4000000 in
theorem rows_hd {w : World} {sb r d : Nat} {t : St} (h : Sc w sb r d t) (most : Nat) (hmost : most≤100000) :
  Calls Tryz.prog 177 #[.pointer (some ⟨sb,0,none⟩),.func (.func 80) #[.pointer (some ⟨r,0,none⟩)] #[],.int .i64 (most : Int),.func (.func 178) #[.pointer (some ⟨sb,0,none⟩)] #[]] w
   fun e w'=>∃ (xs : List Hd) (t' : St) (ao : Option Addr) (cap : Nat),e = .returned (.slice ao xs.length cap)∧w'.ownsRow w.heap.size 46 4 (.slice ao xs.length cap) xs.length (hcs xs)∧(∀ x∈xs,x.2.2.2.length≤262144)∧xs.length≤65536∧Sc w' sb r d t'∧Out (pRows 1 most pHand) t xs t'∧Only [sb,r] w w':=by
 have c0:=h.c0
 have hl:=hid h.lt
 have HA:=hid (sc_at h)
 have HU:=hid (sc_u1 h)
 clear h
 go_enter Tryz.func177,Tryz.ntmps177
 go_wp2_with fail
 refine HA.out.mono ?_
 rintro e w1 ⟨at_,rfl,hat,rfl⟩
 go_wp2_with fail
 refine HU.out.mono ?_
 rintro e w1 ⟨n,t0,rfl,hn,h0,hO,ho1⟩
 clear HA HU c0
 have o1 : Hid (Only [sb,r] w w1):=ho1.mono (by simp)
 replace hat:=hid hat
 replace hO:=hid hO
 by_cases hm : most < n
 ·have gm : (most : Int) < (n : Int):=by omega
  have HR:=hid (refuse_src h0 (at_ : Int) 4 (by decide))
  go_wp2_with fail
  refine HR.out.mono ?_
  rintro e w2 ⟨rfl,hS2,ho2⟩
  clear HR
  have hSt:=hid hS2
  have oSt:=hid (o1.out.trans ho2 (by simp))
  clear hS2 ho2 ho1 h0
  go_wp2_with fail
  go_loopw [11] (fun l wr=>∃ (xs : List Hd) (t1 : St) (ao : Option Addr) (cap : Nat),l = .slice ao xs.length cap∧xs.length≤n∧Hid (wr.ownsRow w.heap.size 46 4 (.slice ao xs.length cap) xs.length (hcs xs))∧Hid (xs = []→ao = none)∧Hid (∀ x∈xs,x.2.2.2.length≤262144)∧Hid (Sc wr sb r d t1)∧Hid ((most < n∧t1 = tRefuse (at_ : Int) 4 t0∧xs = [])∨(¬ most < n∧Far pHand n t0 xs t1))∧Hid (Only [sb,r] w wr)) (fun l _=>n - sliceLen l)
  case atStart=>exact ⟨[],_,none,0,rfl,by simp,World.ownsRow_nil _ _ _ _,hid (fun _=>rfl),hid (by simp),hSt,hid (.inl ⟨hm,rfl,rfl⟩),oSt⟩
  case round=>
   obtain ⟨xs,t1,ao,cap,rfl,hxn,hown,hnil,hlen,hS,hF,hO1⟩:=hrel
   clear hSt oSt
   have HFi:=hid (fine_src hS.out)
   by_cases hlt : xs.length < n
   ·have g1 : ((xs.length : Int) < (n : Int)):=by omega
    cases hfi : isFine t1 with
    | true=>
     rw [hfi] at HFi
     have hFar : Hid (¬ most < n∧Far pHand n t0 xs t1):=by
      rcases hF.out with ⟨_,h2,_⟩ | h2
      ·rw [h2] at hfi
       cases t0 <;> cases hfi
      ·exact h2
     have HR:=hid (rhandler_any hS.out)
     unfold hdV at HR
     have c0:=hS.out.c0
     go_wp2_with fail
     refine HFi.out.mono ?_
     rintro e w2 ⟨rfl,rfl⟩
     go_wp2_with fail
     refine HR.out.mono ?_
     rintro e w2 ⟨x,t2,rfl,hxl,hS2,hOx,ho2⟩
     clear HR c0
     have hl1:=hl.out
     have hown2:=rows_only hown.out (ho2.alloc (.cells #[.int .i64 x.1,.int .i64 x.2.1,.int .i64 x.2.2.1,.string (str x.2.2.2)] 46)) (fun g hg=>by have:=(hown.out.lt g hg).1; simp; omega)
     have o2:=hid ((hO1.out.trans ho2 (by simp)).alloc (.cells #[.int .i64 x.1,.int .i64 x.2.1,.int .i64 x.2.2.1,.string (str x.2.2.2)] 46))
     have hR:=RS.fresh w2 #[.int .i64 x.1,.int .i64 x.2.1,.int .i64 x.2.2.1,.string (str x.2.2.2)] 46
     have hS3:=hid (hS2.only0 ((Only.refl [] w2).alloc (.cells #[.int .i64 x.1,.int .i64 x.2.1,.int .i64 x.2.2.1,.string (str x.2.2.2)] 46)))
     have hOw:=hid hown2
     go_wp2_with (at_builtin; refine wpList_append_any (ys:=hcs [x]) rfl (.tmp 33) (.tmp 36) elHd Tryz.underlying39 rfl rfl rfl hown2 hR rfl (by simp [hcs,hdC,Value.oneCell']) (by simp) (by omega) (by have:=o2.out.size; omega) ?_; rintro ao3 cap3 w3 hA3)
     have hfin : Hid (Sc w3 sb r d t2):=by
      cases xs with
      | nil=>
       have hno:=hnil.out rfl
       subst hno
       exact hS3.out.only0 hA3.only
      | cons y ys=>exact hS3.out.row hOw.out hA3 (by omega) (u:=.string (str y.2.2.2)) (by simp) (fun _=>.inr (.inr rfl))
     have o3:=hid (o2.out.next hA3.only (fun z hz=>by
      cases ao with
      | none=>simp [Value.ownBlock] at hz
      | some a=>
       simp [Value.ownBlock] at hz
       subst hz
       exact (hOw.out.lt a.block rfl).1))
     have hown3:=hA3.own
     have ee : hcs xs ++ hcs [x] = hcs (xs ++ [x]):=by simp [hcs]
     rw [ee] at hown3
     have hnone:=hA3.none
     go_wp2_with fail
     refine ⟨⟨xs ++ [x],t2,ao3,cap3,by simp,by simp; omega,by simpa [Hid] using hown3,hid (by simp),hid (by
      intro y hy
      rcases List.mem_append.1 hy with hy | hy
      ·exact hlen.out y hy
      ·rw [List.mem_singleton.1 hy]; exact hxl),hfin,hid (.inr ⟨hFar.out.1,far_step hFar.out.2 hfi hOx hlt⟩),o3⟩,by simp [sliceLen]; omega⟩
    | false=>
     rw [hfi] at HFi
     go_wp2_with fail
     refine HFi.out.mono ?_
     rintro e w2 ⟨rfl,rfl⟩
     go_wp2_with fail
     go_ret
     refine ⟨xs,t1,ao,cap,rfl,hown.out,(by first | exact hlen.out | (intros; exact hlen.out _ (by assumption))),by omega,hS.out,out_rows hO.out hat.out ?_,hO1.out⟩
     rcases hF.out with ⟨h1,h2,_⟩ | ⟨h1,h2⟩
     ·exact .inl ⟨h1,h2⟩
     ·exact .inr ⟨h1,h2,fun hf=>by rw [hfi] at hf; cases hf⟩
   ·have g1 : ¬ ((xs.length : Int) < (n : Int)):=by omega
    go_wp2_with fail
    go_ret
    refine ⟨xs,t1,ao,cap,rfl,hown.out,(by first | exact hlen.out | (intros; exact hlen.out _ (by assumption))),by omega,hS.out,out_rows hO.out hat.out ?_,hO1.out⟩
    rcases hF.out with ⟨h1,h2,_⟩ | ⟨h1,h2⟩
    ·exact .inl ⟨h1,h2⟩
    ·exact .inr ⟨h1,h2,fun _=>by omega⟩
 ·have gm : ¬ (most : Int) < (n : Int):=by omega
  have hSt:=hid h0
  have oSt:=o1
  clear ho1 h0
  go_wp2_with fail
  go_loopw [11] (fun l wr=>∃ (xs : List Hd) (t1 : St) (ao : Option Addr) (cap : Nat),l = .slice ao xs.length cap∧xs.length≤n∧Hid (wr.ownsRow w.heap.size 46 4 (.slice ao xs.length cap) xs.length (hcs xs))∧Hid (xs = []→ao = none)∧Hid (∀ x∈xs,x.2.2.2.length≤262144)∧Hid (Sc wr sb r d t1)∧Hid ((most < n∧t1 = tRefuse (at_ : Int) 4 t0∧xs = [])∨(¬ most < n∧Far pHand n t0 xs t1))∧Hid (Only [sb,r] w wr)) (fun l _=>n - sliceLen l)
  case atStart=>exact ⟨[],_,none,0,rfl,by simp,World.ownsRow_nil _ _ _ _,hid (fun _=>rfl),hid (by simp),hSt,hid (.inr ⟨hm,far_start _ _ _⟩),oSt⟩
  case round=>
   obtain ⟨xs,t1,ao,cap,rfl,hxn,hown,hnil,hlen,hS,hF,hO1⟩:=hrel
   clear hSt oSt
   have HFi:=hid (fine_src hS.out)
   by_cases hlt : xs.length < n
   ·have g1 : ((xs.length : Int) < (n : Int)):=by omega
    cases hfi : isFine t1 with
    | true=>
     rw [hfi] at HFi
     have hFar : Hid (¬ most < n∧Far pHand n t0 xs t1):=by
      rcases hF.out with ⟨_,h2,_⟩ | h2
      ·rw [h2] at hfi
       cases t0 <;> cases hfi
      ·exact h2
     have HR:=hid (rhandler_any hS.out)
     unfold hdV at HR
     have c0:=hS.out.c0
     go_wp2_with fail
     refine HFi.out.mono ?_
     rintro e w2 ⟨rfl,rfl⟩
     go_wp2_with fail
     refine HR.out.mono ?_
     rintro e w2 ⟨x,t2,rfl,hxl,hS2,hOx,ho2⟩
     clear HR c0
     have hl1:=hl.out
     have hown2:=rows_only hown.out (ho2.alloc (.cells #[.int .i64 x.1,.int .i64 x.2.1,.int .i64 x.2.2.1,.string (str x.2.2.2)] 46)) (fun g hg=>by have:=(hown.out.lt g hg).1; simp; omega)
     have o2:=hid ((hO1.out.trans ho2 (by simp)).alloc (.cells #[.int .i64 x.1,.int .i64 x.2.1,.int .i64 x.2.2.1,.string (str x.2.2.2)] 46))
     have hR:=RS.fresh w2 #[.int .i64 x.1,.int .i64 x.2.1,.int .i64 x.2.2.1,.string (str x.2.2.2)] 46
     have hS3:=hid (hS2.only0 ((Only.refl [] w2).alloc (.cells #[.int .i64 x.1,.int .i64 x.2.1,.int .i64 x.2.2.1,.string (str x.2.2.2)] 46)))
     have hOw:=hid hown2
     go_wp2_with (at_builtin; refine wpList_append_any (ys:=hcs [x]) rfl (.tmp 33) (.tmp 36) elHd Tryz.underlying39 rfl rfl rfl hown2 hR rfl (by simp [hcs,hdC,Value.oneCell']) (by simp) (by omega) (by have:=o2.out.size; omega) ?_; rintro ao3 cap3 w3 hA3)
     have hfin : Hid (Sc w3 sb r d t2):=by
      cases xs with
      | nil=>
       have hno:=hnil.out rfl
       subst hno
       exact hS3.out.only0 hA3.only
      | cons y ys=>exact hS3.out.row hOw.out hA3 (by omega) (u:=.string (str y.2.2.2)) (by simp) (fun _=>.inr (.inr rfl))
     have o3:=hid (o2.out.next hA3.only (fun z hz=>by
      cases ao with
      | none=>simp [Value.ownBlock] at hz
      | some a=>
       simp [Value.ownBlock] at hz
       subst hz
       exact (hOw.out.lt a.block rfl).1))
     have hown3:=hA3.own
     have ee : hcs xs ++ hcs [x] = hcs (xs ++ [x]):=by simp [hcs]
     rw [ee] at hown3
     have hnone:=hA3.none
     go_wp2_with fail
     refine ⟨⟨xs ++ [x],t2,ao3,cap3,by simp,by simp; omega,by simpa [Hid] using hown3,hid (by simp),hid (by
      intro y hy
      rcases List.mem_append.1 hy with hy | hy
      ·exact hlen.out y hy
      ·rw [List.mem_singleton.1 hy]; exact hxl),hfin,hid (.inr ⟨hFar.out.1,far_step hFar.out.2 hfi hOx hlt⟩),o3⟩,by simp [sliceLen]; omega⟩
    | false=>
     rw [hfi] at HFi
     go_wp2_with fail
     refine HFi.out.mono ?_
     rintro e w2 ⟨rfl,rfl⟩
     go_wp2_with fail
     go_ret
     refine ⟨xs,t1,ao,cap,rfl,hown.out,(by first | exact hlen.out | (intros; exact hlen.out _ (by assumption))),by omega,hS.out,out_rows hO.out hat.out ?_,hO1.out⟩
     rcases hF.out with ⟨h1,h2,_⟩ | ⟨h1,h2⟩
     ·exact .inl ⟨h1,h2⟩
     ·exact .inr ⟨h1,h2,fun hf=>by rw [hfi] at hf; cases hf⟩
   ·have g1 : ¬ ((xs.length : Int) < (n : Int)):=by omega
    go_wp2_with fail
    go_ret
    refine ⟨xs,t1,ao,cap,rfl,hown.out,(by first | exact hlen.out | (intros; exact hlen.out _ (by assumption))),by omega,hS.out,out_rows hO.out hat.out ?_,hO1.out⟩
    rcases hF.out with ⟨h1,h2,_⟩ | ⟨h1,h2⟩
    ·exact .inl ⟨h1,h2⟩
    ·exact .inr ⟨h1,h2,fun _=>by omega⟩


/-- A new block of a method, with nothing in it yet. -/
def Mn (w : World) (b B sb r d : Nat) : Prop:=Me10 w b (.int .i64 0) (.string ⟨#[]⟩) (.slice none 0 0) (.bool false) (.int .i64 0) (.string ⟨#[]⟩) (.int .i64 0) (.int .i64 0) (.slice none 0 0) (.slice none 0 0)∧B≤b∧b≠sb∧b≠r∧b≠d

theorem Sc.al {w : World} {sb r d : Nat} {t : St} (h : Sc w sb r d t) (o : Obj) : Sc (w.alloc o) sb r d t:=h.only0 ((Only.refl [] w).alloc o)

theorem Mn.call {z z' : World} {b B sb r d : Nat} {X : List Nat} (h : Mn z b B sb r d) (hX : Only X z z') (hx : ∀ x∈X,x = sb∨x = r) : Mn z' b B sb r d:=
 ⟨h.1.only hX (fun hm=>(hx b hm).elim h.2.2.1 h.2.2.2.1),h.2⟩

theorem Mn.newC {W z z' : World} {sb r d : Nat} {t : St} {X : List Nat} (h : Sc z sb r d t) (hS : Only [sb,r] W z) (hX : Only X (z.alloc (.cells #[.int .i64 0,.string ⟨#[]⟩,.slice none 0 0,.bool false,.int .i64 0,.string ⟨#[]⟩,.int .i64 0,.int .i64 0,.slice none 0 0,.slice none 0 0] 41)) z') (hx : ∀ x∈X,x = sb∨x = r) : Mn z' z.heap.size W.heap.size sb r d∧z.heap.size < (z.alloc (.cells #[.int .i64 0,.string ⟨#[]⟩,.slice none 0 0,.bool false,.int .i64 0,.string ⟨#[]⟩,.int .i64 0,.int .i64 0,.slice none 0 0,.slice none 0 0] 41)).heap.size:=by
 have:=h.lt
 exact ⟨Mn.call ⟨me10_new _ _ _ _ _ _ _ _ _ _ _ _,hS.size,by omega,by omega,by omega⟩ hX hx,by simp⟩

theorem Mn.newD {W z' : World} {sb r d : Nat} {t : St} {X : List Nat} (h : Sc W sb r d t) (hX : Only X (W.alloc (.cells #[.int .i64 0,.string ⟨#[]⟩,.slice none 0 0,.bool false,.int .i64 0,.string ⟨#[]⟩,.int .i64 0,.int .i64 0,.slice none 0 0,.slice none 0 0] 41)).drew z') (hx : ∀ x∈X,x = sb∨x = r) : Mn z' W.heap.size W.heap.size sb r d∧W.heap.size < (W.alloc (.cells #[.int .i64 0,.string ⟨#[]⟩,.slice none 0 0,.bool false,.int .i64 0,.string ⟨#[]⟩,.int .i64 0,.int .i64 0,.slice none 0 0,.slice none 0 0] 41)).drew.heap.size:=by
 have:=h.lt
 have h0 : Mn (W.alloc (.cells #[.int .i64 0,.string ⟨#[]⟩,.slice none 0 0,.bool false,.int .i64 0,.string ⟨#[]⟩,.int .i64 0,.int .i64 0,.slice none 0 0,.slice none 0 0] 41)) W.heap.size W.heap.size sb r d:=⟨me10_new _ _ _ _ _ _ _ _ _ _ _ _,Nat.le_refl _,by omega,by omega,by omega⟩
 exact ⟨Mn.call (Mn.call (X:=[]) h0 ((Only.refl [] _).drew) (by simp)) hX hx,by simp⟩

theorem Mn.callC {z z' : World} {b B sb r d : Nat} {X : List Nat} (h : Mn z b B sb r d) (hX : Only X z z') (hx : ∀ x∈X,x = sb∨x = r) : Mn z' b B sb r d∧b < z.heap.size:=⟨h.call hX hx,World.block_lt_of_cell? z _ h.1.c0⟩

theorem kcall0 {W z z' : World} {sb r d : Nat} {t : St} {X : List Nat} (h : z.cell? ⟨sb,0,none⟩ = some (.pointer (some ⟨r,0,none⟩))∧Only [sb,r] W z) (hs : Sc z' sb r d t) (hX : Only X z z') (hx : ∀ x∈X,x = sb∨x = r) : z'.cell? ⟨sb,0,none⟩ = some (.pointer (some ⟨r,0,none⟩))∧Only [sb,r] W z':=
 ⟨hs.c0,h.2.trans hX (fun x hm=>by rcases hx x hm with h | h <;> simp [h])⟩
theorem kdrew0 {W z : World} {sb r : Nat} (h : z.cell? ⟨sb,0,none⟩ = some (.pointer (some ⟨r,0,none⟩))∧Only [sb,r] W z) : z.drew.cell? ⟨sb,0,none⟩ = some (.pointer (some ⟨r,0,none⟩))∧Only [sb,r] W z.drew:=⟨h.1,h.2.drew⟩
theorem kalloc0 {W z : World} {sb r : Nat} (o : Obj) (h : z.cell? ⟨sb,0,none⟩ = some (.pointer (some ⟨r,0,none⟩))∧Only [sb,r] W z) : (z.alloc o).cell? ⟨sb,0,none⟩ = some (.pointer (some ⟨r,0,none⟩))∧Only [sb,r] W (z.alloc o):=⟨cell_alloc o h.1,h.2.alloc o⟩
theorem kz {W z z' : World} {sb r : Nat} {X : List Nat} (h : z.cell? ⟨sb,0,none⟩ = some (.pointer (some ⟨r,0,none⟩))∧Only [sb,r] W z) (_ : Only X z z') : W.heap.size≤z.heap.size:=h.2.size
theorem kput0 {W z : World} {sb r b : Nat} (hb : W.heap.size≤b) (hn : b≠sb) (i : Nat) (u : Value) (h : z.cell? ⟨sb,0,none⟩ = some (.pointer (some ⟨r,0,none⟩))∧Only [sb,r] W z) : (z.setCell ⟨b,i,none⟩ u).cell? ⟨sb,0,none⟩ = some (.pointer (some ⟨r,0,none⟩))∧Only [sb,r] W (z.setCell ⟨b,i,none⟩ u):=⟨(cell_setCell_ne _ _ (by simp)).trans h.1,h.2.setCell (.inr hb) _⟩

/-- What the method's first three parts leave: the local variable's block. -/
def Mcut (W : World) (sb r d : Nat) (t : St) (s3 : Value) (wx : World) : Prop:=
 ∃ (lb n : Nat) (x : List UInt8) (y : Sg) (t3 : St) (ao : Option Addr) (cap : Nat),s3 = .pointer (some ⟨lb,0,none⟩)∧n < 256∧x.length≤262144∧SgShort y∧Own wx W.heap.size (.slice ao y.1.length cap) y.1∧(∀ k,(Value.slice ao y.1.length cap).ownBlock = some k→k≠lb)∧Sc wx sb r d t3∧Only [sb,r] W wx∧Me10 wx lb (.int .i64 (n : Int)) (.string (str x)) (.slice ao y.1.length cap) (.bool y.2.1) (.int .i64 y.2.2.1) (.string (str y.2.2.2)) (.int .i64 0) (.int .i64 0) (.slice none 0 0) (.slice none 0 0)∧W.heap.size≤lb∧lb≠sb∧lb≠r∧lb≠d∧∃ t1 t2,Out (pU 1) t n t1∧Out pText t1 x t2∧Out (pSpell sigR) t2 y t3

theorem Mcut.old {W w1 z : World} {sb r d b n cap : Nat} {t t1 t2 t3 : St} {x : List UInt8} {y : Sg} {ao : Option Addr} (hn : n < 256) (hx : x.length≤262144) (hy : SgShort y) (hown : Own w1 z.heap.size (.slice ao y.1.length cap) y.1) (hs : Sc w1 sb r d t3) (hO1 : Out (pU 1) t n t1) (hO2 : Out pText t1 x t2) (hO3 : Out (pSpell sigR) t2 y t3) (ho : Only [sb,r] W w1) (hz : W.heap.size≤z.heap.size) (hM : Mn w1 b W.heap.size sb r d) (hl : b < z.heap.size) :
  Mcut W sb r d t (.pointer (some ⟨b,0,none⟩)) ((((((((((w1.setCell ⟨b,0,none⟩ (.int .i64 (n : Int))).setCell ⟨b,1,none⟩ (.string (str x))).setCell ⟨b,2,none⟩ (.slice ao y.1.length cap)).setCell ⟨b,3,none⟩ (.bool y.2.1)).setCell ⟨b,4,none⟩ (.int .i64 y.2.2.1)).setCell ⟨b,5,none⟩ (.string (str y.2.2.2))).setCell ⟨b,6,none⟩ (.int .i64 0)).setCell ⟨b,7,none⟩ (.int .i64 0)).setCell ⟨b,8,none⟩ (.slice none 0 0)).setCell ⟨b,9,none⟩ (.slice none 0 0)):=by
 obtain ⟨hm,hB,n1,n2,n3⟩:=hM
 obtain ⟨p,q⟩:=hm.put (.int .i64 (n : Int)) (.string (str x)) (.slice ao y.1.length cap) (.bool y.2.1) (.int .i64 y.2.2.1) (.string (str y.2.2.2)) (.int .i64 0) (.int .i64 0) (.slice none 0 0) (.slice none 0 0)
 refine ⟨b,n,x,y,t3,ao,cap,rfl,hn,hx,hy,own_mono (own_only hown q (fun k hk=>?_)) hz,fun k hk=>?_,hs.other (by simp) (.inr (.inl hm.c1)) ⟨n1,n2,n3⟩ q,ho.next q (by simp; omega),p,hB,n1,n2,n3,t1,t2,hO1,hO2,hO3⟩
 ·have:=(hown.lt k hk).1
  simp
  omega
 ·have:=(hown.lt k hk).1
  omega

theorem Mcut.fresh {W w1 z : World} {sb r d n cap : Nat} {t t1 t2 t3 : St} {x : List UInt8} {y : Sg} {ao : Option Addr} (hn : n < 256) (hx : x.length≤262144) (hy : SgShort y) (hown : Own w1 z.heap.size (.slice ao y.1.length cap) y.1) (hs : Sc w1 sb r d t3) (hO1 : Out (pU 1) t n t1) (hO2 : Out pText t1 x t2) (hO3 : Out (pSpell sigR) t2 y t3) (ho : Only [sb,r] W w1) (hz : W.heap.size≤z.heap.size) :
  Mcut W sb r d t (.pointer (some ⟨w1.heap.size,0,none⟩)) (w1.alloc (.cells #[.int .i64 (n : Int),.string (str x),.slice ao y.1.length cap,.bool y.2.1,.int .i64 y.2.2.1,.string (str y.2.2.2),.int .i64 0,.int .i64 0,.slice none 0 0,.slice none 0 0] 41)):=by
 have hl:=hs.lt
 have q:=(Only.refl [] w1).alloc (.cells #[.int .i64 (n : Int),.string (str x),.slice ao y.1.length cap,.bool y.2.1,.int .i64 y.2.2.1,.string (str y.2.2.2),.int .i64 0,.int .i64 0,.slice none 0 0,.slice none 0 0] 41)
 refine ⟨w1.heap.size,n,x,y,t3,ao,cap,rfl,hn,hx,hy,own_mono (own_only hown q (by simp)) hz,fun k hk=>?_,hs.only0 q,ho.alloc _,me10_new _ _ _ _ _ _ _ _ _ _ _ _,ho.size,by omega,by omega,by omega,t1,t2,hO1,hO2,hO3⟩
 have:=(hown.lt k hk).2
 omega

theorem MeAt.own {w w' : World} {B : Nat} {S : List Nat} {vp vc vh : Value} {m : Me} (h : MeAt (OwR w B fun _=>True) vp vc vh m) (ho : Only S w w') (hS : ∀ k∈S,k < B) : MeAt (OwR w' B fun _=>True) vp vc vh m:=
 h.imp fun _ _ _ _ _ g=>⟨rows_only g.1 ho (fun k hk hm=>by
  have:=(g.1.lt k hk).1
  have:=hS k hm
  omega),fun _ _=>trivial⟩

/-- What region 3 leaves. -/
def Mreg3 (wc : World) (sb r d lb : Nat) (t3 : St) (v0 v1 v2 v3 v4 v5 v8 v9 : Value) (wx : World) : Prop:=
 ∃ (a b : Nat) (t5 t4 : St),Me10 wx lb v0 v1 v2 v3 v4 v5 (.int .i64 (a : Int)) (.int .i64 (b : Int)) v8 v9∧Only [r,lb] wc wx∧Sc wx sb r d t4∧Out (pU 1) t3 a t5∧Out (pU 1) t5 b t4

theorem mreg3 {wc wa w1 : World} {sb r d lb a b : Nat} {t3 t4 t5 : St} {v0 v1 v2 v3 v4 v5 v6 v7 v8 v9 : Value} (hL : Me10 wc lb v0 v1 v2 v3 v4 v5 v6 v7 v8 v9) (hu : ∀ x,v1≠.int .i64 x) (h1 : Out (pU 1) t3 a t5) (o1 : Only [r] wc.drew wa) (h2 : Out (pU 1) t5 b t4) (o2 : Only [r] wa w1) (hs : Sc w1 sb r d t4) (hn : lb≠sb∧lb≠r∧lb≠d) :
  Mreg3 wc sb r d lb t3 v0 v1 v2 v3 v4 v5 v8 v9 ((w1.setCell ⟨lb,6,none⟩ (.int .i64 (a : Int))).setCell ⟨lb,7,none⟩ (.int .i64 (b : Int))):=by
 have oc : Only [r] wc w1:=((Only.refl [r] wc).drew.trans o1 (by simp)).trans o2 (by simp)
 have hL1:=hL.only oc (by simp [hn.2.1])
 have oS : Only [lb] w1 ((w1.setCell ⟨lb,6,none⟩ (.int .i64 (a : Int))).setCell ⟨lb,7,none⟩ (.int .i64 (b : Int))):=((Only.refl [lb] w1).setCell (.inl (by simp)) _).setCell (.inl (by simp)) _
 exact ⟨a,b,t5,t4,(hL1.put6 _).put7 _,(oc.mono (S':=[r,lb]) (by simp)).trans oS (by simp),hs.other hu (.inr (.inl hL1.c1)) hn oS,h1,h2⟩

/-- What region 4 leaves. -/
def Mreg4 (W wc : World) (sb r d lb : Nat) (t4 : St) (v0 v1 v2 v3 v4 v5 v6 v7 v9 : Value) (wx : World) : Prop:=
 ∃ (n : Nat) (x : List UInt8) (t5 t6 : St) (ao : Option Addr) (cap : Nat),Me10 wx lb v0 v1 v2 v3 v4 v5 v6 v7 (.slice ao x.length cap) v9∧Only [r,lb] wc wx∧Sc wx sb r d t6∧Out (pU 2) t4 n t5∧Out (pTake n) t5 x t6∧OwR wx W.heap.size (fun g=>g≠lb) 5 1 (.slice ao x.length cap) x.length (bcs x)

theorem mreg4 {W wc wa w1 : World} {sb r d lb n cap : Nat} {x : List UInt8} {ao : Option Addr} {t4 t5 t6 : St} {v0 v1 v2 v3 v4 v5 v6 v7 v8 v9 : Value} (hL : Me10 wc lb v0 v1 v2 v3 v4 v5 v6 v7 v8 v9) (hu : ∀ x,v1≠.int .i64 x) (hW : W.heap.size≤wc.heap.size) (h1 : Out (pU 2) t4 n t5) (o1 : Only [r] wc.drew wa) (h2 : Out (pTake n) t5 x t6) (hown : w1.ownsRow wa.heap.size 5 1 (.slice ao x.length cap) x.length (bcs x)) (o2 : Only [r] wa w1) (hs : Sc w1 sb r d t6) (hn : lb≠sb∧lb≠r∧lb≠d) :
  Mreg4 W wc sb r d lb t4 v0 v1 v2 v3 v4 v5 v6 v7 v9 (w1.setCell ⟨lb,8,none⟩ (.slice ao x.length cap)):=by
 have oc : Only [r] wc w1:=((Only.refl [r] wc).drew.trans o1 (by simp)).trans o2 (by simp)
 have hL1:=hL.only oc (by simp [hn.2.1])
 have hl : lb < wc.heap.size:=World.block_lt_of_cell? wc _ hL.c0
 have hsz : wc.heap.size≤wa.heap.size:=((Only.refl [r] wc).drew.trans o1 (by simp)).size
 have oS : Only [lb] w1 (w1.setCell ⟨lb,8,none⟩ (.slice ao x.length cap)):=(Only.refl [lb] w1).setCell (.inl (by simp)) _
 have hne : ∀ k,(Value.slice ao x.length cap).ownBlock = some k→k≠lb:=fun k hk=>by
  have:=(hown.lt k hk).1
  omega
 exact ⟨n,x,t5,t6,ao,cap,hL1.put8 _,(oc.mono (S':=[r,lb]) (by simp)).trans oS (by simp),hs.other hu (.inr (.inl hL1.c1)) hn oS,h1,h2,rows_mono (rows_only hown oS (fun k hk=>by simp [hne k hk])) (by omega),hne⟩

end Go.Proofs.YtildemmkhndhjaaGreatDoor
