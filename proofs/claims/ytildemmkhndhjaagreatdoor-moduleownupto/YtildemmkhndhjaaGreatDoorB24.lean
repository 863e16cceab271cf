/-
  What the proof leans on, part 24 of 48. The conditions stand in each theorem.
-/
import Derived.Test.YtildemmkhndhjaaGreatDoorB23
import Derived.Deep.DeepCutAuto
namespace Go.Proofs.YtildemmkhndhjaaGreatDoor
open Go.RowKit

/-- What twinClass did to a class's cells at block g, from off on. -/
def TcPost (w : World) (g off : Nat) (c : Cl) (r : Ending) (w' : World) : Prop:=
 r = .returned (.tuple #[])∧∃ vf vd vm,ClAt (OwR w' w.heap.size fun _=>True) vf vd vm c∧Only [g] w w'∧w'.heap[g]? = (set3 w g (off + 3) (off + 4) (off + 5) vf vd vm).heap[g]?

set_option maxHeartbeats 8000000 in
set_option maxRecDepth 100000 in
theorem twinClass_any {w : World} {P : Nat→Prop} (c : Cl) (hS : ClSm 1048576 c) {vf vd vm : Value} (hC : ClAt (SlR w P) vf vd vm c) {g off : Nat}
  (hQ : Q3 w g (off + 3) (off + 4) (off + 5) vf vd vm) (hPg : ∀ d,P d→d≠g) :
  Calls Tryz.prog 42 #[.pointer (some ⟨g,off,none⟩)] w (TcPost w g off c):=by
 have hgl:=World.block_lt_of_cell? w _ hQ.a
 obtain ⟨hC1,hC2,mcs,hC3,hEl⟩:=hC
 have H1:=fun W (hW : Only [] w W)=>apart_Str (SlV.only hC1 hW (by simp)) (Nat.le_trans hS.nf (by decide)) (len_scs _) (one_scs _)
 have H2:=fun W (hW : Only [] w W)=>apart_Field (SlV.only hC2 hW (by simp)) (Nat.le_trans hS.nd (by decide)) (len_fcs _) (one_fcs _)
 have H3:=fun W (hW : Only [] w W)=>apart_Method (SlV.only hC3 hW (by simp)) (Nat.le_trans hS.nm (by decide)) hEl.len (els_one hEl (by decide) me_one)
 obtain ⟨fo,fc,rfl,lf⟩:=SlV.shape hC1
 obtain ⟨do_,dc,rfl,ld⟩:=SlV.shape hC2
 obtain ⟨mo,mc,rfl,lm⟩:=SlV.shape hC3
 clear hC1 hC2 hC3
 replace H1:=hid H1
 replace H2:=hid H2
 replace H3:=hid H3
 replace hEl:=hid hEl
 have hQh:=hid hQ
 obtain ⟨e3,e4,e5,f3,f4,f5⟩:=hQ
 go_enter Tryz.func42,Tryz.ntmps42
 go_upto_region 0 with fail
 go_cut [] (fun wx=>∃ v1 v2 v3,Hid (Only [g] w wx)∧Hid (wx.heap[g]? = (set3 w g (off + 3) (off + 4) (off + 5) v1 v2 v3).heap[g]?)∧Hid (wx.ownsRow w.heap.size 9 1 v1 c.faces.length (scs c.faces))∧Hid (wx.ownsRow w.heap.size 44 4 v2 c.fields.length (fcs c.fields))∧Hid (wx.ownsRow w.heap.size 41 10 v3 c.methods.length mcs))
 case first=>
  go_region_with (first
   | (go_at_call 100; refine (H1.out _ (Only.refl [] _).drew).mono ?_; rintro e w1 ⟨p1,c1,rfl,r1,o1⟩; have q1 : Only [] w w1:=(Only.refl [] _).drew.trans o1 (by simp); obtain ⟨a3,a4,a5,b3,b4,b5⟩:=hQh.out.only0 q1)
   | (go_at_call 101; refine (H2.out _ q1).mono ?_; rintro e w2 ⟨p2,c2,rfl,r2,o2⟩; have q2 : Only [] w w2:=q1.trans o2 (by simp); obtain ⟨a3,a4,a5,b3,b4,b5⟩:=hQh.out.only0 q2)
   | (go_at_call 102; refine (H3.out _ q2).mono ?_; rintro e w3 ⟨p3,c3,rfl,r3,o3⟩; have q3 : Only [] w w3:=q2.trans o3 (by simp); obtain ⟨a3,a4,a5,b3,b4,b5⟩:=hQh.out.only0 q3))
  all_goals
   obtain ⟨t1,t2,t3,t4,t5⟩:=tw_meet (i:=off + 3) (j:=off + 4) (l:=off + 5) hgl q1 o2 o3 r1 r2 r3 (Nat.le_refl _) q1.size q2.size
   have fin:=hid (And.intro t1 (And.intro t2 (And.intro t3 (And.intro (rows_mono t4 q1.size) (rows_mono t5 q2.size)))))
   clear t1 t2 t3 t4 t5 r1 r2 r3 o1 o2 o3 q1 q2 q3 a3 a4 a5 b3 b4 b5 e3 e4 e5 f3 f4 f5 hQh H1 H2 H3 hEl hS hPg lf ld lm
   go_wp2
   go_meet
   exact ⟨_,_,_,hid fin.out.1,hid fin.out.2.1,hid fin.out.2.2.1,hid fin.out.2.2.2.1,hid fin.out.2.2.2.2⟩
 case rest=>
  obtain ⟨v1,v2,v3,hO,hB,R1,R2,R3⟩:=hcut
  obtain ⟨po,pc,rfl⟩:=rows_slice R1.out
  obtain ⟨qo,qc,rfl⟩:=rows_slice R2.out
  obtain ⟨mo2,mc2,rfl⟩:=rows_slice R3.out
  clear H1 H2 H3 e3 e4 e5 f3 f4 f5
  have c5 : wc.cell? ⟨g,off + 5,none⟩ = some (.slice mo2 c.methods.length mc2):=(World.cell?_of_block hB.out).trans (cell_setCell_same _ _ (by
   rw [cell_setCell_ne _ _ (by simp),cell_setCell_ne _ _ (by simp)]
   exact hQh.out.c))
  have I0 : Hid (TwI w g off c mcs po qo mo2 pc qc mc2 0 wc mcs):=⟨R3.out,fun i _ h=>by omega,rfl,R1.out,R2.out,hO.out,c5,hB.out⟩
  clear R1 R2 R3 hO hB
  go_wp2_with fail
  clear c5
  go_loopw [33] (fun v wr=>∃ (k : Nat) (ms : List Value),k≤c.methods.length∧v = .int .i64 (k : Int)∧Hid (TwI w g off c mcs po qo mo2 pc qc mc2 k wr ms)) (fun v _=>c.methods.length - (intOf v).toNat)
  case atStart=>exact ⟨0,mcs,by omega,rfl,I0⟩
  case round=>
   obtain ⟨k,ms,hk,rfl,hI⟩:=hrel
   clear I0
   have c5:=hI.out.cell
   by_cases hlt : k < c.methods.length
   ·have g1 : ((k : Int) < (c.methods.length : Int)):=by omega
    obtain ⟨gm,vp,vc,vh,rfl,hg1,hg2,hp,hm,hq⟩:=hI.out.head hEl.out hlt
    have hmS:=hS.methods _ (List.getElem_mem hlt)
    have ho:=hI.out.only
    have hns : ∀ d,P d→d ∉ [g]:=fun d hd hx=>hPg d hd (List.mem_singleton.1 hx)
    have H1:=fun W (hW : Only [] wr W)=>apart_Type (SlV.only (SlV.only hm.params ho hns) hW (by simp)) (Nat.le_trans hmS.sig.n (by decide)) (tcs_length _) (tcs_one _)
    have H2:=fun W (hW : Only [] wr W)=>apart_Byte (SlV.only (SlV.only hm.code ho hns) hW (by simp)) (Nat.le_trans hmS.code (by decide)) (bcs_length _) (bcs_one _)
    have H3:=fun W (hW : Only [] wr W)=>apart_Handler (SlV.only (SlV.only hm.hands ho hns) hW (by simp)) (Nat.le_trans hmS.n (by decide)) (len_hcs _) (one_hcs _)
    obtain ⟨xo,xc,rfl,lx⟩:=SlV.shape hm.params
    obtain ⟨yo,yc,rfl,ly⟩:=SlV.shape hm.code
    obtain ⟨zo,zc,rfl,lz⟩:=SlV.shape hm.hands
    have HX:=hid (fun (w1 w2 w3 : World) (a b d : Value) q1 o2 o3 r1 r2 r3=>hI.out.next (w1:=w1) (w2:=w2) (w3:=w3) (a:=a) (b:=b) (d:=d) hlt hgl ⟨hg1,hg2⟩ hp q1 o2 o3 r1 r2 r3)
    clear hm hmS ho hns hp hI hS hEl hPg hQh
    replace H1:=hid H1
    replace H2:=hid H2
    replace H3:=hid H3
    have hQ3:=hid hq
    obtain ⟨e2,e8,e9,f2,f8,f9⟩:=hq
    go_wp2_with fail
    clear c5
    go_region_with (first
     | (go_at_call 103; refine (H1.out _ (Only.refl [] _).drew).mono ?_; rintro e w1 ⟨p1,c1,rfl,r1,o1⟩; have q1 : Only [] wr w1:=(Only.refl [] _).drew.trans o1 (by simp); obtain ⟨a3,a4,a5,b3,b4,b5⟩:=hQ3.out.only0 q1)
     | (go_at_call 104; refine (H2.out _ q1).mono ?_; rintro e w2 ⟨p2,c2,rfl,r2,o2⟩; have q2 : Only [] wr w2:=q1.trans o2 (by simp); obtain ⟨a3,a4,a5,b3,b4,b5⟩:=hQ3.out.only0 q2)
     | (go_at_call 105; refine (H3.out _ q2).mono ?_; rintro e w3 ⟨p3,c3,rfl,r3,o3⟩; have q3 : Only [] wr w3:=q2.trans o3 (by simp); obtain ⟨a3,a4,a5,b3,b4,b5⟩:=hQ3.out.only0 q3))
    all_goals
     obtain ⟨ms',hn⟩:=HX.out w1 w2 w3 _ _ _ q1 o2 o3 r1 r2 r3
     replace hn:=hid hn
     clear HX H1 H2 H3 hQ3 e2 e8 e9 f2 f8 f9 a3 a4 a5 b3 b4 b5 r1 r2 r3 o1 o2 o3 q1 q2 q3
     go_wp2
     exact ⟨⟨k + 1,ms',by omega,by go_num,hn⟩,by simp [intOf]; omega⟩
   ·have g1 : ¬ ((k : Int) < (c.methods.length : Int)):=by omega
    obtain rfl : k = c.methods.length:=by omega
    obtain ⟨h1,h2,h3,h4,h5,h6,h7,h8⟩:=hI.out
    go_wp2
    go_end0
    refine ⟨rfl,_,_,_,⟨⟨h4,fun _ _=>trivial⟩,⟨h5,fun _ _=>trivial⟩,ms,⟨h1,fun _ _=>trivial⟩,?_⟩,h6,h8⟩
    exact ⟨h1.1,fun i hi=>(h2 i hi hi).imp fun _ _ _ _ _ h=>⟨h.1,fun _ _=>trivial⟩⟩

end Go.Proofs.YtildemmkhndhjaaGreatDoor
