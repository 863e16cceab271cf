/-
  What the proof leans on, part 18 of 48. The conditions stand in each theorem.
-/
import Derived.Test.YtildemmkhndhjaaGreatDoorB14
import Derived.Test.YtildemmkhndhjaaGreatDoorB08
import Derived.Test.YtildemmkhndhjaaGreatDoorB09
import Derived.Test.YtildemmkhndhjaaGreatDoorB07
import Derived.Test.YtildemmkhndhjaaGreatDoorB03
namespace Go.Proofs.YtildemmkhndhjaaGreatDoor
open Go.RowKit

/-- How Sig ends. -/
def SigPost (l : List UInt8) (w : World) (e : Ending) (w' : World) : Prop:=∃ v,e = .returned (.tuple #[sigV v (sigR l).1.2.1 (sigR l).1.2.2,.int .i64 (sigR l).2])∧Own w' w.heap.size v (sigR l).1.1∧Only [] w w'

theorem rsig_result {w : World} {b : Nat} {v x : Value} {void : Bool} {t : Ty} (h : SigAt w b v void t) (tmps : Array Value) (h2 : tmps.getD 2 undef = .pointer (some ⟨b,0,none⟩)) (h3 : tmps.getD 3 undef = x) :
  (results Tryz.f200 tmps).run Tryz.prog w = .ok (.tuple #[sigV v void t,x]) w:=by
 obtain ⟨c0,c1,c2,c3,_,_,_,_⟩:=h
 rw [results_cell_tmp (p:=2) (u:=3) (ty:=37) Tryz.results200,h2,h3]
 simp [go_sem,c0,c1,c2,c3,sigV]

theorem rsig_end {w w2 : World} {v0 : Value} {x0 : Bool} {t0 : Ty} {l : List UInt8} {ao : Option Addr} {cap : Nat} {ps : List Ty} {void : Bool} {d : Int} {n : List UInt8} {c : Int} (sr : SigAt w2 w.heap.size v0 x0 t0) (ho : Only [] w w2) (hown : Own w2 (w.heap.size + 2) (.slice ao ps.length cap) ps) (hS : sigR l = ((ps,void,(d,n)),c)) (a : Act) (hd : a.defers = []) (h2 : a.tmps.getD 2 undef = .pointer (some ⟨w.heap.size,0,none⟩)) (h3 : a.tmps.getD 3 undef = .int .i64 c) :
  bodyPost Tryz.prog Tryz.f200 (fun e w'=>SigPost l w e w') Exit.ret a ((((w2.setCell ⟨w.heap.size,0,none⟩ (.slice ao ps.length cap)).setCell ⟨w.heap.size,1,none⟩ (.bool void)).setCell ⟨w.heap.size,2,none⟩ (.int .i64 d)).setCell ⟨w.heap.size,3,none⟩ (.string (str n))):=by
 refine bodyPost_ret (rsig_result ((((sr.put0 (.slice ao ps.length cap)).put1 void).put2 d).put3 n) _ h2 h3) hd ⟨.slice ao ps.length cap,by rw [hS],?_,?_⟩
 ·rw [hS]
  exact own_mono (own_set (own_set (own_set (own_set hown _ (by simp) _) _ (by simp) _) _ (by simp) _) _ (by simp) _) (by omega)
 ·exact (((ho.setCell (.inr (by simp)) _).setCell (.inr (by simp)) _).setCell (.inr (by simp)) _).setCell (.inr (by simp)) _

theorem params_paren (f : Nat) (t : List UInt8) : paramsP (f + 1) (41 :: t) = some ([],t):=rfl

theorem params_step {f : Nat} {l : List UInt8} (h : hasOne l 41 = false) : paramsP (f + 1) l = match firstP 0 l with
  | none=>none
  | some (t,r)=>(paramsP f r).map fun x=>(t :: x.1,x.2):=by
 rw [paramsP,h]
 simp
 cases firstP 0 l <;> rfl

theorem result_type {r : List UInt8} (h : r≠[86]) : resultP r = if (typeR r).2 = 0 then some (some (typeR r).1) else none:=by
 unfold resultP typeR
 rw [if_neg h]
 cases firstP 0 r with
 | none=>rfl
 | some x=>
  obtain ⟨t,q⟩:=x
  cases q with
  | nil=>rfl
  | cons a b=>rfl

set_option maxHeartbeats 400000 in
set_option maxRecDepth 100000 in
theorem rsig_any (l : List UInt8) (hl : l.length≤1099511627776) (w : World) : Calls Tryz.prog 200 #[.string (str l)] w fun e w'=>SigPost l w e w':=by
 have hs:=str_size l
 have htl:=str_toList l
 obtain ⟨SR,SG⟩:=sig_new2 w (.slice none 0 0) false 0 []
 have o0:=((Only.refl [] w).alloc (.cells #[.slice none 0 0,.bool false,.int .i64 0,.string ⟨#[]⟩] 37)).alloc (.cells #[.slice none 0 0,.bool false,.int .i64 0,.string ⟨#[]⟩] 37)
 replace SR:=hid SR
 replace SG:=hid SG
 by_cases hz : l = []
 ·subst hz
  go_enter Tryz.func200,Tryz.ntmps200
  go_wp2
  exact bodyPost_ret (rsig_result SR.out _ rfl rfl) rfl ⟨.slice none 0 0,rfl,own_nil _ _,o0⟩
 ·have hzi : l.isEmpty = false:=by simpa using hz
  have hp : 0 < l.length:=List.length_pos_iff.2 hz
  have a0:=run_at l 0 hp
  by_cases h40 : l[0] = 40
  ·have hh : hasOne l 40 = true:=by
    cases l with
    | nil=>simp at hp
    | cons a t=>simpa [hasOne] using h40
   rw [h40] at a0
   simp only [Int.ofNat_zero] at a0
   replace hh:=hid hh
   clear h40 hz
   go_enter Tryz.func200,Tryz.ntmps200
   go_wp2
   go_loopw [5] (fun i wr=>∃ (q : Nat) (ps : List Ty) (ao : Option Addr) (cap f : Nat),q≤l.length∧i = .int .i64 (q : Int)∧Hid ((paramsP f (l.drop q)).map (fun x=>(ps ++ x.1,x.2)) = paramsP l.length (l.drop 1))∧Hid (l.length - q < f)∧ps.length≤q∧SigAt wr w.heap.size (.slice none 0 0) false (0,[])∧SigAt wr (w.heap.size + 1) (.slice ao ps.length cap) false (0,[])∧Own wr (w.heap.size + 2) (.slice ao ps.length cap) ps∧Only [] w wr∧w.heap.size + 2≤wr.heap.size) (fun i _=>l.length - (intOf i).toNat)
   case atStart=>
    refine ⟨1,[],none,0,l.length,by omega,rfl,?_,by show l.length - 1 < l.length; omega,by simp,SR.out,SG.out,own_nil _ _,o0,by simp⟩
    show _ = _
    cases paramsP l.length (l.drop 1) with
    | none=>rfl
    | some x=>simp
   case round=>
    obtain ⟨q,ps,ao,cap,f,hq,rfl,hP,hf,hpq,hSR,hSG,hown,hor,hsz⟩:=hrel
    clear SR SG o0 a0
    replace hSR:=hid hSR
    replace hSG:=hid hSG
    replace hown:=hid hown
    obtain ⟨r0,r1,r2,r3,rf0,rf1,rf2,rf3⟩:=hSR.out
    obtain ⟨s0,s1,s2,s3,sf0,sf1,sf2,sf3⟩:=hSG.out
    obtain ⟨f,rfl⟩ : ∃ f',f = f' + 1:=⟨f - 1,by have:=hf.out; omega⟩
    by_cases hlt : q < l.length
    ·have g1 : ((q : Int) < (l.length : Int)):=by omega
     have aq:=run_at l q hlt
     have hdr:=hid (List.drop_eq_getElem_cons hlt)
     generalize l[q] = c at *
     by_cases hc : c = 41
     ·subst hc
      have hP2 : Hid (paramsP l.length (l.drop 1) = some (ps,l.drop (q + 1))):=by
       unfold Hid
       rw [← hP.out,hdr.out,params_paren]
       simp
      have hsp:=hid (sigP_of hh.out hP2.out)
      have hrf:=fun w=>run_from l (q + 1) (by omega) w
      simp only [Int.natCast_add,Int.natCast_one] at hrf
      have hlr : (l.drop (q + 1)).length≤9223372036854775807:=by simp; omega
      generalize l.drop (q + 1) = rest at *
      have hrt:=str_toList rest
      clear hP hdr hf
      by_cases hV : rest = [86]
      ·have hsR : sigR l = if 16 < ps.length then (([],false,(0,[])),4) else ((ps,true,(0,[])),0):=by
        unfold sigR
        rw [hsp.out,hV]
        rfl
       subst hV
       clear hsp hP2
       by_cases h16 : 16 < ps.length
       ·have g16 : (16 < (ps.length : Int)):=by omega
        rw [if_pos h16] at hsR
        replace hsR:=hid hsR
        clear h16
        go_wp2
        exact rsig_end (ps:=[]) (d:=0) (n:=[]) (hSR.out.only ((Only.refl [w.heap.size + 1] _).setCell (.inl (by simp)) _) (by simp)) (hor.setCell (.inr (by simp)) _) (own_nil _ _) hsR.out _ rfl rfl rfl
       ·have g16 : ¬ (16 < (ps.length : Int)):=by omega
        rw [if_neg h16] at hsR
        replace hsR:=hid hsR
        clear h16
        go_wp2
        exact rsig_end (ps:=ps) (d:=0) (n:=[]) (hSR.out.only ((Only.refl [w.heap.size + 1] _).setCell (.inl (by simp)) _) (by simp)) (hor.setCell (.inr (by simp)) _) (own_set hown.out ⟨w.heap.size + 1,1,none⟩ (by simp) (.bool true)) hsR.out _ rfl rfl rfl
      ·have hV2 : (rest == [86]) = false:=by simpa using hV
       have hrP:=result_type hV
       have HT:=rtype_any rest hlr wr
       generalize typeR rest = X at *
       obtain ⟨⟨xd,xn⟩,xe⟩:=X
       simp only [tyV] at HT hrP
       replace HT:=hid HT
       clear hV
       replace hrP:=hid hrP
       go_wp2_with fail
       refine HT.out.mono ?_
       rintro e w1 ⟨rfl,ho1⟩
       clear aq hrf hrt hV2
       have q1:=ho1.alloc (.cells #[.int .i64 xd,.string (str xn)] 35)
       have o1:=hor.next q1 (by simp)
       replace hSR:=hid (hSR.out.only q1 (by simp))
       replace hSG:=hid (hSG.out.only q1 (by simp))
       replace hown:=hid (own_only hown.out q1 (by simp))
       clear r0 r1 r2 r3 rf0 rf1 rf2 rf3 s0 s1 s2 s3 sf0 sf1 sf2 sf3
       obtain ⟨r0,r1,r2,r3,rf0,rf1,rf2,rf3⟩:=hSR.out
       obtain ⟨s0,s1,s2,s3,sf0,sf1,sf2,sf3⟩:=hSG.out
       by_cases hxe : xe = 0
       ·have hsR : sigR l = if 16 < ps.length then (([],false,(0,[])),4) else ((ps,false,(xd,xn)),0):=by
         unfold sigR
         rw [hsp.out,hrP.out,if_pos hxe]
         rfl
        subst hxe
        clear hsp hP2 hrP
        by_cases h16 : 16 < ps.length
        ·have g16 : (16 < (ps.length : Int)):=by omega
         rw [if_pos h16] at hsR
         replace hsR:=hid hsR
         clear h16
         go_wp2
         exact rsig_end (ps:=[]) (d:=0) (n:=[]) (hSR.out.only (((Only.refl [w.heap.size + 1] _).setCell (.inl (by simp)) _).setCell (.inl (by simp)) _) (by simp)) ((o1.setCell (.inr (by simp)) _).setCell (.inr (by simp)) _) (own_nil _ _) hsR.out _ rfl rfl rfl
        ·have g16 : ¬ (16 < (ps.length : Int)):=by omega
         rw [if_neg h16] at hsR
         replace hsR:=hid hsR
         clear h16
         go_wp2
         exact rsig_end (ps:=ps) (d:=xd) (n:=xn) (hSR.out.only (((Only.refl [w.heap.size + 1] _).setCell (.inl (by simp)) _).setCell (.inl (by simp)) _) (by simp)) ((o1.setCell (.inr (by simp)) _).setCell (.inr (by simp)) _) (own_set (own_set hown.out ⟨w.heap.size + 1,2,none⟩ (by simp) (.int .i64 xd)) ⟨w.heap.size + 1,3,none⟩ (by simp) (.string (str xn))) hsR.out _ rfl rfl rfl
       ·have e1 : Hid (sigR l = (([],false,(0,[])),15)):=by
         unfold Hid sigR
         rw [hsp.out,hrP.out,if_neg hxe]
         rfl
        have hxe2 : (xe == 0) = false:=by simpa using hxe
        clear hsp hP2 hrP hxe
        go_wp2
        exact rsig_end (ps:=[]) (d:=0) (n:=[]) hSR.out o1 (own_nil _ _) e1.out _ rfl rfl rfl
     ·have hc1 : ((c.toNat : Int) == 41) = false:=byte_ne hc
      have hno : hasOne (l.drop q) 41 = false:=by
       rw [hdr.out]
       simpa [hasOne] using hc
      have hst:=hid (params_step (f:=f) hno)
      have HO:=hid (one_any l (by omega) q hq wr)
      clear hdr
      go_wp2_with fail
      refine HO.out.mono ?_
      rintro e w1 ⟨⟨td,tn⟩,n,rfl,hR,ho1⟩
      simp only [tyV]
      clear aq
      unfold OneR at hR
      have q1:=ho1.alloc (.cells #[.int .i64 td,.string (str tn)] 35)
      have o1:=hor.next q1 (by simp)
      replace hSR:=hid (hSR.out.only q1 (by simp))
      replace hSG:=hid (hSG.out.only q1 (by simp))
      clear r0 r1 r2 r3 rf0 rf1 rf2 rf3 s0 s1 s2 s3 sf0 sf1 sf2 sf3
      obtain ⟨r0,r1,r2,r3,rf0,rf1,rf2,rf3⟩:=hSR.out
      obtain ⟨s0,s1,s2,s3,sf0,sf1,sf2,sf3⟩:=hSG.out
      cases hF : firstP 0 (l.drop q) with
      | none=>
       rw [hF] at hR
       simp only [] at hR
       subst hR
       have e1 : Hid (sigR l = (([],false,(0,[])),15)):=by
        have h1 : paramsP l.length (l.drop 1) = none:=by
         rw [← hP.out,hst.out,hF]
         rfl
        unfold Hid sigR sigP
        rw [if_pos hh.out,h1]
        rfl
       clear hF hst hP
       go_wp2
       exact rsig_end (ps:=[]) (d:=0) (n:=[]) hSR.out o1 (own_nil _ _) e1.out _ rfl rfl rfl
      | some x=>
       obtain ⟨t',r⟩:=x
       rw [hF] at hR
       simp only [] at hR
       obtain ⟨rfl,hn,hrd,hrl⟩:=hR
       have hlt2:=firstP_lt _ _ _ _ hF
       have hP3 : Hid ((paramsP f r).map (fun x=>((ps ++ [(td,tn)]) ++ x.1,x.2)) = paramsP l.length (l.drop 1)):=by
        have h1:=hP.out
        rw [hst.out,hF] at h1
        simp only [Option.map_map] at h1
        unfold Hid
        rw [← h1]
        congr 1
        funext x
        simp
       simp at hlt2
       obtain ⟨q2,hq2⟩ : ∃ q2 : Nat,q2 = l.length - r.length:=⟨_,rfl⟩
       rw [← hq2] at hrd
       have hn2 : n = (q2 : Int):=by omega
       subst hn2
       rw [hrd] at hP3
       have hb1 : q + 1≤q2:=by omega
       have hb2 : q2≤l.length:=by omega
       have hf2 : Hid (l.length - q2 < f):=by have:=hf.out; show _ < _; omega
       clear hF hst hP hn hrd hq2 hlt2 hf
       have hownA:=hid (own_only hown.out (q1.alloc (.cells #[.int .i64 td,.string (str tn)] 35)) (by simp))
       have htA:=ts_one (w1.alloc (.cells #[.int .i64 td,.string (str tn)] 35)) (td,tn) 35
       rw [World.size_alloc] at htA
       replace htA:=hid htA
       have hz1:=ho1.size
       go_wp2_with (at_builtin; refine wpList_append_types rfl (.tmp 38) (.tmp 40) rfl rfl rfl hownA.out htA.out (by simp) (by simp; omega) (by simp; omega) ?_)
       intro ao2 cap2 w2 hown2 hgrow2 hao2 _
       have qb:=Only.of_grown hgrow2
       have hbl : ∀ x∈(Value.ownBlock (.slice ao ps.length cap)).toList,w.heap.size + 2≤x:=by
        intro x hx
        cases hv : Value.ownBlock (.slice ao ps.length cap) with
        | none=>rw [hv] at hx; simp at hx
        | some y=>
         rw [hv] at hx
         simp at hx
         subst hx
         exact (hown.out.lt x hv).1
       have oa:=(Only.refl [] (w1.alloc (.cells #[.int .i64 td,.string (str tn)] 35))).alloc (.cells #[.int .i64 td,.string (str tn)] 35)
       replace hSR:=hid ((hSR.out.only oa (by simp)).only qb (fun h=>by have:=hbl _ h; omega))
       replace hSG:=hid ((hSG.out.only oa (by simp)).only qb (fun h=>by have:=hbl _ h; omega))
       have o2:=(o1.alloc (.cells #[.int .i64 td,.string (str tn)] 35)).next qb (fun x hx=>by have:=hbl x hx; omega)
       have hz2:=qb.size
       simp only [World.size_alloc] at hz2
       clear r0 r1 r2 r3 rf0 rf1 rf2 rf3 s0 s1 s2 s3 sf0 sf1 sf2 sf3
       obtain ⟨s0,s1,s2,s3,sf0,sf1,sf2,sf3⟩:=hSG.out
       have hl1 : ps.length + 1 = (ps ++ [(td,tn)]).length:=by simp
       rw [hl1] at hown2
       have hown3:=hid (own_set hown2 ⟨w.heap.size + 1,0,none⟩ (by simp) (.slice ao2 (ps.length + 1) cap2))
       clear hown2 hgrow2 hao2 hl1 qb
       go_wp2
       refine ⟨⟨q2,ps ++ [(td,tn)],ao2,cap2,f,hb2,rfl,hP3,hf2,by simp; omega,?_,?_,?_,?_,?_⟩,by simp [intOf]; omega⟩
       ·exact hSR.out.only ((Only.refl [w.heap.size + 1] _).setCell (.inl (by simp)) _) (by simp)
       ·rw [List.length_append]
        exact hSG.out.put0 _
       ·exact hown3.out
       ·exact o2.setCell (.inr (by simp)) _
       ·simp
        omega
    ·have g1 : ¬ ((q : Int) < (l.length : Int)):=by omega
     obtain rfl : q = l.length:=by omega
     have e1 : Hid (sigR l = (([],false,(0,[])),15)):=by
      have h1 : paramsP l.length (l.drop 1) = none:=by
       rw [← hP.out,List.drop_of_length_le (Nat.le_refl _)]
       rfl
      unfold Hid sigR sigP
      rw [if_pos hh.out,h1]
      rfl
     clear hP hf
     go_wp2
     exact rsig_end (ps:=[]) (d:=0) (n:=[]) hSR.out hor (own_nil _ _) e1.out _ rfl rfl rfl
  ·have e1 : sigR l = (([],false,(0,[])),15):=by
    have : hasOne l 40 = false:=by
     cases l with
     | nil=>simp at hp
     | cons a t=>simpa [hasOne] using h40
    simp [sigR,sigP,this]
   have g1 : ((l[0].toNat : Int) == 40) = false:=byte_ne h40
   generalize l[0] = c at *
   simp only [Int.ofNat_zero] at a0
   replace e1:=hid e1
   clear h40 hz
   go_enter Tryz.func200,Tryz.ntmps200
   go_wp2
   exact bodyPost_ret (rsig_result SR.out _ rfl rfl) rfl ⟨.slice none 0 0,by rw [e1.out]; rfl,by rw [e1.out]; exact own_nil _ _,o0⟩


set_option maxHeartbeats 400000 in
set_option maxRecDepth 100000 in
theorem rsigText_any {w : World} {ao : Option Addr} {l : List Ty} {d cap : Nat} (hT : TS w ao l d) (hl : l.length≤9223372036854775807) (hA : ∀ t∈l,t.2.length≤9223372036854775807) (void : Bool) (t : Ty) (ht : t.2.length≤9223372036854775807) :
  Calls Tryz.prog 150 #[sigV (.slice ao l.length cap) void t] w fun e w'=>e = .returned (.tuple #[.string (str (stR l void t)),.int .i64 (sigCheck l void t)])∧Only [] w w':=by
 obtain ⟨td,tn⟩:=t
 have ho:=(Only.refl [] w).alloc (.cells #[.slice ao l.length cap,.bool void,.int .i64 td,.string (str tn)] 37)
 have K0:=hid (sig_new w (.slice ao l.length cap) void td tn)
 simp only [sigV]
 by_cases h16 : 16 < l.length
 ·have g1 : (16 < (l.length : Int)):=by omega
  have e1 : sigCheck l void (td,tn) = 4:=by simp [sigCheck,h16]
  have e2 : stR l void (td,tn) = []:=by simp [stR,e1]
  rw [e1,e2]
  clear e1 e2 h16
  go_enter Tryz.func150,Tryz.ntmps150
  go_wp2
  go_ret2
  exact ⟨rfl,ho⟩
 ·have g1 : ¬ (16 < (l.length : Int)):=by omega
  go_enter Tryz.func150,Tryz.ntmps150
  go_wp2
  go_loopw [4,5] (fun s i wr=>∃ k : Nat,k≤l.length∧i = .int .i64 (k : Int)∧s = .string (str (40 :: tyTexts (l.take k)))∧Hid (∀ j (hj : j < l.length),j < k→tyCheck l[j] = 0)∧SigAt wr w.heap.size (.slice ao l.length cap) void (td,tn)∧Only [] w wr) (fun _ i _=>l.length - (intOf i).toNat)
  case atStart=>exact ⟨0,by omega,rfl,rfl,fun j _ h=>by omega,K0.out,ho⟩
  case round=>
   obtain ⟨k,hk,rfl,rfl,hok,hS,hor⟩:=hrel
   clear K0
   replace hS:=hid hS
   obtain ⟨c0,c1,c2,c3,_,_,_,_⟩:=hS.out
   by_cases hlt : k < l.length
   ·have g2 : ((k : Int) < (l.length : Int)):=by omega
    have hne : l≠[]:=by intro e; simp [e] at hlt
    rcases hT.only hor (by simp) with h | ⟨off,rfl,hc⟩
    ·exact absurd h hne
    obtain ⟨y0,y1⟩:=hc k hlt
    clear hc
    have hat:=fun (h : tyCheck l[k]≠0)=>checkAll_at l k hlt (fun j hj=>hok.out j (by omega) hj) h
    have hnx : tyCheck l[k] = 0→∀ j (hj : j < l.length),j < k + 1→tyCheck l[j] = 0:=by
     intro h0 j hj hjk
     by_cases e : j = k
     ·subst e
      exact h0
     ·exact hok.out j hj (by omega)
    have htk : tyTexts (l.take (k + 1)) = tyTexts (l.take k) ++ tyText l[k]:=by
     rw [List.take_succ_eq_append_getElem hlt,tyTexts_append]
     simp [tyTexts]
    have hlen:=fits_len (l.take k) fun t ht=>by
     obtain ⟨j,hj,rfl⟩:=List.getElem_of_mem ht
     simp at hj
     rw [List.getElem_take]
     exact check_fit (hok.out j (by omega) (by omega))
    have hln:=hA l[k] (List.getElem_mem hlt)
    generalize l[k] = t at *
    obtain ⟨d0,nm⟩:=t
    have HC:=rtypeText_any (d0,nm) hln wr
    simp only [] at hln
    by_cases hz : tyCheck (d0,nm) = 0
    ·have e1 : ttR (d0,nm) = tyText (d0,nm):=by simp [ttR,hz]
     have hft:=fit_len (check_fit hz)
     rw [hz,e1] at HC
     simp only [tyV] at HC y0 y1
     replace HC:=hid HC
     have hnx:=hid (hnx hz)
     have hlk : (l.take k).length≤16:=by simp; omega
     have hcat : ∀ w,(Op.stringOp .add (str (40 :: tyTexts (l.take k))) (str (tyText (d0,nm)))).run Tryz.prog w = .ok (.string (str (40 :: tyTexts (l.take (k + 1))))) w:=fun w=>by
      have:=run_cat (40 :: tyTexts (l.take k)) (tyText (d0,nm)) (by simp; omega) w
      rw [htk]
      exact this
     clear hat hz e1 hok htk hlk hlen hft
     generalize tyTexts (l.take k) = u at *
     generalize hv : tyTexts (l.take (k + 1)) = u2 at *
     generalize tyText (d0,nm) = u3 at *
     replace hv:=hid hv
     go_wp2_with fail
     refine HC.out.mono ?_
     rintro e w2 ⟨rfl,ho2⟩
     go_wp2
     exact ⟨⟨k + 1,by omega,by go_num,by rw [hv.out],hnx,hS.out.only ho2 (by simp),hor.next ho2 (by simp)⟩,by simp [intOf]; omega⟩
    ·have hat:=hat hz
     have e1 : sigCheck l void (td,tn) = tyCheck (d0,nm):=by
      unfold sigCheck
      rw [if_neg h16,hat,if_neg hz]
     have e2 : Hid (stR l void (td,tn) = []):=by
      unfold Hid stR
      rw [e1,if_neg hz]
     replace e1:=hid e1
     clear hat hnx hok htk hlen
     generalize tyCheck (d0,nm) = c at *
     simp only [tyV] at HC y0 y1
     replace HC:=hid HC
     go_wp2_with fail
     refine HC.out.mono ?_
     rintro e w2 ⟨rfl,ho2⟩
     go_wp2
     go_ret2
     exact ⟨by rw [e1.out,e2.out]; rfl,hor.next ho2 (by simp)⟩
   ·have g2 : ¬ ((k : Int) < (l.length : Int)):=by omega
    obtain rfl : k = l.length:=by omega
    have hall : checkAll l = 0:=(checkAll_ok l).2 fun t ht=>by
     obtain ⟨j,hj,rfl⟩:=List.getElem_of_mem ht
     exact hok.out j hj hj
    have hlen:=fits_len l fun t ht=>check_fit ((checkAll_ok l).1 hall t ht)
    rw [List.take_of_length_le (Nat.le_refl _)]
    clear hok
    have hq:=neq_type (td,tn) (0,[])
    rw [ty_zero] at hq
    simp only [tyV] at hq
    cases void with
    | true=>
     by_cases hz : (td,tn) = (((0 : Int),[]) : Ty)
     ·have e1 : sigCheck l true (td,tn) = 0:=by
       unfold sigCheck
       rw [if_neg h16,if_pos hall,if_neg (by simp [hz]),hz]
       decide
      have e2 : Hid (stR l true (td,tn) = 40 :: (tyTexts l ++ [41,86])):=by
       unfold Hid stR
       rw [if_pos e1]
       rfl
      have hcat : ∀ w,(Op.stringOp .add (str (40 :: tyTexts l)) ⟨#[41,86]⟩).run Tryz.prog w = .ok (.string (str (40 :: (tyTexts l ++ [41,86])))) w:=fun w=>run_cat (40 :: tyTexts l) [41,86] (by simp; omega) w
      replace e1:=hid e1
      simp only [hz,decide_true,Bool.not_true] at hq
      clear hz hall hlen
      generalize tyTexts l = u at *
      go_wp2
      go_ret2
      exact ⟨by rw [e1.out,e2.out]; rfl,hor⟩
     ·have e1 : sigCheck l true (td,tn) = 1:=by
       unfold sigCheck
       rw [if_neg h16,if_pos hall]
       simp [hz]
      have e2 : Hid (stR l true (td,tn) = []):=by
       unfold Hid stR
       rw [e1]
       rfl
      replace e1:=hid e1
      simp only [hz,decide_false,Bool.not_false] at hq
      clear hz hall hlen
      go_wp2
      go_ret2
      exact ⟨by rw [e1.out,e2.out]; rfl,hor⟩
    | false=>
     have e1 : Hid (sigCheck l false (td,tn) = tyCheck (td,tn)):=by
      unfold Hid sigCheck
      rw [if_neg h16,if_pos hall]
      simp
     have HC:=rtypeText_any (td,tn) ht wr
     clear hq
     by_cases hz : tyCheck (td,tn) = 0
     ·have hft:=fit_len (check_fit hz)
      have e3 : ttR (td,tn) = tyText (td,tn):=by simp [ttR,hz]
      have e2 : Hid (stR l false (td,tn) = 40 :: (tyTexts l ++ 41 :: tyText (td,tn))):=by
       unfold Hid stR
       rw [e1.out,if_pos hz]
       simp [sigText]
      have e4 : Hid (sigCheck l false (td,tn) = 0):=by
       unfold Hid
       rw [e1.out,hz]
      rw [e3,hz] at HC
      simp only [tyV] at HC
      replace HC:=hid HC
      have k2 : ∀ w,(Op.stringOp .add (str (40 :: tyTexts l)) ⟨#[41]⟩).run Tryz.prog w = .ok (.string (str (40 :: (tyTexts l ++ [41])))) w:=fun w=>run_cat (40 :: tyTexts l) [41] (by simp; omega) w
      have k3 : ∀ w,(Op.stringOp .add (str (40 :: (tyTexts l ++ [41]))) (str (tyText (td,tn)))).run Tryz.prog w = .ok (.string (str (40 :: (tyTexts l ++ 41 :: tyText (td,tn))))) w:=fun w=>by
       have:=run_cat (40 :: (tyTexts l ++ [41])) (tyText (td,tn)) (by simp; omega) w
       simp only [List.cons_append,List.append_assoc,List.nil_append] at this
       exact this
      clear e1 e3 hz hall hlen hft
      generalize tyTexts l = u at *
      generalize tyText (td,tn) = v at *
      go_wp2_with fail
      refine HC.out.mono ?_
      rintro e w2 ⟨rfl,ho2⟩
      go_wp2
      go_ret2
      exact ⟨by rw [e4.out,e2.out]; rfl,hor.next ho2 (by simp)⟩
     ·have e2 : Hid (stR l false (td,tn) = []):=by
       unfold Hid stR
       rw [e1.out,if_neg hz]
      clear hall hlen
      generalize tyCheck (td,tn) = c at *
      simp only [tyV] at HC
      replace HC:=hid HC
      go_wp2_with fail
      refine HC.out.mono ?_
      rintro e w2 ⟨rfl,ho2⟩
      go_wp2
      go_ret2
      exact ⟨by rw [e1.out,e2.out]; rfl,hor.next ho2 (by simp)⟩


theorem ris_any {w : World} {ao : Option Addr} {l : List En} {d cap : Nat} (hE : ES w ao l d) (hl : l.length≤9223372036854775807) (i kind : Int) :
  Calls Tryz.prog 181 #[.slice ao l.length cap,.int .i64 i,.int .i64 kind] w fun e w'=>e = .returned (.bool (hasE l i kind))∧w' = w:=by
 cases hi : enAt l i with
 | none=>
  have hr : hasE l i kind = false:=by simp [hasE,hi]
  rw [hr]
  rcases enAt_none hi with h | h
  ·have g1 : ¬ (0≤i):=by omega
   clear hi hr hE
   go_enter Tryz.func181,Tryz.ntmps181
   go_wp2
   go_ret
   exact ⟨rfl,rfl⟩
  ·have g1 : 0≤i:=by omega
   have g2 : ¬ (i < (l.length : Int)):=by omega
   clear hi hr hE
   go_enter Tryz.func181,Tryz.ntmps181
   go_wp2
   go_ret
   exact ⟨rfl,rfl⟩
 | some e=>
  have hr : hasE l i kind = decide (e.1 = kind):=by simp [hasE,hi]
  rw [hr]
  obtain ⟨j,hj,rfl,rfl⟩:=enAt_some hi
  clear hi hr
  obtain ⟨off,rfl,hc⟩:=hE.at hj
  obtain ⟨y0,_,_,_,_,_⟩:=hc
  generalize l[j] = e at *
  obtain ⟨k,t,n,a,b,c⟩:=e
  clear hE
  simp only at y0
  have g1 : (0 : Int)≤(j : Int):=by omega
  have g2 : ((j : Int) < (l.length : Int)):=by omega
  go_enter Tryz.func181,Tryz.ntmps181
  go_wp2
  go_ret
  refine ⟨?_,rfl⟩
  by_cases hk : k = kind <;> simp [hk]

theorem small_text {l : List En} {s : List UInt8} (hA : ∀ e∈l,e.2.1.length≤1048576) (h : ∃ e∈l,e.2.1 = s) : s.length≤1048576:=by
 obtain ⟨e,he,rfl⟩:=h
 exact hA e he

set_option maxHeartbeats 400000 in
set_option maxRecDepth 100000 in
theorem rtextN_any {w : World} {ao : Option Addr} {l : List En} {d cap : Nat} (hE : ES w ao l d) (hl : l.length≤9223372036854775807) (hA : ∀ e∈l,e.2.1.length≤1048576) (i : Int) :
  Calls Tryz.prog 180 #[.slice ao l.length cap,.int .i64 i,.int .i64 1] w fun e w'=>e = .returned (.int .i64 (wText l i fName))∧Only [] w w':=by
 have HH:=ris_any (cap:=cap) hE hl i 1
 rw [hasE_text] at HH
 cases h : textAt l i with
 | none=>
  have e1 : wText l i fName = 16:=by simp [wText,h]
  rw [e1]
  rw [h] at HH
  simp only [Option.isSome_none] at HH
  clear h e1 hE
  replace HH:=hid HH
  go_enter Tryz.func180,Tryz.ntmps180
  go_wp2_with (go_at_call 181; refine HH.out.mono ?_; rintro e w' ⟨rfl,rfl⟩)
  go_ret
  exact ⟨rfl,Only.refl _ _⟩
 | some s=>
  have e1 : wText l i fName = fName s:=by simp [wText,h]
  rw [e1]
  rw [h] at HH
  simp only [Option.isSome_some] at HH
  obtain ⟨j,off,rfl,hj,rfl,hc,hm⟩:=text_cell hE h
  have hsm:=small_text hA hm
  clear h e1 hE hm
  have g2 : ((j : Int) < (l.length : Int)):=by omega
  replace HH:=hid HH
  have HN:=rname_any s (by omega) w
  cases hn : nameOK s with
  | true=>
   have e2 : fName s = 0:=by simp [fName,hn]
   rw [e2]
   rw [hn] at HN
   clear hn e2
   replace HN:=hid HN
   go_enter Tryz.func180,Tryz.ntmps180
   go_wp2_with (first | (go_at_call 181; refine HH.out.mono ?_; rintro e w' ⟨rfl,rfl⟩) | (go_at_call 179; refine HN.out.mono ?_; rintro e w' ⟨rfl,rfl⟩))
   go_ret
   exact ⟨rfl,Only.refl _ _⟩
  | false=>
   have e2 : fName s = 14:=by simp [fName,hn]
   rw [e2]
   rw [hn] at HN
   clear hn e2
   replace HN:=hid HN
   go_enter Tryz.func180,Tryz.ntmps180
   go_wp2_with (first | (go_at_call 181; refine HH.out.mono ?_; rintro e w' ⟨rfl,rfl⟩) | (go_at_call 179; refine HN.out.mono ?_; rintro e w' ⟨rfl,rfl⟩))
   go_ret
   exact ⟨rfl,Only.refl _ _⟩

set_option maxHeartbeats 400000 in
set_option maxRecDepth 100000 in
theorem rtextM_any {w : World} {ao : Option Addr} {l : List En} {d cap : Nat} (hE : ES w ao l d) (hl : l.length≤9223372036854775807) (hA : ∀ e∈l,e.2.1.length≤1048576) (i : Int) :
  Calls Tryz.prog 180 #[.slice ao l.length cap,.int .i64 i,.int .i64 2] w fun e w'=>e = .returned (.int .i64 (wText l i fMethod))∧Only [] w w':=by
 have HH:=ris_any (cap:=cap) hE hl i 1
 rw [hasE_text] at HH
 cases h : textAt l i with
 | none=>
  have e1 : wText l i fMethod = 16:=by simp [wText,h]
  rw [e1]
  rw [h] at HH
  simp only [Option.isSome_none] at HH
  clear h e1 hE
  replace HH:=hid HH
  go_enter Tryz.func180,Tryz.ntmps180
  go_wp2_with (go_at_call 181; refine HH.out.mono ?_; rintro e w' ⟨rfl,rfl⟩)
  go_ret
  exact ⟨rfl,Only.refl _ _⟩
 | some s=>
  have e1 : wText l i fMethod = fMethod s:=by simp [wText,h]
  rw [e1]
  rw [h] at HH
  simp only [Option.isSome_some] at HH
  obtain ⟨j,off,rfl,hj,rfl,hc,hm⟩:=text_cell hE h
  have hsm:=small_text hA hm
  clear h e1 hE hm
  have g2 : ((j : Int) < (l.length : Int)):=by omega
  replace HH:=hid HH
  have HN:=xmethod_any s (by omega) w
  cases hn : methodOK s with
  | true=>
   have e2 : fMethod s = 0:=by simp [fMethod,hn]
   rw [e2]
   rw [hn] at HN
   clear hn e2
   replace HN:=hid HN
   go_enter Tryz.func180,Tryz.ntmps180
   go_wp2_with (first | (go_at_call 181; refine HH.out.mono ?_; rintro e w' ⟨rfl,rfl⟩) | (go_at_call 182; refine HN.out.mono ?_; rintro e w' ⟨rfl,rfl⟩))
   go_ret
   exact ⟨rfl,Only.refl _ _⟩
  | false=>
   have e2 : fMethod s = 14:=by simp [fMethod,hn]
   rw [e2]
   rw [hn] at HN
   clear hn e2
   replace HN:=hid HN
   go_enter Tryz.func180,Tryz.ntmps180
   go_wp2_with (first | (go_at_call 181; refine HH.out.mono ?_; rintro e w' ⟨rfl,rfl⟩) | (go_at_call 182; refine HN.out.mono ?_; rintro e w' ⟨rfl,rfl⟩))
   go_ret
   exact ⟨rfl,Only.refl _ _⟩

set_option maxHeartbeats 400000 in
set_option maxRecDepth 100000 in
theorem rtextT_any {w : World} {ao : Option Addr} {l : List En} {d cap : Nat} (hE : ES w ao l d) (hl : l.length≤9223372036854775807) (hA : ∀ e∈l,e.2.1.length≤1048576) (i : Int) :
  Calls Tryz.prog 180 #[.slice ao l.length cap,.int .i64 i,.int .i64 3] w fun e w'=>e = .returned (.int .i64 (wText l i fType))∧Only [] w w':=by
 have HH:=ris_any (cap:=cap) hE hl i 1
 rw [hasE_text] at HH
 cases h : textAt l i with
 | none=>
  have e1 : wText l i fType = 16:=by simp [wText,h]
  rw [e1]
  rw [h] at HH
  simp only [Option.isSome_none] at HH
  clear h e1 hE
  replace HH:=hid HH
  go_enter Tryz.func180,Tryz.ntmps180
  go_wp2_with (go_at_call 181; refine HH.out.mono ?_; rintro e w' ⟨rfl,rfl⟩)
  go_ret
  exact ⟨rfl,Only.refl _ _⟩
 | some s=>
  have e1 : wText l i fType = fType s:=by simp [wText,h]
  rw [e1]
  rw [h] at HH
  simp only [Option.isSome_some] at HH
  obtain ⟨j,off,rfl,hj,rfl,hc,hm⟩:=text_cell hE h
  have hsm:=small_text hA hm
  clear h e1 hE hm
  have g2 : ((j : Int) < (l.length : Int)):=by omega
  replace HH:=hid HH
  have HN:=rtype_any s (by omega) w
  unfold fType
  generalize typeR s = X at *
  obtain ⟨⟨xd,xn⟩,xe⟩:=X
  simp only [tyV] at HN ⊢
  replace HN:=hid HN
  go_enter Tryz.func180,Tryz.ntmps180
  go_wp2_with (first | (go_at_call 181; refine HH.out.mono ?_; rintro e w' ⟨rfl,rfl⟩) | (go_at_call 199; refine HN.out.mono ?_; rintro e w1 ⟨rfl,ho1⟩))
  go_ret
  exact ⟨rfl,ho1.alloc _⟩

set_option maxHeartbeats 400000 in
set_option maxRecDepth 100000 in
theorem rtextS_any {w : World} {ao : Option Addr} {l : List En} {d cap : Nat} (hE : ES w ao l d) (hl : l.length≤9223372036854775807) (hA : ∀ e∈l,e.2.1.length≤1048576) (i : Int) :
  Calls Tryz.prog 180 #[.slice ao l.length cap,.int .i64 i,.int .i64 4] w fun e w'=>e = .returned (.int .i64 (wText l i fSig))∧Only [] w w':=by
 have HH:=ris_any (cap:=cap) hE hl i 1
 rw [hasE_text] at HH
 cases h : textAt l i with
 | none=>
  have e1 : wText l i fSig = 16:=by simp [wText,h]
  rw [e1]
  rw [h] at HH
  simp only [Option.isSome_none] at HH
  clear h e1 hE
  replace HH:=hid HH
  go_enter Tryz.func180,Tryz.ntmps180
  go_wp2_with (go_at_call 181; refine HH.out.mono ?_; rintro e w' ⟨rfl,rfl⟩)
  go_ret
  exact ⟨rfl,Only.refl _ _⟩
 | some s=>
  have e1 : wText l i fSig = fSig s:=by simp [wText,h]
  rw [e1]
  rw [h] at HH
  simp only [Option.isSome_some] at HH
  obtain ⟨j,off,rfl,hj,rfl,hc,hm⟩:=text_cell hE h
  have hsm:=small_text hA hm
  clear h e1 hE hm
  have g2 : ((j : Int) < (l.length : Int)):=by omega
  replace HH:=hid HH
  have HN:=rsig_any s (by omega) w
  unfold fSig
  unfold SigPost at HN
  generalize sigR s = X at *
  obtain ⟨⟨xl,xv,xd,xn⟩,xe⟩:=X
  simp only [sigV] at HN ⊢
  replace HN:=hid HN
  go_enter Tryz.func180,Tryz.ntmps180
  go_wp2_with (first | (go_at_call 181; refine HH.out.mono ?_; rintro e w' ⟨rfl,rfl⟩) | (go_at_call 200; refine HN.out.mono ?_; rintro e w1 ⟨v,rfl,hw,ho1⟩; obtain ⟨vo,vc,rfl⟩:=own_slice hw; clear hw))
  go_ret
  exact ⟨rfl,ho1.alloc _⟩

end Go.Proofs.YtildemmkhndhjaaGreatDoor
