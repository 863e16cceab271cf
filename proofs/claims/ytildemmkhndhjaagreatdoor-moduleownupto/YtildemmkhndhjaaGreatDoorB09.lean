/-
  What the proof leans on, part 9 of 48. The conditions stand in each theorem.
-/
import Derived.Test.YtildemmkhndhjaaGreatDoorB08
namespace Go.Proofs.YtildemmkhndhjaaGreatDoor
open Go.RowKit

set_option maxHeartbeats 400000 in
set_option maxRecDepth 100000 in
theorem rsame_any {w : World} {ao bo : Option Addr} {l m : List Ty} {d k cap bap : Nat} (hT : TS w ao l d) (hM : TS w bo m k) (hl : l.length≤9223372036854775807) (v u : Bool) (s t : Ty) :
    Calls Tryz.prog 145 #[sigV (.slice ao l.length cap) v s,sigV (.slice bo m.length bap) u t] w fun e w'=>e = .returned (.bool (sameR (l,v,s) (m,u,t)))∧Only [] w w':=by
  have hq:=neq_type s t
  have hst : ∃ b,b = decide (s = t):=⟨_,rfl⟩
  obtain ⟨b,hb⟩:=hst
  rw [← hb] at hq
  replace hb:=hid hb
  obtain ⟨d0,n0⟩:=s
  obtain ⟨d1,n1⟩:=t
  simp only [tyV] at hq
  simp only [sigV]
  have o1:=((Only.refl [] w).alloc (.cells #[.slice ao l.length cap,.bool v,.int .i64 d0,.string (str n0)] 37)).alloc (.cells #[.slice bo m.length bap,.bool u,.int .i64 d1,.string (str n1)] 37)
  have hfin : Hid (sameR (l,v,(d0,n0)) (m,u,(d1,n1)) = (decide (v = u) && (b && decide (l = m)))):=by
    rw [hb.out]
    unfold Hid sameR
    by_cases h1 : l = m <;> by_cases h2 : v = u <;> by_cases h3 : ((d0,n0) : Ty) = (d1,n1) <;> simp [h1,h2,h3]
  have hno : (v = u∧b = true∧l.length = m.length)∨¬ (v = u∧b = true∧l.length = m.length):=Classical.em _
  rcases hno with ⟨rfl,rfl,hlm⟩ | hno
  · have SA:=hid ((sig_new w (.slice ao l.length cap) v d0 n0).only ((Only.refl [] _).alloc (.cells #[.slice bo m.length bap,.bool v,.int .i64 d1,.string (str n1)] 37)) (by simp))
    have SB:=sig_new (w.alloc (.cells #[.slice ao l.length cap,.bool v,.int .i64 d0,.string (str n0)] 37)) (.slice bo m.length bap) v d1 n1
    rw [World.size_alloc] at SB
    rw [← hlm] at SB o1 SA ⊢
    replace SB:=hid SB
    replace hlm:=hid hlm
    simp only [Bool.not_true] at hq
    go_enter Tryz.func145,Tryz.ntmps145
    go_wp2
    go_loopw [5] (fun i wr=>∃ j : Nat,j≤l.length∧i = .int .i64 (j : Int)∧l.take j = m.take j∧SigAt wr w.heap.size (.slice ao l.length cap) v (d0,n0)∧SigAt wr (w.heap.size + 1) (.slice bo l.length bap) v (d1,n1)∧Only [] w wr) (fun i _=>l.length - (intOf i).toNat)
    case atStart=>exact ⟨0,by omega,rfl,by simp,SA.out,SB.out,o1⟩
    case round=>
      obtain ⟨j,hj,rfl,hpre,hSA,hSB,hor⟩:=hrel
      clear SA SB o1
      replace hSA:=hid hSA
      replace hSB:=hid hSB
      obtain ⟨a0,a1,a2,a3,_,_,_,_⟩:=hSA.out
      obtain ⟨e0,e1,e2,e3,_,_,_,_⟩:=hSB.out
      by_cases hlt : j < l.length
      · have g2 : ((j : Int) < (l.length : Int)):=by omega
        have hne : l≠[]:=by intro e; simp [e] at hlt
        have hlt2 : j < m.length:=by rw [← hlm.out]; exact hlt
        have hne2 : m≠[]:=by intro e; simp [e] at hlt2
        rcases hT.only hor (by simp) with h | ⟨off,rfl,hc⟩
        · exact absurd h hne
        rcases hM.only hor (by simp) with h | ⟨off2,rfl,hc2⟩
        · exact absurd h hne2
        obtain ⟨y0,y1⟩:=hc j hlt
        obtain ⟨z0,z1⟩:=hc2 j hlt2
        clear hc hc2 hT hM
        have hnx : l[j] = m[j]→l.take (j + 1) = m.take (j + 1):=by
          intro e
          rw [List.take_succ_eq_append_getElem hlt,List.take_succ_eq_append_getElem hlt2,hpre,e]
        have hno : l[j]≠m[j]→l≠m:=by
          intro e1 e2
          apply e1
          simp [e2]
        have hqt:=neq_type l[j] m[j]
        generalize l[j] = s at *
        generalize m[j] = t at *
        obtain ⟨sd,sn⟩:=s
        obtain ⟨td,tn⟩:=t
        simp only [tyV] at hqt
        clear hpre hne hne2 hlt2 hq
        by_cases hs : (sd,sn) = (td,tn)
        · have hnx:=hid (hnx hs)
          simp only [hs,decide_true,Bool.not_true] at hqt
          clear hs hno
          go_wp2_with fail
          go_region
          go_wp2
          exact ⟨⟨j + 1,by omega,by go_num,hnx.out,hSA.out.only (Only.refl [] _).drew (by simp),hSB.out.only (Only.refl [] _).drew (by simp),hor.drew⟩,by simp [intOf]; omega⟩
        · have e1 : Hid (decide (l = m) = false):=by simp [Hid,hno hs]
          simp only [hs,decide_false,Bool.not_false] at hqt
          clear hs hno hnx
          go_wp2_with fail
          go_region
          go_wp2
          go_ret
          exact ⟨by rw [hfin.out,e1.out]; simp,hor.drew⟩
      · have g2 : ¬ ((j : Int) < (l.length : Int)):=by omega
        obtain rfl : j = l.length:=by omega
        have e1 : Hid (decide (l = m) = true):=by
          rw [List.take_of_length_le (Nat.le_refl _),List.take_of_length_le (by rw [hlm.out]; exact Nat.le_refl _)] at hpre
          simp [Hid,hpre]
        clear hpre
        go_wp2
        go_ret
        exact ⟨by rw [hfin.out,e1.out]; simp,hor⟩
  · have e0 : Hid (sameR (l,v,(d0,n0)) (m,u,(d1,n1)) = false):=by
      unfold Hid
      rw [hfin.out]
      by_cases h1 : v = u
      · by_cases h2 : b = true
        · have h3 : l≠m:=fun e=>hno ⟨h1,h2,by rw [e]⟩
          simp [h3]
        · simp [h2]
      · simp [h1]
    rw [e0.out]
    by_cases h1 : v = u
    · subst h1
      by_cases h2 : b = true
      · subst h2
        have h3 : ¬ ((l.length : Int) = (m.length : Int)):=fun e=>hno ⟨rfl,rfl,by omega⟩
        have g3 : ((l.length : Int) == (m.length : Int)) = false:=by simpa using h3
        simp only [Bool.not_true] at hq
        clear hno h3
        go_enter Tryz.func145,Tryz.ntmps145
        go_wp2
        go_ret
        exact ⟨rfl,o1⟩
      · have h3 : b = false:=by simpa using h2
        subst h3
        simp only [Bool.not_false] at hq
        clear hno h2
        go_enter Tryz.func145,Tryz.ntmps145
        go_wp2
        go_ret
        exact ⟨rfl,o1⟩
    · have h3 : (v == u) = false:=by simpa using h1
      clear hno
      cases v <;> cases u
      all_goals first
        | exact absurd rfl h1
        | (clear h1 h3
           go_enter Tryz.func145,Tryz.ntmps145
           go_wp2
           go_ret
           exact ⟨rfl,o1⟩)


set_option maxHeartbeats 400000 in
set_option maxRecDepth 100000 in
theorem equal_any {w : World} {ao bo : Option Addr} {l m : List Ty} {d k cap bap : Nat} (hT : TS w ao l d) (hM : TS w bo m k) (hl : l.length≤9223372036854775807) :
  Calls Tryz.prog 168 #[.slice ao l.length cap,.slice bo m.length bap] w fun e w'=>e = .returned (.bool (decide (l = m)))∧Only [] w w':=by
 by_cases hq : l.length = m.length
 ·rw [← hq]
  replace hq:=hid hq
  go_enter Tryz.func168,Tryz.ntmps168
  go_wp2
  go_loopw [13] (fun i wr=>∃ j : Nat,j≤l.length∧i = .int .i64 (j : Int)∧l.take j = m.take j∧Only [] w wr) (fun i _=>l.length - (intOf i).toNat)
  case atStart=>exact ⟨0,by omega,rfl,by simp,Only.refl _ _⟩
  case round=>
   obtain ⟨j,hj,rfl,hpre,hor⟩:=hrel
   by_cases hlt : j < l.length
   ·have g2 : ((j : Int) < (l.length : Int)):=by omega
    have hne : l≠[]:=by intro e; simp [e] at hlt
    have hlt2 : j < m.length:=by rw [← hq.out]; exact hlt
    have hne2 : m≠[]:=by intro e; simp [e] at hlt2
    rcases hT.only hor (by simp) with h | ⟨off,rfl,hc⟩
    ·exact absurd h hne
    rcases hM.only hor (by simp) with h | ⟨off2,rfl,hc2⟩
    ·exact absurd h hne2
    obtain ⟨y0,y1⟩:=hc j hlt
    obtain ⟨z0,z1⟩:=hc2 j hlt2
    clear hc hc2 hT hM
    have hnx : l[j] = m[j]→l.take (j + 1) = m.take (j + 1):=by
     intro e
     rw [List.take_succ_eq_append_getElem hlt,List.take_succ_eq_append_getElem hlt2,hpre,e]
    have hno : l[j]≠m[j]→l≠m:=by
     intro e1 e2
     apply e1
     simp [e2]
    have hqt:=neq_type l[j] m[j]
    generalize l[j] = s at *
    generalize m[j] = t at *
    obtain ⟨d0,n0⟩:=s
    obtain ⟨d1,n1⟩:=t
    simp only [tyV] at hqt
    clear hpre hne hne2 hlt2
    by_cases hs : (d0,n0) = (d1,n1)
    ·have hnx:=hid (hnx hs)
     simp only [hs,decide_true,Bool.not_true] at hqt
     clear hs hno
     go_wp2_with fail
     go_region
     go_wp2
     exact ⟨⟨j + 1,by omega,by go_num,hnx.out,hor.drew⟩,by simp [intOf]; omega⟩
    ·have e1 : Hid (decide (l = m) = false):=by simp [Hid,hno hs]
     simp only [hs,decide_false,Bool.not_false] at hqt
     clear hs hno hnx
     go_wp2_with fail
     go_region
     go_wp2
     go_ret
     exact ⟨by rw [e1.out]; rfl,hor.drew⟩
   ·have g2 : ¬ ((j : Int) < (l.length : Int)):=by omega
    obtain rfl : j = l.length:=by omega
    have e1 : Hid (decide (l = m) = true):=by
     rw [List.take_of_length_le (Nat.le_refl _),List.take_of_length_le (by rw [hq.out]; exact Nat.le_refl _)] at hpre
     simp [Hid,hpre]
    clear hpre
    go_wp2
    go_ret
    exact ⟨by rw [e1.out]; rfl,hor⟩
 ·have g1 : ¬ ((l.length : Int) = (m.length : Int)):=by omega
  have g2 : ((l.length : Int) != (m.length : Int)) = true:=by simpa using g1
  have hne : ¬ (l = m):=fun e=>hq (by rw [e])
  have e1 : Hid (decide (l = m) = false):=by simp [Hid,hne]
  rw [e1.out]
  clear hne e1
  go_enter Tryz.func168,Tryz.ntmps168
  go_wp2
  go_ret
  exact ⟨rfl,Only.refl _ _⟩

set_option maxHeartbeats 400000 in
set_option maxRecDepth 100000 in
theorem same_any {w : World} {ao bo : Option Addr} {l m : List Ty} {d k cap bap : Nat} (hT : TS w ao l d) (hM : TS w bo m k) (hl : l.length≤9223372036854775807) (v u : Bool) (s t : Ty) :
  Calls Tryz.prog 123 #[sigV (.slice ao l.length cap) v s,sigV (.slice bo m.length bap) u t] w fun e w'=>e = .returned (.bool (sameR (l,v,s) (m,u,t)))∧Only [] w w':=by
 have hq:=eq_type s t
 have hst : ∃ b,b = decide (s = t):=⟨_,rfl⟩
 obtain ⟨b,hb⟩:=hst
 rw [← hb] at hq
 replace hb:=hid hb
 obtain ⟨d0,n0⟩:=s
 obtain ⟨d1,n1⟩:=t
 simp only [tyV] at hq
 simp only [sigV]
 have o1:=((Only.refl [] w).alloc (.cells #[.slice ao l.length cap,.bool v,.int .i64 d0,.string (str n0)] 37)).alloc (.cells #[.slice bo m.length bap,.bool u,.int .i64 d1,.string (str n1)] 37)
 have HE:=hid (equal_any (cap:=cap) (bap:=bap) (hT.only o1 (by simp)) (hM.only o1 (by simp)) hl)
 have hfin : Hid (sameR (l,v,(d0,n0)) (m,u,(d1,n1)) = (decide (v = u) && (b && decide (l = m)))):=by
  rw [hb.out]
  unfold Hid sameR
  by_cases h1 : l = m <;> by_cases h2 : v = u <;> by_cases h3 : ((d0,n0) : Ty) = (d1,n1) <;> simp [h1,h2,h3]
 cases v <;> cases u <;> cases b
 all_goals
  go_enter Tryz.func123,Tryz.ntmps123
  go_wp2_with (go_at_call 168; refine HE.out.mono ?_; rintro e w2 ⟨rfl,ho2⟩)
  go_ret
  first
   | exact ⟨by rw [hfin.out]; simp,o1.next ho2 (by simp)⟩
   | exact ⟨by rw [hfin.out]; simp,o1⟩


set_option maxHeartbeats 1000000 in
set_option maxRecDepth 100000 in
theorem wmethod_any {w : World} {ao : Option Addr} {l : List En} {d cap : Nat} (hE : ES w ao l d) (hl : l.length≤9223372036854775807) (hA : ∀ e∈l,e.2.1.length≤9223372036854775807) (locals : Int) (g : Value) (a op n s : Int) (hg : ∃ go m c,g = .slice go m c) :
  Calls Tryz.prog 197 #[.agg #[.slice ao l.length cap,.int .i64 locals,g],inV (a,op,n,s)] w fun e w'=>e = .returned (.int .i64 (methodW l op n))∧Only [] w w':=by
 obtain ⟨go,gm,gc,rfl⟩:=hg
 have o0:=((Only.refl [] w).alloc (.cells #[.slice ao l.length cap,.int .i64 locals,.slice go gm gc] 248)).alloc (.cells #[.int .i64 a,.int .i64 op,.int .i64 n,.int .i64 s] 250)
 have I0:=hid (inAt_new (w.alloc (.cells #[.slice ao l.length cap,.int .i64 locals,.slice go gm gc] 248)) a op n s 250)
 rw [World.size_alloc] at I0
 have HM:=pmethod_any (cap:=cap) (hE.only o0 (by simp)) hl hA n
 unfold methodW
 generalize methodR l n = X at *
 obtain ⟨⟨xc,nm,ps,void,td,tn⟩,er⟩:=X
 simp only [inV,sigV] at HM ⊢
 clear hE hA
 have hst:=str_toList nm
 have hci : (⟨#[60,105,110,105,116,62]⟩ : ByteArray).toList = initL:=str_toList initL
 replace HM:=hid HM
 by_cases he : er = 0
 ·subst he
  rw [if_pos rfl]
  by_cases hn : nm = initL
  ·subst hn
   rw [decide_eq_true rfl]
   have gn : (initL == initL) = true:=by decide
   generalize initL = nm at *
   by_cases h41 : op = 41
   ·subst h41
    rw [if_pos (by decide)]
    cases void with
    | true=>
     rw [if_neg (by simp)]
     go_enter Tryz.func197,Tryz.ntmps197
     go_wp2_with (go_at_call 215; refine HM.out.mono ?_; rintro e w1 ⟨vo,vc,rfl,hown,ho1⟩; clear hown; obtain ⟨c0,c1,c2,c3⟩:=(I0.out.only ho1 (by simp)).alloc (.cells #[.slice vo ps.length vc,.bool true,.int .i64 td,.string (str tn)] 37); simp only [Nat.zero_add] at c1 c2 c3)
     go_ret
     exact ⟨by simp,(o0.next ho1 (by simp)).alloc _⟩
    | false=>
     rw [if_pos (by simp)]
     go_enter Tryz.func197,Tryz.ntmps197
     go_wp2_with (go_at_call 215; refine HM.out.mono ?_; rintro e w1 ⟨vo,vc,rfl,hown,ho1⟩; clear hown; obtain ⟨c0,c1,c2,c3⟩:=(I0.out.only ho1 (by simp)).alloc (.cells #[.slice vo ps.length vc,.bool false,.int .i64 td,.string (str tn)] 37); simp only [Nat.zero_add] at c1 c2 c3)
     go_ret
     exact ⟨by simp,(o0.next ho1 (by simp)).alloc _⟩
   ·have g41 : (op == 41) = false:=by simpa using h41
    have e1 : Hid (decide (op = 41) = false):=decide_eq_false h41
    rw [e1.out]
    go_enter Tryz.func197,Tryz.ntmps197
    go_wp2_with (go_at_call 215; refine HM.out.mono ?_; rintro e w1 ⟨vo,vc,rfl,hown,ho1⟩; clear hown; obtain ⟨c0,c1,c2,c3⟩:=(I0.out.only ho1 (by simp)).alloc (.cells #[.slice vo ps.length vc,.bool void,.int .i64 td,.string (str tn)] 37); simp only [Nat.zero_add] at c1 c2 c3)
    go_ret
    exact ⟨by simp,(o0.next ho1 (by simp)).alloc _⟩
  ·have gn : (nm == initL) = false:=by simpa using hn
   rw [decide_eq_false hn]
   by_cases h41 : op = 41
   ·subst h41
    go_enter Tryz.func197,Tryz.ntmps197
    go_wp2_with (go_at_call 215; refine HM.out.mono ?_; rintro e w1 ⟨vo,vc,rfl,hown,ho1⟩; clear hown; obtain ⟨c0,c1,c2,c3⟩:=(I0.out.only ho1 (by simp)).alloc (.cells #[.slice vo ps.length vc,.bool void,.int .i64 td,.string (str tn)] 37); simp only [Nat.zero_add] at c1 c2 c3)
    go_ret
    exact ⟨by simp,(o0.next ho1 (by simp)).alloc _⟩
   ·have g41 : (op == 41) = false:=by simpa using h41
    have e1 : Hid (decide (op = 41) = false):=decide_eq_false h41
    rw [e1.out]
    go_enter Tryz.func197,Tryz.ntmps197
    go_wp2_with (go_at_call 215; refine HM.out.mono ?_; rintro e w1 ⟨vo,vc,rfl,hown,ho1⟩; clear hown; obtain ⟨c0,c1,c2,c3⟩:=(I0.out.only ho1 (by simp)).alloc (.cells #[.slice vo ps.length vc,.bool void,.int .i64 td,.string (str tn)] 37); simp only [Nat.zero_add] at c1 c2 c3)
    go_ret
    exact ⟨by simp,(o0.next ho1 (by simp)).alloc _⟩
 ·have ge : (er == 0) = false:=by simpa using he
  rw [if_neg he]
  go_enter Tryz.func197,Tryz.ntmps197
  go_wp2_with (go_at_call 215; refine HM.out.mono ?_; rintro e w1 ⟨vo,vc,rfl,hown,ho1⟩; clear hown)
  go_ret
  exact ⟨rfl,(o0.next ho1 (by simp)).alloc _⟩

set_option maxHeartbeats 1000000 in
set_option maxRecDepth 100000 in
theorem wrong_in {w : World} {ao go : Option Addr} {l : List En} {bl : List Bool} {d dg cap gc : Nat} (hE : ES w ao l d) (hl : l.length≤9223372036854775807) (hA : ∀ e∈l,e.2.1.length≤9223372036854775807) (hG : RS w go (lcs bl) dg) (_ : bl.length≤9223372036854775807) (locals a op n s : Int) (hn : 0≤n) :
  Calls Tryz.prog 170 #[.agg #[.slice ao l.length cap,.int .i64 locals,.slice go bl.length gc],inV (a,op,n,s)] w fun e w'=>e = .returned (.int .i64 (wrongB bl l locals (a,op,n,s)))∧Only [] w w':=by
 have o0:=((Only.refl [] w).alloc (.cells #[.slice ao l.length cap,.int .i64 locals,.slice go bl.length gc] 248)).alloc (.cells #[.int .i64 a,.int .i64 op,.int .i64 n,.int .i64 s] 250)
 have HR:=row_any op ((w.alloc (.cells #[.slice ao l.length cap,.int .i64 locals,.slice go bl.length gc] 248)).alloc (.cells #[.int .i64 a,.int .i64 op,.int .i64 n,.int .i64 s] 250))
 have hE0:=hE.only o0 (by simp)
 have H3:=hid (pnumber_any (cap:=cap) hE0 hl hA n)
 have H5:=hid (pclass_any (cap:=cap) hE0 hl hA n)
 have H6:=hid (pfield_any (cap:=cap) hE0 hl hA n)
 have H7:=hid (fun hr=>wtype_any (cap:=cap) hE0 hl hA locals (.slice go bl.length gc) a op n s hr ⟨_,_,_,rfl⟩)
 have H8:=hid (wmethod_any (cap:=cap) hE0 hl hA locals (.slice go bl.length gc) a op n s ⟨_,_,_,rfl⟩)
 obtain ⟨_,_,r0,r8⟩:=row_op op
 have ew : wrongB bl l locals (a,op,n,s) = if rowI op = 2 then (if locals≤n then 43 else 0) else if rowI op = 4 then (if bl.getD n.toNat false = true then 0 else 18) else if rowI op = 3 then (numberR l n).2 else if rowI op = 5 then (classR l n).2 else if rowI op = 6 then (fieldR l n).2 else if rowI op = 7 then typeW l op n else if rowI op = 8 then methodW l op n else 0:=rfl
 rw [ew]
 clear ew hE hE0 hA
 simp only [inV] at H7 H8 ⊢
 generalize rowI op = r at *
 generalize numberR l n = X3 at *
 generalize classR l n = X5 at *
 generalize fieldR l n = X6 at *
 generalize typeW l op n = X7 at *
 generalize methodW l op n = X8 at *
 obtain ⟨x3,e3⟩:=X3
 obtain ⟨x5,e5⟩:=X5
 obtain ⟨⟨x6,y6,z6⟩,e6⟩:=X6
 simp only [tyV] at H3 H5 H6 ⊢
 replace HR:=hid HR
 rcases (by omega : r = 0∨r = 1∨r = 2∨r = 3∨r = 4∨r = 5∨r = 6∨r = 7∨r = 8) with rfl | rfl | rfl | rfl | rfl | rfl | rfl | rfl | rfl
 ·clear H3 H5 H6 H7 H8
  go_enter Tryz.func170,Tryz.ntmps170
  go_wp2_with (go_at_call 192; refine HR.out.mono ?_; rintro e w' ⟨rfl,rfl⟩)
  go_ret
  exact ⟨rfl,o0⟩
 ·clear H3 H5 H6 H7 H8
  go_enter Tryz.func170,Tryz.ntmps170
  go_wp2_with (go_at_call 192; refine HR.out.mono ?_; rintro e w' ⟨rfl,rfl⟩)
  go_ret
  exact ⟨rfl,o0⟩
 ·clear H3 H5 H6 H7 H8
  rw [if_pos rfl]
  by_cases h : locals≤n
  ·rw [if_pos h]
   go_enter Tryz.func170,Tryz.ntmps170
   go_wp2_with (go_at_call 192; refine HR.out.mono ?_; rintro e w' ⟨rfl,rfl⟩)
   go_ret
   exact ⟨rfl,o0⟩
  ·rw [if_neg h]
   go_enter Tryz.func170,Tryz.ntmps170
   go_wp2_with (go_at_call 192; refine HR.out.mono ?_; rintro e w' ⟨rfl,rfl⟩)
   go_ret
   exact ⟨rfl,o0⟩
 ·clear H5 H6 H7 H8
  go_enter Tryz.func170,Tryz.ntmps170
  go_wp2_with (first | (go_at_call 192; refine HR.out.mono ?_; rintro e w' ⟨rfl,rfl⟩) | (go_at_call 193; refine H3.out.mono ?_; rintro e w2 ⟨rfl,ho2⟩))
  go_ret
  exact ⟨rfl,o0.next ho2 (by simp)⟩
 ·clear H3 H5 H6 H7 H8
  rw [if_neg (by decide),if_pos rfl]
  obtain ⟨k,rfl⟩ : ∃ k : Nat,n = (k : Int):=⟨n.toNat,by omega⟩
  rw [Int.toNat_natCast]
  by_cases hk : k < bl.length
  ·obtain ⟨off,rfl,hc⟩:=(hG.only0 o0).at (j:=k) (by rw [lcs_length]; omega)
   have y0:=hc k _ (lcs_get bl k hk)
   have g1 : ¬ ((bl.length : Int)≤(k : Int)):=by omega
   have g2 : ((k : Int) < (bl.length : Int)):=by omega
   have eg : bl.getD k false = bl[k]:=by simp [List.getD,hk]
   rw [eg]
   clear hc hG eg
   generalize bl[k] = z at *
   cases z with
   | true=>
    go_enter Tryz.func170,Tryz.ntmps170
    go_wp2_with (go_at_call 192; refine HR.out.mono ?_; rintro e w' ⟨rfl,rfl⟩)
    go_ret
    exact ⟨rfl,o0⟩
   | false=>
    go_enter Tryz.func170,Tryz.ntmps170
    go_wp2_with (go_at_call 192; refine HR.out.mono ?_; rintro e w' ⟨rfl,rfl⟩)
    go_ret
    exact ⟨rfl,o0⟩
  ·have g1 : ((bl.length : Int)≤(k : Int)):=by omega
   have eg : bl.getD k false = false:=by simp [List.getD,List.getElem?_eq_none (Nat.le_of_not_lt hk)]
   rw [eg]
   clear hG eg
   go_enter Tryz.func170,Tryz.ntmps170
   go_wp2_with (go_at_call 192; refine HR.out.mono ?_; rintro e w' ⟨rfl,rfl⟩)
   go_ret
   exact ⟨rfl,o0⟩
 ·clear H3 H6 H7 H8
  go_enter Tryz.func170,Tryz.ntmps170
  go_wp2_with (first | (go_at_call 192; refine HR.out.mono ?_; rintro e w' ⟨rfl,rfl⟩) | (go_at_call 194; refine H5.out.mono ?_; rintro e w2 ⟨rfl,ho2⟩))
  go_ret
  exact ⟨rfl,o0.next ho2 (by simp)⟩
 ·clear H3 H5 H7 H8
  go_enter Tryz.func170,Tryz.ntmps170
  go_wp2_with (first | (go_at_call 192; refine HR.out.mono ?_; rintro e w' ⟨rfl,rfl⟩) | (go_at_call 195; refine H6.out.mono ?_; rintro e w2 ⟨rfl,ho2⟩))
  go_ret
  exact ⟨rfl,o0.next ho2 (by simp)⟩
 ·clear H3 H5 H6 H8
  replace H7:=hid (H7.out rfl)
  go_enter Tryz.func170,Tryz.ntmps170
  go_wp2_with (first | (go_at_call 192; refine HR.out.mono ?_; rintro e w' ⟨rfl,rfl⟩) | (go_at_call 196; refine H7.out.mono ?_; rintro e w2 ⟨rfl,ho2⟩))
  go_ret
  exact ⟨rfl,o0.next ho2 (by simp)⟩
 ·clear H3 H5 H6 H7
  go_enter Tryz.func170,Tryz.ntmps170
  go_wp2_with (first | (go_at_call 192; refine HR.out.mono ?_; rintro e w' ⟨rfl,rfl⟩) | (go_at_call 197; refine H8.out.mono ?_; rintro e w2 ⟨rfl,ho2⟩))
  go_ret
  exact ⟨rfl,o0.next ho2 (by simp)⟩

end Go.Proofs.YtildemmkhndhjaaGreatDoor
