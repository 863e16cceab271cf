/-
  What the proof leans on, part 8 of 48. The conditions stand in each theorem.
-/
import Derived.Test.YtildemmkhndhjaaGreatDoorB07
import Derived.Test.YtildemmkhndhjaaGreatDoorB03
import Derived.Test.YtildemmkhndhjaaGreatDoorB06
import Derived.Test.YtildemmkhndhjaaGreatDoorB01
import Derived.Lib.Builder
import Derived.Lib.FrozenHead
import Derived.Lib.FrozenHead2
import Derived.Lib.OthersKept
import Derived.Lib.AppendStr
import Derived.Lib.Repeat
import Derived.Test.YtildemmkhndhjaaGreatDoorB02
namespace Go.Proofs.YtildemmkhndhjaaGreatDoor
open Go.RowKit

set_option maxHeartbeats 400000 in
set_option maxRecDepth 100000 in
theorem pcheck_any {w : World} {ao : Option Addr} {l : List En} {d cap : Nat} (hE : ES w ao l d) (hl : l.length≤9223372036854775807) (hA : ∀ e∈l,e.2.1.length≤9223372036854775807) :
  Calls Tryz.prog 19 #[.slice ao l.length cap] w fun r w'=>r = .returned (.tuple #[.int .i64 (checkE l).1,.int .i64 (checkE l).2])∧Only [] w w':=by
 have hx : ∃ x,x = checkE l:=⟨_,rfl⟩
 obtain ⟨x,hx⟩:=hx
 rw [← hx]
 by_cases h : 4096 < l.length
 ·have g1 : (4096 < (l.length : Int)):=by omega
  have e1 : x = (4096,4):=by rw [hx]; simp [checkE,h]
  subst e1
  clear hx h
  go_enter Tryz.func19,Tryz.ntmps19
  go_wp2
  go_ret2
  exact ⟨rfl,Only.refl _ _⟩
 ·have g1 : ¬ (4096 < (l.length : Int)):=by omega
  have e1 : x = firstWrong l l 0:=by rw [hx]; simp [checkE,h]
  clear hx
  replace e1:=hid e1
  go_enter Tryz.func19,Tryz.ntmps19
  go_wp2
  go_loopw [11] (fun i wr=>∃ k : Nat,k≤l.length∧i = .int .i64 (k : Int)∧(∀ j (hj : j < l.length),j < k→wrongE l l[j] = 0)∧Only [] w wr) (fun i _=>l.length - (intOf i).toNat)
  case atStart=>exact ⟨0,by omega,rfl,fun j _ h=>by omega,Only.refl _ _⟩
  case round=>
   obtain ⟨k,hk,rfl,hok,hor⟩:=hrel
   by_cases hlt : k < l.length
   ·have g2 : ((k : Int) < (l.length : Int)):=by omega
    have HW:=wrong_any (cap:=cap) (hE.only hor (by simp)) hl hA k hlt
    by_cases hz : wrongE l l[k] = 0
    ·rw [hz] at HW
     have hnx : ∀ j (hj : j < l.length),j < k + 1→wrongE l l[j] = 0:=by
      intro j hj hjk
      by_cases e : j = k
      ·subst e
       exact hz
      ·exact hok j hj (by omega)
     clear hok hz
     replace hnx:=hid hnx
     replace HW:=hid HW
     go_wp2_with (go_at_call 45; refine HW.out.mono ?_; rintro e w2 ⟨rfl,ho2⟩)
     exact ⟨⟨k + 1,by omega,by go_num,hnx.out,hor.next ho2 (by simp)⟩,by simp [intOf]; omega⟩
    ·have hat:=firstWrong_at (l:=l) (r:=l) (i:=0) hlt (fun j hj=>hok j (by omega) hj) hz
     rw [← e1.out] at hat
     generalize wrongE l l[k] = c at *
     have g3 : (c == 0) = false:=by simpa using hz
     replace hat:=hid hat
     clear hok hz
     replace HW:=hid HW
     go_wp2_with (go_at_call 45; refine HW.out.mono ?_; rintro e w2 ⟨rfl,ho2⟩)
     go_ret2
     exact ⟨by rw [hat.out]; simp,hor.next ho2 (by simp)⟩
   ·have g2 : ¬ ((k : Int) < (l.length : Int)):=by omega
    obtain rfl : k = l.length:=by omega
    have hall:=firstWrong_ok (l:=l) (r:=l) (i:=0) fun e he=>by
     obtain ⟨j,hj,rfl⟩:=List.getElem_of_mem he
     exact hok j hj hj
    rw [← e1.out] at hall
    clear hok
    replace hall:=hid hall
    go_wp2
    go_ret2
    exact ⟨by rw [hall.out]; rfl,hor⟩

/-- An entry of one's own in a block. -/
structure EnW (w : World) (b : Nat) (e : En) : Prop where
 c : EnAt w b 0 e
 f : ∀ i,i < 6→w.frozen? ⟨b,i,none⟩ = false

theorem enW_new (w : World) (e : En) (t : TypeId) : EnW (w.alloc (.cells #[.int .i64 e.1,.string (str e.2.1),.int .i64 e.2.2.1,.int .i64 e.2.2.2.1,.int .i64 e.2.2.2.2.1,.int .i64 e.2.2.2.2.2] t)) w.heap.size e:=
 ⟨enAt_new w e t,fun _ _=>frozen_new _ _ _ _⟩

theorem EnW.only {w w' : World} {S : List Nat} {b : Nat} {e : En} (h : EnW w b e) (ho : Only S w w') (hb : b ∉ S) : EnW w' b e:=
 ⟨h.c.only ho hb,fun i hi=>by rw [ho.frozen h.c.lt hb]; exact h.f i hi⟩

theorem right_result {w : World} {b : Nat} {e : En} {x : Value} (h : EnAt w b 0 e) (tmps : Array Value) (h2 : tmps.getD 6 undef = .pointer (some ⟨b,0,none⟩)) (h3 : tmps.getD 7 undef = x) :
  (results Tryz.f211 tmps).run Tryz.prog w = .ok (.tuple #[enV e,x]) w:=by
 obtain ⟨c0,c1,c2,c3,c4,c5⟩:=h
 simp only [Nat.zero_add] at c0 c1 c2 c3 c4 c5
 rw [results_cell_tmp (p:=6) (u:=7) (ty:=90) Tryz.results211,h2,h3]
 simp [go_sem,c0,c1,c2,c3,c4,c5,enV]

set_option maxHeartbeats 400000 in
set_option maxRecDepth 100000 in
theorem right_any {w : World} {ao : Option Addr} {l : List En} {d cap : Nat} (hE : ES w ao l d) (hl : l.length≤9223372036854775807) (hA : ∀ e∈l,e.2.1.length≤9223372036854775807) (i kind : Int) :
  Calls Tryz.prog 211 #[.slice ao l.length cap,.int .i64 i,.int .i64 kind] w fun r w'=>r = .returned (.tuple #[enV (rightE l i kind).1,.int .i64 (rightE l i kind).2])∧Only [] w w':=by
 have o0:=(Only.refl [] w).alloc (.cells #[.int .i64 0,.string ⟨#[]⟩,.int .i64 0,.int .i64 0,.int .i64 0,.int .i64 0] 90)
 have HH:=has_any' (cap:=cap) (hE.only o0 (by simp)) hl i kind
 have E0:=enW_new w en0 90
 simp only [en0] at E0
 cases h : hasE l i kind with
 | false=>
  have e1 : rightE l i kind = (en0,16):=by
   unfold rightE
   unfold hasE at h
   cases he : enAt l i with
   | none=>rfl
   | some e=>
    rw [he] at h
    simp at h
    simp [h]
  rw [e1]
  rw [h] at HH
  simp only [enV,en0]
  clear h e1 hE
  replace HH:=hid HH
  replace E0:=hid E0
  go_enter Tryz.func211,Tryz.ntmps211
  go_wp2_with (go_at_call 158; refine HH.out.mono ?_; rintro e w' ⟨rfl,rfl⟩)
  exact bodyPost_ret (right_result E0.out.c _ rfl rfl) rfl ⟨rfl,o0⟩
 | true=>
  obtain ⟨e,he,hk⟩:=hasE_kind h
  obtain ⟨j,hj,rfl,rfl⟩:=enAt_some he
  have e1 : rightE l (j : Int) kind = if wrongE l l[j] = 0 then (l[j],0) else (en0,wrongE l l[j]):=by
   unfold rightE
   rw [he]
   simp only [hk,if_true]
  rw [e1]
  rw [h] at HH
  clear e1 h hk he
  have HW:=wrong_any (cap:=cap) (hE.only o0 (by simp)) hl hA j hj
  have hJ:=fun W (hW : Only [] w W)=>(hE.only hW (by simp)).at hj
  have g2 : ((j : Int) < (l.length : Int)):=by omega
  generalize wrongE l l[j] = c at *
  generalize l[j] = e at *
  clear hE
  obtain ⟨k,t,n,a,b,z⟩:=e
  replace HH:=hid HH
  replace E0:=hid E0
  replace HW:=hid HW
  replace hJ:=hid hJ
  by_cases hc : c = 0
  ·subst hc
   simp only [if_true,enV]
   go_enter Tryz.func211,Tryz.ntmps211
   go_wp2_with (first | (go_at_call 158; refine HH.out.mono ?_; rintro e w' ⟨rfl,rfl⟩) | fail)
   refine HW.out.mono ?_
   rintro e w1 ⟨rfl,ho1⟩
   have o1:=o0.next ho1 (by simp)
   obtain ⟨off,rfl,y0,y1,y2,y3,y4,y5⟩:=hJ.out w1 o1
   have E1:=E0.out.only ho1 (by simp)
   have f0:=E1.f 0 (by omega)
   have f1:=E1.f 1 (by omega)
   have f2:=E1.f 2 (by omega)
   have f3:=E1.f 3 (by omega)
   have f4:=E1.f 4 (by omega)
   have f5:=E1.f 5 (by omega)
   obtain ⟨⟨e0,e1,e2,e3,e4,e5⟩,_⟩:=E1
   simp only [Nat.zero_add] at e0 e1 e2 e3 e4 e5
   have K1:=hid (E0.out.only ho1 (by simp))
   go_wp2
   exact bodyPost_ret (right_result (K1.out.c.put (k,t,n,a,b,z)) _ rfl rfl) rfl ⟨rfl,put6_only o1 (.inr (by simp)) _ _ _ _ _ _⟩
  ·have g3 : (c == 0) = false:=by simpa using hc
   simp only [hc,if_false,enV,en0]
   clear hc
   go_enter Tryz.func211,Tryz.ntmps211
   go_wp2_with (first | (go_at_call 158; refine HH.out.mono ?_; rintro e w' ⟨rfl,rfl⟩) | fail)
   refine HW.out.mono ?_
   rintro e w1 ⟨rfl,ho1⟩
   have o1:=o0.next ho1 (by simp)
   have E1:=E0.out.only ho1 (by simp)
   have f0:=E1.f 0 (by omega)
   have f1:=E1.f 1 (by omega)
   have f2:=E1.f 2 (by omega)
   have f3:=E1.f 3 (by omega)
   have f4:=E1.f 4 (by omega)
   have f5:=E1.f 5 (by omega)
   obtain ⟨⟨e0,e1,e2,e3,e4,e5⟩,_⟩:=E1
   simp only [Nat.zero_add] at e0 e1 e2 e3 e4 e5
   have K1:=hid (E0.out.only ho1 (by simp))
   go_wp2
   exact bodyPost_ret (right_result (K1.out.c.put (0,[],0,0,0,0)) _ rfl rfl) rfl ⟨rfl,put6_only o1 (.inr (by simp)) _ _ _ _ _ _⟩


theorem text_mem {l : List En} {i : Int} {s : List UInt8} (h : textAt l i = some s) : ∃ e∈l,e.2.1 = s:=by
 obtain ⟨e,he,_,rfl⟩:=textAt_some h
 obtain ⟨j,hj,_,rfl⟩:=enAt_some he
 exact ⟨_,List.getElem_mem hj,rfl⟩

set_option maxHeartbeats 400000 in
set_option maxRecDepth 100000 in
theorem pnumber_any {w : World} {ao : Option Addr} {l : List En} {d cap : Nat} (hE : ES w ao l d) (hl : l.length≤9223372036854775807) (hA : ∀ e∈l,e.2.1.length≤9223372036854775807) (i : Int) :
  Calls Tryz.prog 193 #[.slice ao l.length cap,.int .i64 i] w fun r w'=>r = .returned (.tuple #[.int .i64 (numberR l i).1,.int .i64 (numberR l i).2])∧Only [] w w':=by
 have HR:=right_any (cap:=cap) hE hl hA i 2
 unfold numberR
 generalize rightE l i 2 = X at *
 obtain ⟨⟨k,t,n,a,b,c⟩,er⟩:=X
 simp only [enV] at HR ⊢
 clear hE hA
 replace HR:=hid HR
 go_enter Tryz.func193,Tryz.ntmps193
 go_wp2_with (go_at_call 211; refine HR.out.mono ?_; rintro e w1 ⟨rfl,ho1⟩)
 go_ret2
 exact ⟨rfl,ho1.alloc _⟩

set_option maxHeartbeats 400000 in
set_option maxRecDepth 100000 in
theorem pclass_any {w : World} {ao : Option Addr} {l : List En} {d cap : Nat} (hE : ES w ao l d) (hl : l.length≤9223372036854775807) (hA : ∀ e∈l,e.2.1.length≤9223372036854775807) (i : Int) :
  Calls Tryz.prog 194 #[.slice ao l.length cap,.int .i64 i] w fun r w'=>r = .returned (.tuple #[.string (str (classR l i).1),.int .i64 (classR l i).2])∧Only [] w w':=by
 have HR:=right_any (cap:=cap) hE hl hA i 3
 by_cases h0 : (rightE l i 3).2 = 0
 ·obtain ⟨e,he,hk,hw,hR⟩:=right_ok h0
  obtain ⟨s,hs,_⟩:=wrong_class hw hk
  have e1 : classR l i = (s,0):=by
   unfold classR
   rw [hR]
   simp [textAt_textOf hs]
  rw [e1]
  rw [hR] at HR
  have hJ:=fun W (hW : Only [] w W)=>text_cell (hE.only hW (by simp)) hs
  obtain ⟨k,t,n,a,b,c⟩:=e
  simp only [enV] at HR hJ ⊢
  clear hE hA h0 he hk hw hR hs e1
  replace HR:=hid HR
  replace hJ:=hid hJ
  go_enter Tryz.func194,Tryz.ntmps194
  go_wp2_with fail
  refine HR.out.mono ?_
  rintro e w1 ⟨rfl,ho1⟩
  obtain ⟨j,off,rfl,hj,rfl,hc,_⟩:=hJ.out w1 ho1
  have hc' : ∀ o,(w1.alloc o).cell? ⟨d,off + j * 6 + 1,none⟩ = some (.string (str s)):=fun o=>cell_alloc o hc
  have g2 : ((j : Int) < (l.length : Int)):=by omega
  go_wp2
  go_ret2
  exact ⟨rfl,ho1.alloc _⟩
 ·have e1 : classR l i = ([],(rightE l i 3).2):=by simp [classR,h0]
  rw [e1]
  generalize rightE l i 3 = X at *
  obtain ⟨⟨k,t,n,a,b,c⟩,er⟩:=X
  simp only [enV] at HR h0 ⊢
  have g3 : (er == 0) = false:=by simpa using h0
  clear hE hA h0 e1
  replace HR:=hid HR
  go_enter Tryz.func194,Tryz.ntmps194
  go_wp2_with fail
  refine HR.out.mono ?_
  rintro e w1 ⟨rfl,ho1⟩
  go_wp2
  go_ret2
  exact ⟨rfl,ho1.alloc _⟩

theorem ptype_result {w : World} {b : Nat} {t : Ty} {x : Value} (h : TyAt w b t) (tmps : Array Value) (h2 : tmps.getD 4 undef = .pointer (some ⟨b,0,none⟩)) (h3 : tmps.getD 5 undef = x) :
  (results Tryz.f213 tmps).run Tryz.prog w = .ok (.tuple #[tyV t,x]) w:=by
 obtain ⟨c0,c1,_,_⟩:=h
 rw [results_cell_tmp (p:=4) (u:=5) (ty:=35) Tryz.results213,h2,h3]
 simp [go_sem,c0,c1,tyV]

theorem tyAt_new' (w : World) (d : Int) (n : List UInt8) : TyAt (w.alloc (.cells #[.int .i64 d,.string (str n)] 35)) w.heap.size (d,n):=
 ⟨by rw [cell_new]; rfl,by rw [cell_new]; rfl,frozen_new _ _ _ _,frozen_new _ _ _ _⟩

set_option maxHeartbeats 400000 in
set_option maxRecDepth 100000 in
theorem ptype_any {w : World} {ao : Option Addr} {l : List En} {d cap : Nat} (hE : ES w ao l d) (hl : l.length≤9223372036854775807) (hA : ∀ e∈l,e.2.1.length≤9223372036854775807) (i : Int) :
  Calls Tryz.prog 213 #[.slice ao l.length cap,.int .i64 i] w fun r w'=>r = .returned (.tuple #[tyV (typeAtR l i).1,.int .i64 (typeAtR l i).2])∧Only [] w w':=by
 have o0:=(Only.refl [] w).alloc (.cells #[.int .i64 0,.string ⟨#[]⟩] 35)
 have T0:=tyAt_new' w 0 []
 have HR:=right_any (cap:=cap) (hE.only o0 (by simp)) hl hA i 4
 by_cases h0 : (rightE l i 4).2 = 0
 ·obtain ⟨e,he,hk,hw,hR⟩:=right_ok h0
  obtain ⟨s,hs,hz⟩:=wrong_type hw hk
  have e1 : typeAtR l i = typeR s:=by
   unfold typeAtR
   rw [hR]
   simp [textAt_textOf hs]
  rw [e1]
  rw [hR] at HR
  have hJ:=fun W (hW : Only [] w W)=>text_cell (hE.only hW (by simp)) hs
  have hm:=text_mem hs
  have HT:=fun W=>type_any s (byte_text hA hm) W
  obtain ⟨k,t,n,a,b,c⟩:=e
  generalize typeR s = X at *
  obtain ⟨⟨xd,xn⟩,xe⟩:=X
  simp only at hz
  subst hz
  simp only [enV,tyV] at HR hJ HT ⊢
  clear hE hA h0 he hk hw hR hs e1 hm
  replace HR:=hid HR
  replace hJ:=hid hJ
  replace HT:=hid HT
  replace T0:=hid T0
  go_enter Tryz.func213,Tryz.ntmps213
  go_wp2_with fail
  refine HR.out.mono ?_
  rintro e w1 ⟨rfl,ho1⟩
  have o1:=o0.next ho1 (by simp)
  obtain ⟨j,off,rfl,hj,rfl,hc,_⟩:=hJ.out w1 o1
  have hc' : ∀ o,(w1.alloc o).cell? ⟨d,off + j * 6 + 1,none⟩ = some (.string (str s)):=fun o=>cell_alloc o hc
  have g2 : ((j : Int) < (l.length : Int)):=by omega
  go_wp2_with fail
  refine (HT.out _).mono ?_
  rintro e w2 ⟨rfl,ho2⟩
  have hB : w.heap.size < w1.heap.size:=by have:=ho1.size; simp at this; omega
  have T1:=hid (((T0.out.only ho1 (by simp)).only ((Only.refl [] w1).alloc (.cells #[.int .i64 k,.string (str t),.int .i64 n,.int .i64 (j : Int),.int .i64 b,.int .i64 c] 90)) (by simp)).only ho2 (by simp))
  obtain ⟨t0,t1,f0,f1⟩:=T1.out
  go_wp2
  exact bodyPost_ret (ptype_result (T1.out.put xd xn) _ rfl rfl) rfl ⟨rfl,(((o1.alloc _).next ho2 (by simp)).setCell (.inr (by simp)) _).setCell (.inr (by simp)) _⟩
 ·have e1 : typeAtR l i = ((0,[]),(rightE l i 4).2):=by simp [typeAtR,h0]
  rw [e1]
  generalize rightE l i 4 = X at *
  obtain ⟨⟨k,t,n,a,b,c⟩,er⟩:=X
  simp only [enV,tyV] at HR h0 ⊢
  have g3 : (er == 0) = false:=by simpa using h0
  clear hE hA h0 e1
  replace HR:=hid HR
  replace T0:=hid T0
  go_enter Tryz.func213,Tryz.ntmps213
  go_wp2_with fail
  refine HR.out.mono ?_
  rintro e w1 ⟨rfl,ho1⟩
  have o1:=o0.next ho1 (by simp)
  have hB : w.heap.size < w1.heap.size:=by have:=ho1.size; simp at this; omega
  have T1:=hid (T0.out.only ho1 (by simp))
  obtain ⟨s0,s1,r0,r1⟩:=T0.out.only ho1 (by simp)
  have t0:=fun o=>cell_alloc o (T0.out.only ho1 (by simp)).c0
  have t1:=fun o=>cell_alloc o (T0.out.only ho1 (by simp)).c1
  have f0 : ∀ o,(w1.alloc o).frozen? ⟨w.heap.size,0,none⟩ = false:=fun o=>by rw [frozen_alloc o hB]; exact (T0.out.only ho1 (by simp)).f0
  have f1 : ∀ o,(w1.alloc o).frozen? ⟨w.heap.size,1,none⟩ = false:=fun o=>by rw [frozen_alloc o hB]; exact (T0.out.only ho1 (by simp)).f1
  go_wp2
  exact bodyPost_ret (ptype_result ((T1.out.put 0 []).only ((Only.refl [] _).alloc _) (by simp)) _ rfl rfl) rfl ⟨rfl,((o1.setCell (.inr (by simp)) _).setCell (.inr (by simp)) _).alloc _⟩


theorem results_tmp4 {fn : Func} {t u v x : Tmp} (h : fn.results = #[.tmp t,.tmp u,.tmp v,.tmp x]) (tmps : Array Value) (P : Program) (w : World) :
  (results fn tmps).run P w = .ok (.tuple #[tmps.getD t undef,tmps.getD u undef,tmps.getD v undef,tmps.getD x undef]) w:=by
 simp only [results,h]
 simp

theorem results_ttct {fn : Func} {p q r u : Tmp} {ty : TypeId} (h : fn.results = #[.tmp p,.tmp q,.cell r ty,.tmp u]) (tmps : Array Value) (P : Program) (w : World) :
  (results fn tmps).run P w =
   ((asAddr (tmps.getD r undef)).run P w).andThen fun a w₁=>((loadVar ty a).run P w₁).andThen fun v w₂=>.ok (.tuple #[tmps.getD p undef,tmps.getD q undef,v,tmps.getD u undef]) w₂:=by
 simp only [results,h]
 simp [Sem.run_bind,Result.andThen]

theorem wrong_member {l : List En} {e : En} {kind : Int} (hkd : kind = 5∨kind = 6) (h : wrongE l e = 0) (hk : e.1 = kind) : hasE l e.2.2.2.1 3 = true∧(∃ s,textAt l e.2.2.2.2.1 = some s)∧∃ s,textAt l e.2.2.2.2.2 = some s:=by
 rcases hkd with rfl | rfl
 ·obtain ⟨h1,⟨s,hs,_⟩,t,ht,_⟩:=wrong_field h hk
  exact ⟨h1,⟨s,hs⟩,t,ht⟩
 ·obtain ⟨h1,⟨s,hs,_⟩,t,ht,_⟩:=wrong_method h hk
  exact ⟨h1,⟨s,hs⟩,t,ht⟩

set_option maxHeartbeats 400000 in
set_option maxRecDepth 100000 in
theorem member_any {w : World} {ao : Option Addr} {l : List En} {d cap : Nat} (hE : ES w ao l d) (hl : l.length≤9223372036854775807) (hA : ∀ e∈l,e.2.1.length≤9223372036854775807) (i kind : Int) (hkd : kind = 5∨kind = 6) :
  Calls Tryz.prog 212 #[.slice ao l.length cap,.int .i64 i,.int .i64 kind] w fun r w'=>r = .returned (.tuple #[.string (str (memberR l i kind).1.1),.string (str (memberR l i kind).1.2.1),.string (str (memberR l i kind).1.2.2),.int .i64 (memberR l i kind).2])∧Only [] w w':=by
 have HR:=right_any (cap:=cap) hE hl hA i kind
 by_cases h0 : (rightE l i kind).2 = 0
 ·obtain ⟨e,he,hk,hw,hR⟩:=right_ok h0
  obtain ⟨_,⟨sb,hsb⟩,sc,hsc⟩:=wrong_member hkd hw hk
  have hm : memberR l i kind = if (classR l e.2.2.2.1).2 = 0 then (((classR l e.2.2.2.1).1,sb,sc),0) else (([],[],[]),(classR l e.2.2.2.1).2):=by
   unfold memberR
   rw [hR]
   simp only [if_true,textAt_textOf hsb,textAt_textOf hsc]
  rw [hm]
  rw [hR] at HR
  have hJb:=fun W (hW : Only [] w W)=>text_cell (hE.only hW (by simp)) hsb
  have hJc:=fun W (hW : Only [] w W)=>text_cell (hE.only hW (by simp)) hsc
  have HC:=fun W (hW : Only [] w W)=>pclass_any (cap:=cap) (hE.only hW (by simp)) hl hA e.2.2.2.1
  obtain ⟨k,t,n,a,b,c⟩:=e
  simp only [enV] at HR hJb hJc HC ⊢
  clear hE hA h0 he hk hw hR hsb hsc hm hkd
  generalize classR l a = X at *
  obtain ⟨xs,xe⟩:=X
  simp only at HC ⊢
  replace HR:=hid HR
  replace hJb:=hid hJb
  replace hJc:=hid hJc
  replace HC:=hid HC
  by_cases hx : xe = 0
  ·subst hx
   simp only [if_true]
   go_enter Tryz.func212,Tryz.ntmps212
   go_wp2_with fail
   refine HR.out.mono ?_
   rintro e w1 ⟨rfl,ho1⟩
   have EN:=enAt_new w1 (k,t,n,a,b,c) 90
   have o1:=ho1.alloc (.cells #[.int .i64 k,.string (str t),.int .i64 n,.int .i64 a,.int .i64 b,.int .i64 c] 90)
   replace EN:=hid EN
   replace HC:=hid (HC.out _ o1)
   go_wp2_with fail
   refine HC.out.mono ?_
   rintro e w2 ⟨rfl,ho2⟩
   have o2:=o1.next ho2 (by simp)
   obtain ⟨e0,e1,e2,e3,e4,e5⟩:=EN.out.only ho2 (by simp)
   simp only [Nat.zero_add] at e0 e1 e2 e3 e4 e5
   obtain ⟨jb,off,rfl,hjb,rfl,hcb,_⟩:=hJb.out w2 o2
   obtain ⟨jc,off',rfl,hjc,ho',hcc,_⟩:=hJc.out w2 o2
   simp at ho'
   subst ho'
   have gb : ((jb : Int) < (l.length : Int)):=by omega
   have gc : ((jc : Int) < (l.length : Int)):=by omega
   go_wp2_with fail
   go_region
   go_wp2
   refine bodyPost_ret (results_tmp4 rfl _ _ _) rfl ⟨rfl,o2.drew⟩
  ·have g3 : (xe == 0) = false:=by simpa using hx
   simp only [hx,if_false]
   clear hx
   go_enter Tryz.func212,Tryz.ntmps212
   go_wp2_with fail
   refine HR.out.mono ?_
   rintro e w1 ⟨rfl,ho1⟩
   have o1:=ho1.alloc (.cells #[.int .i64 k,.string (str t),.int .i64 n,.int .i64 a,.int .i64 b,.int .i64 c] 90)
   replace HC:=hid (HC.out _ o1)
   go_wp2_with fail
   refine HC.out.mono ?_
   rintro e w2 ⟨rfl,ho2⟩
   have o2:=o1.next ho2 (by simp)
   go_wp2
   refine bodyPost_ret (results_tmp4 rfl _ _ _) rfl ⟨rfl,o2⟩
 ·have hm : memberR l i kind = (([],[],[]),(rightE l i kind).2):=by simp [memberR,h0]
  rw [hm]
  generalize rightE l i kind = X at *
  obtain ⟨⟨k,t,n,a,b,c⟩,er⟩:=X
  simp only [enV] at HR h0 ⊢
  have g3 : (er == 0) = false:=by simpa using h0
  clear hE hA h0 hm hkd
  replace HR:=hid HR
  go_enter Tryz.func212,Tryz.ntmps212
  go_wp2_with fail
  refine HR.out.mono ?_
  rintro e w1 ⟨rfl,ho1⟩
  go_wp2
  refine bodyPost_ret (results_tmp4 rfl _ _ _) rfl ⟨rfl,ho1.alloc _⟩


theorem member_text {l : List En} {i kind : Int} (hkd : kind = 5∨kind = 6) (h : (memberR l i kind).2 = 0) : ∃ j,textAt l j = some (memberR l i kind).1.2.2:=by
 by_cases h0 : (rightE l i kind).2 = 0
 ·obtain ⟨e,he,hk,hw,hR⟩:=right_ok h0
  obtain ⟨_,⟨sb,hsb⟩,sc,hsc⟩:=wrong_member hkd hw hk
  have hm : memberR l i kind = if (classR l e.2.2.2.1).2 = 0 then (((classR l e.2.2.2.1).1,sb,sc),0) else (([],[],[]),(classR l e.2.2.2.1).2):=by
   unfold memberR
   rw [hR]
   simp only [if_true,textAt_textOf hsb,textAt_textOf hsc]
  rw [hm] at h ⊢
  by_cases hc : (classR l e.2.2.2.1).2 = 0
  ·simp only [hc,if_true]
   exact ⟨_,hsc⟩
  ·simp [hc] at h
 ·have hm : memberR l i kind = (([],[],[]),(rightE l i kind).2):=by simp [memberR,h0]
  rw [hm] at h
  exact absurd h h0

theorem pfield_result {w : World} {b : Nat} {t : Ty} {x y z : Value} (h : TyAt w b t) (tmps : Array Value) (h1 : tmps.getD 4 undef = x) (h2 : tmps.getD 5 undef = y) (h3 : tmps.getD 6 undef = .pointer (some ⟨b,0,none⟩)) (h4 : tmps.getD 7 undef = z) :
  (results Tryz.f195 tmps).run Tryz.prog w = .ok (.tuple #[x,y,tyV t,z]) w:=by
 obtain ⟨c0,c1,_,_⟩:=h
 rw [results_ttct (p:=4) (q:=5) (r:=6) (u:=7) (ty:=35) Tryz.results195,h1,h2,h3,h4]
 simp [go_sem,c0,c1,tyV]

theorem pmethod_result {w : World} {b : Nat} {v : Value} {void : Bool} {t : Ty} {x y z : Value} (h : SigAt w b v void t) (tmps : Array Value) (h1 : tmps.getD 4 undef = x) (h2 : tmps.getD 5 undef = y) (h3 : tmps.getD 6 undef = .pointer (some ⟨b,0,none⟩)) (h4 : tmps.getD 7 undef = z) :
  (results Tryz.f215 tmps).run Tryz.prog w = .ok (.tuple #[x,y,sigV v void t,z]) w:=by
 obtain ⟨c0,c1,c2,c3,_,_,_,_⟩:=h
 rw [results_ttct (p:=4) (q:=5) (r:=6) (u:=7) (ty:=37) Tryz.results215,h1,h2,h3,h4]
 simp [go_sem,c0,c1,c2,c3,sigV]

theorem sig_new' (w : World) (v : Value) (void : Bool) (d : Int) (n : List UInt8) : SigAt (w.alloc (.cells #[v,.bool void,.int .i64 d,.string (str n)] 37)) w.heap.size v void (d,n):=
 ⟨by rw [cell_new]; rfl,by rw [cell_new]; rfl,by rw [cell_new]; rfl,by rw [cell_new]; rfl,frozen_new _ _ _ _,frozen_new _ _ _ _,frozen_new _ _ _ _,frozen_new _ _ _ _⟩

set_option maxHeartbeats 400000 in
set_option maxRecDepth 100000 in
theorem pfield_any {w : World} {ao : Option Addr} {l : List En} {d cap : Nat} (hE : ES w ao l d) (hl : l.length≤9223372036854775807) (hA : ∀ e∈l,e.2.1.length≤9223372036854775807) (i : Int) :
  Calls Tryz.prog 195 #[.slice ao l.length cap,.int .i64 i] w fun r w'=>r = .returned (.tuple #[.string (str (fieldR l i).1.1),.string (str (fieldR l i).1.2.1),tyV (fieldR l i).1.2.2,.int .i64 (fieldR l i).2])∧Only [] w w':=by
 have o0:=(Only.refl [] w).alloc (.cells #[.int .i64 0,.string ⟨#[]⟩] 35)
 have T0:=tyAt_new' w 0 []
 have HM:=member_any (cap:=cap) (hE.only o0 (by simp)) hl hA i 5 (.inl rfl)
 have hmt:=member_text (l:=l) (i:=i) (kind:=5) (.inl rfl)
 unfold fieldR
 generalize memberR l i 5 = X at *
 obtain ⟨⟨xc,xn,xt⟩,xe⟩:=X
 simp only at HM hmt ⊢
 clear hE
 by_cases hx : xe = 0
 ·subst hx
  obtain ⟨jt,hjt⟩:=hmt rfl
  have HT:=fun W=>type_any xt (byte_text hA (text_mem hjt)) W
  simp only [if_true]
  clear hmt hjt hA
  generalize typeR xt = Y at *
  obtain ⟨⟨yd,yn⟩,ye⟩:=Y
  simp only [tyV] at HT ⊢
  replace HT:=hid HT
  replace HM:=hid HM
  replace T0:=hid T0
  go_enter Tryz.func195,Tryz.ntmps195
  go_wp2_with fail
  refine HM.out.mono ?_
  rintro e w1 ⟨rfl,ho1⟩
  have o1:=o0.next ho1 (by simp)
  go_wp2_with fail
  refine (HT.out _).mono ?_
  rintro e w2 ⟨rfl,ho2⟩
  have o2:=o1.next ho2 (by simp)
  have hB : w.heap.size < w2.heap.size:=by have:=ho1.size; have:=ho2.size; simp at *; omega
  have T2:=hid ((T0.out.only ho1 (by simp)).only ho2 (by simp))
  obtain ⟨t0,t1,f0,f1⟩:=T2.out
  have t0' : ∀ o,(w2.alloc o).cell? ⟨w.heap.size,0,none⟩ = some (.int .i64 0):=fun o=>cell_alloc o t0
  have t1' : ∀ o,(w2.alloc o).cell? ⟨w.heap.size,1,none⟩ = some (.string (str [])):=fun o=>cell_alloc o t1
  have f0' : ∀ o,(w2.alloc o).frozen? ⟨w.heap.size,0,none⟩ = false:=fun o=>by rw [frozen_alloc o hB]; exact f0
  have f1' : ∀ o,(w2.alloc o).frozen? ⟨w.heap.size,1,none⟩ = false:=fun o=>by rw [frozen_alloc o hB]; exact f1
  go_wp2_with fail
  go_region
  go_wp2
  exact bodyPost_ret (pfield_result ((T2.out.put yd yn).only (((Only.refl [] _).alloc _).drew) (by simp)) _ rfl rfl rfl rfl) rfl ⟨rfl,(((o2.setCell (.inr (by simp)) _).setCell (.inr (by simp)) _).alloc _).drew⟩
 ·have g3 : (xe == 0) = false:=by simpa using hx
  simp only [hx,if_false,tyV]
  clear hx hmt hA
  replace HM:=hid HM
  replace T0:=hid T0
  go_enter Tryz.func195,Tryz.ntmps195
  go_wp2_with fail
  refine HM.out.mono ?_
  rintro e w1 ⟨rfl,ho1⟩
  have o1:=o0.next ho1 (by simp)
  have T1:=hid (T0.out.only ho1 (by simp))
  obtain ⟨t0,t1,f0,f1⟩:=T1.out
  go_wp2
  exact bodyPost_ret (pfield_result (T1.out.put 0 []) _ rfl rfl rfl rfl) rfl ⟨rfl,(o1.setCell (.inr (by simp)) _).setCell (.inr (by simp)) _⟩

set_option maxHeartbeats 400000 in
set_option maxRecDepth 100000 in
theorem pmethod_any {w : World} {ao : Option Addr} {l : List En} {d cap : Nat} (hE : ES w ao l d) (hl : l.length≤9223372036854775807) (hA : ∀ e∈l,e.2.1.length≤9223372036854775807) (i : Int) :
  Calls Tryz.prog 215 #[.slice ao l.length cap,.int .i64 i] w fun r w'=>∃ vo vc,r = .returned (.tuple #[.string (str (methodR l i).1.1),.string (str (methodR l i).1.2.1),sigV (.slice vo (methodR l i).1.2.2.1.length vc) (methodR l i).1.2.2.2.1 (methodR l i).1.2.2.2.2,.int .i64 (methodR l i).2])∧Own w' w.heap.size (.slice vo (methodR l i).1.2.2.1.length vc) (methodR l i).1.2.2.1∧Only [] w w':=by
 have o0:=(Only.refl [] w).alloc (.cells #[.slice none 0 0,.bool false,.int .i64 0,.string ⟨#[]⟩] 37)
 have T0:=sig_new' w (.slice none 0 0) false 0 []
 have HM:=member_any (cap:=cap) (hE.only o0 (by simp)) hl hA i 6 (.inr rfl)
 have hmt:=member_text (l:=l) (i:=i) (kind:=6) (.inr rfl)
 unfold methodR
 generalize memberR l i 6 = X at *
 obtain ⟨⟨xc,xn,xt⟩,xe⟩:=X
 simp only at HM hmt ⊢
 clear hE
 by_cases hx : xe = 0
 ·subst hx
  obtain ⟨jt,hjt⟩:=hmt rfl
  have HT:=fun W=>sig_any xt (byte_text hA (text_mem hjt)) W
  simp only [if_true]
  clear hmt hjt hA
  generalize sigR xt = Y at *
  obtain ⟨⟨yl,yv,yd,yn⟩,ye⟩:=Y
  simp only [sigV] at HT ⊢
  replace HT:=hid HT
  replace HM:=hid HM
  replace T0:=hid T0
  go_enter Tryz.func215,Tryz.ntmps215
  go_wp2_with fail
  refine HM.out.mono ?_
  rintro e w1 ⟨rfl,ho1⟩
  have o1:=o0.next ho1 (by simp)
  go_wp2_with fail
  refine (HT.out _).mono ?_
  rintro e w2 ⟨v,rfl,hown,ho2⟩
  obtain ⟨vo,vc,rfl⟩:=own_slice hown
  have o2:=o1.next ho2 (by simp)
  have hs1 : w.heap.size < w1.heap.size:=by have:=ho1.size; simp at *; omega
  have hB : w.heap.size < w2.heap.size:=by have:=ho1.size; have:=ho2.size; simp at *; omega
  have T2:=hid ((T0.out.only ho1 (by simp)).only ho2 (by simp))
  obtain ⟨t0,t1,t2,t3,f0,f1,f2,f3⟩:=T2.out
  have t0' : ∀ o,(w2.alloc o).cell? ⟨w.heap.size,0,none⟩ = some (.slice none 0 0):=fun o=>cell_alloc o t0
  have t1' : ∀ o,(w2.alloc o).cell? ⟨w.heap.size,1,none⟩ = some (.bool false):=fun o=>cell_alloc o t1
  have t2' : ∀ o,(w2.alloc o).cell? ⟨w.heap.size,2,none⟩ = some (.int .i64 0):=fun o=>cell_alloc o t2
  have t3' : ∀ o,(w2.alloc o).cell? ⟨w.heap.size,3,none⟩ = some (.string (str [])):=fun o=>cell_alloc o t3
  have f0' : ∀ o,(w2.alloc o).frozen? ⟨w.heap.size,0,none⟩ = false:=fun o=>by rw [frozen_alloc o hB]; exact f0
  have f1' : ∀ o,(w2.alloc o).frozen? ⟨w.heap.size,1,none⟩ = false:=fun o=>by rw [frozen_alloc o hB]; exact f1
  have f2' : ∀ o,(w2.alloc o).frozen? ⟨w.heap.size,2,none⟩ = false:=fun o=>by rw [frozen_alloc o hB]; exact f2
  have f3' : ∀ o,(w2.alloc o).frozen? ⟨w.heap.size,3,none⟩ = false:=fun o=>by rw [frozen_alloc o hB]; exact f3
  replace hown:=hid hown
  go_wp2_with fail
  go_region
  go_wp2
  have hown2:=own_mono (C:=w.heap.size) (own_only (own_set (own_set (own_set (own_set hown.out ⟨w.heap.size,0,none⟩ hs1 (.slice vo yl.length vc)) ⟨w.heap.size,1,none⟩ hs1 (.bool yv)) ⟨w.heap.size,2,none⟩ hs1 (.int .i64 yd)) ⟨w.heap.size,3,none⟩ hs1 (.string (str yn))) (((Only.refl [] _).alloc (.cells #[.slice vo yl.length vc,.bool yv,.int .i64 yd,.string (str yn)] 37)).drew) (by simp)) (by omega)
  exact bodyPost_ret (pmethod_result (((((T2.out.put0 (.slice vo yl.length vc)).put1 yv).put2 yd).put3 yn).only (((Only.refl [] _).alloc _).drew) (by simp)) _ rfl rfl rfl rfl) rfl ⟨vo,vc,rfl,hown2,(((((o2.setCell (.inr (by simp)) _).setCell (.inr (by simp)) _).setCell (.inr (by simp)) _).setCell (.inr (by simp)) _).alloc _).drew⟩
 ·have g3 : (xe == 0) = false:=by simpa using hx
  simp only [hx,if_false,sigV]
  clear hx hmt hA
  replace HM:=hid HM
  replace T0:=hid T0
  go_enter Tryz.func215,Tryz.ntmps215
  go_wp2_with fail
  refine HM.out.mono ?_
  rintro e w1 ⟨rfl,ho1⟩
  have o1:=o0.next ho1 (by simp)
  have T1:=hid (T0.out.only ho1 (by simp))
  obtain ⟨t0,t1,t2,t3,f0,f1,f2,f3⟩:=T1.out
  go_wp2
  exact bodyPost_ret (pmethod_result ((((T1.out.put0 (.slice none 0 0)).put1 false).put2 0).put3 []) _ rfl rfl rfl rfl) rfl ⟨none,0,rfl,own_nil _ _,(((o1.setCell (.inr (by simp)) _).setCell (.inr (by simp)) _).setCell (.inr (by simp)) _).setCell (.inr (by simp)) _⟩


/-- What is wrong with the entry of a type, of a method, of whatever an instruction names. -/
def typeW (l : List En) (op n : Int) : Int:=if (typeAtR l n).2 = 0 then (if op = 30 then (if (typeAtR l n).1.1 = 8 then 15 else 0) else (if (typeAtR l n).1 = (0,[]) then 15 else 0)) else (typeAtR l n).2
def methodW (l : List En) (op n : Int) : Int:=if (methodR l n).2 = 0 then (if decide ((methodR l n).1.2.1 = initL) = decide (op = 41) then (if op = 41∧(methodR l n).1.2.2.2.1 = false then 15 else 0) else 14) else (methodR l n).2
def entryI (l : List En) (i : In) : Int:=if rowI i.2.1 = 3 then (numberR l i.2.2.1).2 else if rowI i.2.1 = 5 then (classR l i.2.2.1).2 else if rowI i.2.1 = 6 then (fieldR l i.2.2.1).2 else if rowI i.2.1 = 7 then typeW l i.2.1 i.2.2.1 else if rowI i.2.1 = 8 then methodW l i.2.1 i.2.2.1 else 0
/-- What is wrong with an instruction, beside a row that says where instructions begin. -/
def wrongB (bl : List Bool) (l : List En) (locals : Int) (i : In) : Int:=if rowI i.2.1 = 2 then (if locals≤i.2.2.1 then 43 else 0) else if rowI i.2.1 = 4 then (if bl.getD i.2.2.1.toNat false = true then 0 else 18) else entryI l i

theorem row_op (op : Int) : (rowI op = 7→op = 30∨op = 36∨op = 37)∧(rowI op = 8→op = 38∨op = 39∨op = 40∨op = 41)∧0≤rowI op∧rowI op≤8:=by
 unfold rowI
 repeat' split
 all_goals omega

set_option maxHeartbeats 400000 in
set_option maxRecDepth 100000 in
theorem wtype_any {w : World} {ao : Option Addr} {l : List En} {d cap : Nat} (hE : ES w ao l d) (hl : l.length≤9223372036854775807) (hA : ∀ e∈l,e.2.1.length≤9223372036854775807) (locals : Int) (g : Value) (a op n s : Int) (hr : rowI op = 7) (hg : ∃ go m c,g = .slice go m c) :
  Calls Tryz.prog 196 #[.agg #[.slice ao l.length cap,.int .i64 locals,g],inV (a,op,n,s)] w fun e w'=>e = .returned (.int .i64 (typeW l op n))∧Only [] w w':=by
 obtain ⟨go,gm,gc,rfl⟩:=hg
 have o0:=((Only.refl [] w).alloc (.cells #[.slice ao l.length cap,.int .i64 locals,.slice go gm gc] 248)).alloc (.cells #[.int .i64 a,.int .i64 op,.int .i64 n,.int .i64 s] 250)
 have I0:=hid (inAt_new (w.alloc (.cells #[.slice ao l.length cap,.int .i64 locals,.slice go gm gc] 248)) a op n s 250)
 rw [World.size_alloc] at I0
 have HT:=ptype_any (cap:=cap) (hE.only o0 (by simp)) hl hA n
 have hop:=(row_op op).1 hr
 unfold typeW
 generalize typeAtR l n = X at *
 obtain ⟨⟨td,tn⟩,te⟩:=X
 have HN:=fun W=>number_any (td,tn) W
 simp only [inV,tyV] at HT HN ⊢
 clear hE hA hr
 by_cases he : te = 0
 ·subst he
  replace HT:=hid HT
  rw [if_pos rfl]
  rcases hop with rfl | rfl | rfl
  ·by_cases h8 : td = 8
   ·subst h8
    clear HN
    go_enter Tryz.func196,Tryz.ntmps196
    go_wp2_with (go_at_call 213; refine HT.out.mono ?_; rintro e w1 ⟨rfl,ho1⟩; obtain ⟨c0,c1,c2,c3⟩:=(I0.out.only ho1 (by simp)).alloc (.cells #[.int .i64 8,.string (str tn)] 35); simp only [Nat.zero_add] at c1 c2 c3)
    go_ret
    exact ⟨rfl,(o0.next ho1 (by simp)).alloc _⟩
   ·have g8 : (td == 8) = false:=by simpa using h8
    rw [if_pos rfl,if_neg h8]
    clear HN
    go_enter Tryz.func196,Tryz.ntmps196
    go_wp2_with (go_at_call 213; refine HT.out.mono ?_; rintro e w1 ⟨rfl,ho1⟩; obtain ⟨c0,c1,c2,c3⟩:=(I0.out.only ho1 (by simp)).alloc (.cells #[.int .i64 td,.string (str tn)] 35); simp only [Nat.zero_add] at c1 c2 c3)
    go_ret
    exact ⟨rfl,(o0.next ho1 (by simp)).alloc _⟩
  all_goals
   rw [if_neg (by decide)]
   by_cases hz : ((td,tn) : Ty) = (0,[])
   ·rw [if_pos hz]
    rw [decide_eq_true hz] at HN
    replace HN:=hid HN
    clear hz
    go_enter Tryz.func196,Tryz.ntmps196
    go_wp2_with (first | (go_at_call 213; refine HT.out.mono ?_; rintro e w1 ⟨rfl,ho1⟩; obtain ⟨c0,c1,c2,c3⟩:=(I0.out.only ho1 (by simp)).alloc (.cells #[.int .i64 td,.string (str tn)] 35); simp only [Nat.zero_add] at c1 c2 c3) | (go_at_call 214; refine (HN.out _).mono ?_; rintro e w2 ⟨rfl,ho2⟩))
    go_ret
    exact ⟨rfl,((o0.next ho1 (by simp)).alloc _).next ho2 (by simp)⟩
   ·rw [if_neg hz]
    rw [decide_eq_false hz] at HN
    replace HN:=hid HN
    clear hz
    go_enter Tryz.func196,Tryz.ntmps196
    go_wp2_with (first | (go_at_call 213; refine HT.out.mono ?_; rintro e w1 ⟨rfl,ho1⟩; obtain ⟨c0,c1,c2,c3⟩:=(I0.out.only ho1 (by simp)).alloc (.cells #[.int .i64 td,.string (str tn)] 35); simp only [Nat.zero_add] at c1 c2 c3) | (go_at_call 214; refine (HN.out _).mono ?_; rintro e w2 ⟨rfl,ho2⟩))
    go_ret
    exact ⟨rfl,((o0.next ho1 (by simp)).alloc _).next ho2 (by simp)⟩
 ·have ge : (te == 0) = false:=by simpa using he
  replace HT:=hid HT
  rw [if_neg he]
  clear HN hop
  go_enter Tryz.func196,Tryz.ntmps196
  go_wp2_with (go_at_call 213; refine HT.out.mono ?_; rintro e w1 ⟨rfl,ho1⟩)
  go_ret
  exact ⟨rfl,(o0.next ho1 (by simp)).alloc _⟩


/-- A builder in block b that holds these bytes. -/
abbrev Bu (B b : Nat) (l : List UInt8) (w : World) : Prop:=Lib.IsBuilderF 270 5 B b (Lib.byteCells l) w
abbrev Bs (w w' : World) (b : Nat) : Prop:=Lib.OthersKept 5 (some b) w w'

theorem no_escape (x : Value) (w : World) : (callFunc 222 #[x]).run Tryz.prog w = .ok (.value x) w:=by
 rw [run_callFunc_extern Tryz.func222 (by kernel_rfl) (by kernel_rfl) (by kernel_rfl) (e:=Extern.AbiNoEscape.same) (by kernel_rfl),Lib.run_noEscape]
 rfl

theorem sizeB : (Tryz.prog.info? 270).map (·.size) = some 2:=by kernel_rfl
theorem liesB : liesAt Tryz.prog Tryz.prog.depth 270 (2 / Tryz.prog.cellsOf 270) 0 270 1 = true:=by kernel_rfl

set_option maxHeartbeats 400000 in
theorem check_fresh {w : World} {b : Nat} (c0 : w.cell? ⟨b,0,none⟩ = some (.pointer none)) (hsh : w.shape? b = some (270,2)) (f0 : w.frozen? ⟨b,0,none⟩ = false) :
  Calls Tryz.prog 206 #[.pointer (some ⟨b,0,none⟩)] w fun e w'=>e = .returned (.tuple #[])∧w' = w.setCell ⟨b,0,none⟩ (.pointer (some ⟨b,0,none⟩)):=by
 obtain ⟨j,hj,hjs⟩:=Option.map_eq_some_iff.1 sizeB
 have k1:=Lib.run_to_unsafe (src:=268) (dst:=128) w ⟨b,0,none⟩ Tryz.underlying268 Tryz.underlying128 hj (by omega) hsh (Nat.zero_lt_succ 1)
 have k2:=Lib.run_from_unsafe (src:=128) (dst:=268) w ⟨b,0,none⟩ Tryz.underlying128 Tryz.underlying268 hj hsh liesB
 have k3:=no_escape (.pointer (some ⟨b,0,none⟩))
 have k4:=fun w=>Lib.run_neq_ptr_same (P:=Tryz.prog) w ⟨b,0,none⟩ Tryz.underlying268 hj
 go_enter Tryz.func206,Tryz.ntmps206
 go_wp2
 go_end0
 exact ⟨rfl,rfl⟩

set_option maxHeartbeats 400000 in
theorem check_used {w : World} {b : Nat} (c0 : w.cell? ⟨b,0,none⟩ = some (.pointer (some ⟨b,0,none⟩))) :
  Calls Tryz.prog 206 #[.pointer (some ⟨b,0,none⟩)] w fun e w'=>e = .returned (.tuple #[])∧w' = w:=by
 obtain ⟨j,hj,hjs⟩:=Option.map_eq_some_iff.1 sizeB
 have k4:=fun w=>Lib.run_neq_ptr_same (P:=Tryz.prog) w ⟨b,0,none⟩ Tryz.underlying268 hj
 go_enter Tryz.func206,Tryz.ntmps206
 go_wp2
 go_end0
 exact ⟨rfl,rfl⟩

/-- A builder that was used. -/
abbrev BuAt (B b : Nat) (l : List UInt8) (w : World) : Prop:=Lib.BuilderAtF 270 5 B b (.pointer (some ⟨b,0,none⟩)) (Lib.byteCells l) w

theorem check_any' {B b : Nat} {l : List UInt8} {w : World} (h : Bu B b l w) :
  Calls Tryz.prog 206 #[.pointer (some ⟨b,0,none⟩)] w fun e w'=>e = .returned (.tuple #[])∧BuAt B b l w'∧Below B w w'∧Bs w w' b:=by
 rcases h with h | h
 ·refine (check_fresh h.cell0 h.shape h.frozen0).mono ?_
  rintro e w' ⟨rfl,rfl⟩
  exact ⟨rfl,h.used _,(Below.refl B w).setCell (p:=⟨b,0,none⟩) h.1 _,(Lib.OthersKept.refl _ _ w).setCell ⟨b,0,none⟩ rfl _⟩
 ·refine (check_used h.cell0).mono ?_
  rintro e w' ⟨rfl,rfl⟩
  exact ⟨rfl,h,Below.refl B _,Lib.OthersKept.refl _ _ _⟩

theorem infoU : (Tryz.prog.info? 5).map (fun i=>(i.zero,i.size,i.bytes)) = some (some (.int .u8 0),1,1):=by kernel_rfl

theorem cells_append (a b : List UInt8) : Lib.byteCells (a ++ b) = Lib.byteCells a ++ Lib.byteCells b:=by simp [Lib.byteCells]
theorem cells_length (l : List UInt8) : (Lib.byteCells l).length = l.length:=by simp [Lib.byteCells]
theorem cells_str (l : List UInt8) : Lib.strCells (str l) = Lib.byteCells l:=by
 unfold Lib.strCells Lib.byteCells
 rw [str_data]

/-- What an append to a builder's bytes leaves. -/
theorem bu_put {B b : Nat} {l m : List UInt8} {v v' : Value} {w1 w2 : World} {row : Option Nat} (hB : B≤b) (hbk : w1.heap[b]? = some (.cells #[.pointer (some ⟨b,0,none⟩),v] 270 (0,0))) (hg : w1.grownBy w2 row) (hne : row≠some b)
  (hown : w2.ownsRowF B 5 1 v' (l.length + m.length) (Lib.byteCells l ++ Lib.byteCells m)) :
  w2.heap[b]? = some (.cells #[.pointer (some ⟨b,0,none⟩),v] 270 (0,0))∧BuAt B b (l ++ m) (w2.setCell ⟨b,1,none⟩ v'):=by
 have hb2 : w2.heap[b]? = some (.cells #[.pointer (some ⟨b,0,none⟩),v] 270 (0,0)):=by
  rw [hg.block b (Array.getElem?_eq_some_iff.1 hbk).1 (fun e=>hne e.symm)]
  exact hbk
 refine ⟨hb2,Lib.BuilderAtF.put hB hb2 ?_ (by decide)⟩
 rw [cells_append,List.length_append,cells_length,cells_length]
 exact hown

set_option maxHeartbeats 1000000 in
theorem write_any {B b : Nat} {l : List UInt8} {w : World} (h : Bu B b l w) (m : List UInt8) (hlen : l.length + m.length≤140737488355328) (hBw : B≤w.heap.size) :
  Calls Tryz.prog 187 #[.pointer (some ⟨b,0,none⟩),.string (str m)] w fun e w'=>e = .returned (.tuple #[.int .i64 (m.length : Int),.nilIface])∧BuAt B b (l ++ m) w'∧Below B w w'∧Bs w w' b:=by
 obtain ⟨i0,hi,hz0,hz1,hz2⟩:=info_parts infoU
 have HC:=hid (check_any' h)
 have hm:=str_size m
 go_enter Tryz.func187,Tryz.ntmps187
 go_wp2_with fail
 refine HC.out.mono ?_
 rintro e w1 ⟨rfl,⟨hB,v,hbk,hown,hne⟩,hb1,hk1⟩
 have c0 : w1.cell? ⟨b,0,none⟩ = some (.pointer (some ⟨b,0,none⟩)):=by rw [Lib.cell_of_heap hbk]; rfl
 have c1 : w1.cell? ⟨b,1,none⟩ = some v:=by rw [Lib.cell_of_heap hbk]; rfl
 rw [cells_length] at hown
 have hsz:=hb1.size
 go_wp2_with (at_builtin; refine Lib.wpList_append_own_stringF _ rfl (.tmp 12) (.tmp 13) 38 9 rfl B 5 i0 Tryz.underlying38 Tryz.underlying9 hi hz0 hz1 hz2 v l.length (Lib.byteCells l) rfl hown (str m) rfl (by rw [hm]; unfold maxLen; omega) (by omega) (by omega) ?_)
 intro v' w2 hown' hgrow _
 rw [cells_str] at hown'
 obtain ⟨hb2,hat⟩:=bu_put hB hbk hgrow hne hown'
 have d0 : w2.cell? ⟨b,0,none⟩ = some (.pointer (some ⟨b,0,none⟩)):=by rw [Lib.cell_of_heap hb2]; rfl
 have d1 : w2.cell? ⟨b,1,none⟩ = some v:=by rw [Lib.cell_of_heap hb2]; rfl
 have f1 : w2.frozen? ⟨b,1,none⟩ = false:=Lib.frozen_of_heap hb2 1
 obtain ⟨ao,n',cap,rfl⟩ : ∃ ao n' cap,v' = .slice ao n' cap:=by
  rcases hown'.2 with ⟨hv,_⟩ | ⟨g,cap,cur,fz,hv,_⟩
  ·exact ⟨_,_,_,hv⟩
  ·exact ⟨_,_,_,hv⟩
 go_wp2
 go_ret2
 refine ⟨rfl,hat,?_,(hk1.grown hgrow (Lib.ownsRowF_kind hown)).setCell ⟨b,1,none⟩ rfl _⟩
 exact (hb1.grown hgrow (by omega) (fun k hk=>(hown.lt k hk).1)).setCell (p:=⟨b,1,none⟩) hB _

set_option maxHeartbeats 1000000 in
theorem writeByte_any {B b : Nat} {l : List UInt8} {w : World} (h : Bu B b l w) (c : UInt8) (hlen : l.length + 1≤140737488355328) (hBw : B≤w.heap.size) :
  Calls Tryz.prog 189 #[.pointer (some ⟨b,0,none⟩),.int .u8 (c.toNat : Int)] w fun e w'=>e = .returned .nilIface∧BuAt B b (l ++ [c]) w'∧Below B w w'∧Bs w w' b:=by
 obtain ⟨i0,hi,hz0,hz1,hz2⟩:=info_parts infoU
 have HC:=hid (check_any' h)
 go_enter Tryz.func189,Tryz.ntmps189
 go_wp2_with fail
 refine HC.out.mono ?_
 rintro e w1 ⟨rfl,⟨hB,v,hbk,hown,hne⟩,hb1,hk1⟩
 have c0 : w1.cell? ⟨b,0,none⟩ = some (.pointer (some ⟨b,0,none⟩)):=by rw [Lib.cell_of_heap hbk]; rfl
 have c1 : w1.cell? ⟨b,1,none⟩ = some v:=by rw [Lib.cell_of_heap hbk]; rfl
 rw [cells_length] at hown
 have hsz:=hb1.size
 have hlt:=(Array.getElem?_eq_some_iff.1 hbk).1
 go_wp2_with (at_builtin; refine wpList_append_ownF _ rfl (.tmp 11) (.tmp 13) 38 rfl B 5 i0 (.int .u8 0) 1 1 Tryz.underlying38 hi hz0 hz1 hz2 rfl (by decide) v l.length (Lib.byteCells l) rfl (hown.alloc _) ⟨w1.heap.size,0,none⟩ 1 1 [.int .u8 (c.toNat : Int)] rfl rfl ?c1 ?c2 ?c3 ?c4 ?c5 ?_)
 case c1=>
  intro j u hj
  match j,hj with
  | 0,hj=>
   simp at hj
   subst hj
   rw [Addr.add_lit,cell_new]
   rfl
 case c2=>intro u hu; simp at hu; subst hu; rfl
 case c3=>unfold maxLen; omega
 case c4=>omega
 case c5=>simp; omega
 intro v' w2 hown' hgrow _
 have hbk' : (w1.alloc (.cells #[.int .u8 (c.toNat : Int)] 5)).heap[b]? = some (.cells #[.pointer (some ⟨b,0,none⟩),v] 270 (0,0)):=(Lib.alloc_old w1 _ b hlt).trans hbk
 obtain ⟨hb2,hat⟩:=bu_put (m:=[c]) hB hbk' hgrow hne hown'
 have d0 : w2.cell? ⟨b,0,none⟩ = some (.pointer (some ⟨b,0,none⟩)):=by rw [Lib.cell_of_heap hb2]; rfl
 have d1 : w2.cell? ⟨b,1,none⟩ = some v:=by rw [Lib.cell_of_heap hb2]; rfl
 have f1 : w2.frozen? ⟨b,1,none⟩ = false:=Lib.frozen_of_heap hb2 1
 obtain ⟨ao,n',cap,rfl⟩ : ∃ ao n' cap,v' = .slice ao n' cap:=by
  rcases hown'.2 with ⟨hv,_⟩ | ⟨g,cap,cur,fz,hv,_⟩
  ·exact ⟨_,_,_,hv⟩
  ·exact ⟨_,_,_,hv⟩
 go_wp2
 go_ret
 refine ⟨rfl,hat,?_,((hk1.alloc _).grown hgrow (Lib.ownsRowF_kind (hown.alloc _))).setCell ⟨b,1,none⟩ rfl _⟩
 exact ((hb1.alloc (by omega) _).grown hgrow (by simp; omega) (fun k hk=>(hown.lt k hk).1)).setCell (p:=⟨b,1,none⟩) hB _


/-- A right type's text. -/
def tyText (t : Ty) : List UInt8:=List.replicate t.1.toNat 91 ++ (if t.2 = [] then [73] else 76 :: (t.2 ++ [59]))
def tyTexts : List Ty→List UInt8
 | []=>[]
 | t :: l=>tyText t ++ tyTexts l

theorem tyTexts_append (a b : List Ty) : tyTexts (a ++ b) = tyTexts a ++ tyTexts b:=by
 induction a with
 | nil=>rfl
 | cons t l ih=>simp [tyTexts,ih]

/-- A type that a text may be made of. -/
def Fit (t : Ty) : Prop:=0≤t.1∧t.1≤8∧t.2.length≤32

theorem fit_len {t : Ty} (h : Fit t) : (tyText t).length≤42:=by
 obtain ⟨h1,h2,h3⟩:=h
 unfold tyText
 split
 ·simp
  omega
 ·simp
  omega

theorem fits_len (l : List Ty) (h : ∀ t∈l,Fit t) : (tyTexts l).length≤42 * l.length:=by
 induction l with
 | nil=>simp [tyTexts]
 | cons t l ih=>
  have h1:=fit_len (h t (by simp))
  have h2:=ih fun x hx=>h x (by simp [hx])
  simp [tyTexts]
  omega

theorem repeat_one (c : UInt8) (n : Nat) : Lib.repeatL [c] n = List.replicate n c:=by
 induction n with
 | zero=>rfl
 | succ n ih=>simp [Lib.repeatL,ih,List.replicate_succ]

theorem below_only {w w' : World} (h : Below w.heap.size w w') : Only [] w w':=⟨h.os,h.tape,h.output,h.size,fun k hk _=>h.block k hk⟩

theorem bu_below {B b : Nat} {l : List UInt8} {w w' : World} (h : Bu B b l w) (hb : Below w.heap.size w w') : Bu B b l w':=by
 have hg : w.grownBy w' none:=⟨hb.os,hb.tape,hb.output,hb.size,fun k hk _=>hb.block k hk⟩
 rcases h with ⟨h1,v,h2,h3,h4⟩ | ⟨h1,v,h2,h3,h4⟩
 ·exact .inl ⟨h1,v,by rw [hb.block b (Array.getElem?_eq_some_iff.1 h2).1]; exact h2,h3.kept hg (by cases hv : v.ownBlock <;> simp),h4⟩
 ·exact .inr ⟨h1,v,by rw [hb.block b (Array.getElem?_eq_some_iff.1 h2).1]; exact h2,h3.kept hg (by cases hv : v.ownBlock <;> simp),h4⟩

theorem run_cat (x y : List UInt8) (h : x.length + y.length≤9223372036854775807) (w : World) : (Op.stringOp .add (str x) (str y)).run Tryz.prog w = .ok (.string (str (x ++ y))) w:=by
 rw [run_string_add_sum w _ _ (by rw [str_size,str_size]; exact h)]
 simp [str,ByteArray.mk_append_mk]

theorem rep_any (n : Nat) (hn : n≤8) (w : World) : Calls Tryz.prog 188 #[.string ⟨#[91]⟩,.int .i64 (n : Int)] w fun e w'=>e = .returned (.string (str (List.replicate n 91)))∧Below w.heap.size w w':=by
 refine (Tryz.strings_Repeat ⟨#[91]⟩ n w (by omega) (by rw [show (⟨#[91]⟩ : ByteArray).size = 1 from rfl]; omega)).mono ?_
 rintro e w' ⟨rfl,hb⟩
 refine ⟨?_,hb⟩
 rw [show (⟨#[91]⟩ : ByteArray).data.toList = [91] from rfl,repeat_one]
 rfl

set_option maxHeartbeats 400000 in
set_option maxRecDepth 100000 in
theorem texts_any {w : World} {ao : Option Addr} {l : List Ty} {d cap : Nat} (hT : TS w ao l d) (hF : ∀ t∈l,Fit t) (hl : l.length≤1000000) :
  Calls Tryz.prog 166 #[.slice ao l.length cap] w fun e w'=>e = .returned (.string (str (tyTexts l)))∧Only [] w w':=by
 have hB0 : Bu w.heap.size w.heap.size [] (w.alloc (.cells #[.pointer none,.slice none 0 0] 270)):=Lib.IsBuilderF.of (Lib.fresh_isBuilder _ _ w)
 have hb0 : Below w.heap.size w (w.alloc (.cells #[.pointer none,.slice none 0 0] 270)):=(Below.refl _ w).alloc (Nat.le_refl _) _
 go_enter Tryz.func166,Tryz.ntmps166
 go_wp2
 go_loopw [8] (fun i wr=>∃ k : Nat,k≤l.length∧i = .int .i64 (k : Int)∧Bu w.heap.size w.heap.size (tyTexts (l.take k)) wr∧Below w.heap.size w wr) (fun i _=>l.length - (intOf i).toNat)
 case atStart=>exact ⟨0,by omega,rfl,hB0,hb0⟩
 case round=>
  obtain ⟨k,hk,rfl,hBu,hbl⟩:=hrel
  by_cases hlt : k < l.length
  ·have g2 : ((k : Int) < (l.length : Int)):=by omega
   have hne : l≠[]:=by intro e; simp [e] at hlt
   rcases hT.only (below_only hbl) (by simp) with h | ⟨off,rfl,hc⟩
   ·exact absurd h hne
   have hft:=hF l[k] (List.getElem_mem hlt)
   obtain ⟨c0,c1⟩:=hc k hlt
   clear hc
   have htk : tyTexts (l.take (k + 1)) = tyTexts (l.take k) ++ tyText l[k]:=by
    rw [List.take_succ_eq_append_getElem hlt,tyTexts_append]
    simp [tyTexts]
   have hlen:=fits_len (l.take k) fun t ht=>hF t (List.mem_of_mem_take ht)
   have hlen2 : (l.take k).length≤1000000:=by simp; omega
   generalize l[k] = t at *
   obtain ⟨td,nm⟩:=t
   obtain ⟨f1,f2,f3⟩:=hft
   obtain ⟨dn,rfl⟩ : ∃ dn : Nat,td = (dn : Int):=⟨td.toNat,by simp at f1; omega⟩
   simp only [] at f1 f2 f3 c0 c1
   have hszr:=hbl.size
   have hA : Below wr.heap.size wr (wr.alloc (.cells #[.int .i64 (dn : Int),.string (str nm)] 35)):=(Below.refl _ wr).alloc (Nat.le_refl _) _
   have hobj : (wr.alloc (.cells #[.int .i64 (dn : Int),.string (str nm)] 35)).heap[wr.heap.size]? = some (.cells #[.int .i64 (dn : Int),.string (str nm)] 35 (0,0)):=Go.heap_alloc_new wr _
   have hszA : (wr.alloc (.cells #[.int .i64 (dn : Int),.string (str nm)] 35)).heap.size = wr.heap.size + 1:=by simp
   have HR:=hid (rep_any dn (by omega) (wr.alloc (.cells #[.int .i64 (dn : Int),.string (str nm)] 35)))
   have htn:=str_toList nm
   go_wp2_with fail
   refine HR.out.mono ?_
   rintro e w2 ⟨rfl,hb2⟩
   have hBu2:=bu_below (bu_below hBu hA) hb2
   have hsz2:=hb2.size
   rw [hszA] at hsz2
   have hobj2 : w2.heap[wr.heap.size]? = some (.cells #[.int .i64 (dn : Int),.string (str nm)] 35 (0,0)):=by
    rw [hb2.block _ (by rw [hszA]; omega)]
    exact hobj
   have HW:=hid (write_any hBu2 (List.replicate dn 91) (by simp; omega) (by omega))
   go_wp2_with fail
   refine HW.out.mono ?_
   rintro e w3 ⟨rfl,hat3,hb3,hk3⟩
   have hbt:=hBu2
   have hneb : some wr.heap.size≠some w.heap.size:=by
    have:=hb0.size
    rcases hBu with q | q
    ·have:=q.lt
     simp
     omega
    ·have:=q.lt
     simp
     omega
   have hobj3:=hk3 _ _ hobj2 hneb (by intro c fz h; cases h)
   have y1 : w3.cell? ⟨wr.heap.size,1,none⟩ = some (.string (str nm)):=by rw [Lib.cell_of_heap hobj3]; rfl
   have hsz3:=hb3.size
   have hbl3 : Below w.heap.size w w3:=((hbl.alloc hszr _).trans ((hb2.mono (by rw [hszA]; omega)))).trans hb3
   have hl3 : (tyTexts (l.take k) ++ List.replicate dn 91).length≤42000008:=by simp; omega
   by_cases hz : nm = []
   ·subst hz
    have HB:=writeByte_any (.inr hat3) 73 (by omega) (by omega)
    rw [show ((73 : UInt8).toNat : Int) = 73 from rfl] at HB
    have HB:=hid HB
    go_wp2_with (go_at_call 189; refine HB.out.mono ?_; rintro e w4 ⟨rfl,hat4,hb4,hk4⟩)
    refine ⟨⟨k + 1,by omega,by go_num,?_,hbl3.trans hb4⟩,by simp [intOf]; omega⟩
    rw [htk]
    have e1 : tyTexts (l.take k) ++ tyText ((dn : Int),[]) = tyTexts (l.take k) ++ List.replicate dn 91 ++ [73]:=by simp [tyText]
    rw [e1]
    exact .inr hat4
   ·have hzi : nm.isEmpty = false:=by simpa using hz
    have k1 : ∀ w,(Op.stringOp .add ⟨#[76]⟩ (str nm)).run Tryz.prog w = .ok (.string (str (76 :: nm))) w:=fun w=>run_cat [76] nm (by simp; omega) w
    have k2 : ∀ w,(Op.stringOp .add (str (76 :: nm)) ⟨#[59]⟩).run Tryz.prog w = .ok (.string (str (76 :: (nm ++ [59])))) w:=fun w=>run_cat (76 :: nm) [59] (by simp; omega) w
    have HB:=hid (write_any (.inr hat3) (76 :: (nm ++ [59])) (by simp at hl3 ⊢; omega) (by omega))
    go_wp2_with (go_at_call 187; refine HB.out.mono ?_; rintro e w4 ⟨rfl,hat4,hb4,hk4⟩)
    refine ⟨⟨k + 1,by omega,by go_num,?_,hbl3.trans hb4⟩,by simp [intOf]; omega⟩
    rw [htk]
    have e1 : tyTexts (l.take k) ++ tyText ((dn : Int),nm) = tyTexts (l.take k) ++ List.replicate dn 91 ++ (76 :: (nm ++ [59])):=by simp [tyText,hz]
    rw [e1]
    exact .inr hat4
  ·have g2 : ¬ ((k : Int) < (l.length : Int)):=by omega
   obtain rfl : k = l.length:=by omega
   rw [List.take_of_length_le (Nat.le_refl _)] at hBu
   have HS:=Tryz.Builder_String_any_k _ _ _ _ hBu hbl.size
   have HS:=hid HS
   go_wp2_with (go_at_call 190; refine HS.out.mono ?_; rintro e w2 ⟨rfl,_,hb2,_⟩)
   go_ret
   exact ⟨rfl,below_only (hbl.trans hb2)⟩


/-- A type's text, if it is one. -/
def ttR (t : Ty) : List UInt8:=if tyCheck t = 0 then tyText t else []

theorem name_len {n : List UInt8} (h : nameOK n = true) : n.length≤32:=by
 unfold nameOK at h
 simp at h
 omega

theorem check_fit {t : Ty} (h : tyCheck t = 0) : Fit t:=by
 obtain ⟨d,n⟩:=t
 obtain ⟨h1,h2⟩:=check_bounds h
 refine ⟨h1,h2,?_⟩
 simp only [tyCheck] at h
 split at h
 ·omega
 ·split at h
  ·omega
  ·rename_i h4
   by_cases hz : n = []
   ·subst hz
    simp
   ·have : nameOK n = true:=by
     cases hn : nameOK n with
     | true=>rfl
     | false=>exact absurd ⟨hz,hn⟩ h4
    exact name_len this

/-- A block that holds one type is a row of one type. -/
theorem ts_one (w : World) (t : Ty) (u : TypeId) : TS (w.alloc (.cells #[.int .i64 t.1,.string (str t.2)] u)) (some ⟨w.heap.size,0,none⟩) [t] w.heap.size:=by
 refine .inr ⟨0,rfl,fun j hj=>?_⟩
 have : j = 0:=by simp at hj; omega
 subst this
 exact ⟨by rw [cell_new]; rfl,by rw [cell_new]; rfl⟩

set_option maxHeartbeats 400000 in
set_option maxRecDepth 100000 in
theorem typeText_any (t : Ty) (hl : t.2.length≤9223372036854775807) (w : World) : Calls Tryz.prog 174 #[tyV t] w fun e w'=>e = .returned (.tuple #[.string (str (ttR t)),.int .i64 (tyCheck t)])∧Only [] w w':=by
 obtain ⟨d,n⟩:=t
 have ho:=(Only.refl [] w).alloc (.cells #[.int .i64 d,.string (str n)] 35)
 have HC:=hid (check_any (d,n) hl (w.alloc (.cells #[.int .i64 d,.string (str n)] 35)))
 by_cases h : tyCheck (d,n) = 0
 ·have hf:=check_fit h
  have e1 : ttR (d,n) = tyText (d,n):=by simp [ttR,h]
  rw [e1,h]
  rw [h] at HC
  simp only [tyV] at HC ⊢
  go_enter Tryz.func174,Tryz.ntmps174
  go_wp2_with fail
  refine HC.out.mono ?_
  rintro e w1 ⟨rfl,ho1⟩
  have c0 : w1.cell? ⟨w.heap.size,0,none⟩ = some (.int .i64 d):=by rw [ho1.cell (by simp) (by simp),cell_new]; rfl
  have c1 : w1.cell? ⟨w.heap.size,1,none⟩ = some (.string (str n)):=by rw [ho1.cell (by simp) (by simp),cell_new]; rfl
  have HT:=texts_any (cap:=1) (ts_one w1 (d,n) 35) (by intro t ht; simp at ht; subst ht; exact hf) (by simp)
  simp only [tyTexts,List.append_nil,List.length_cons,List.length_nil] at HT
  have HT:=hid HT
  go_wp2_with fail
  refine HT.out.mono ?_
  rintro e w2 ⟨rfl,ho2⟩
  go_wp2
  go_ret2
  exact ⟨rfl,((ho.next ho1 (by simp)).alloc _).next ho2 (by simp)⟩
 ·have hne : ¬ (tyCheck (d,n) = 0):=h
  have e1 : ttR (d,n) = []:=by simp [ttR,h]
  rw [e1]
  generalize tyCheck (d,n) = e at *
  simp only [tyV] at HC ⊢
  go_enter Tryz.func174,Tryz.ntmps174
  go_wp2_with fail
  refine HC.out.mono ?_
  rintro e w1 ⟨rfl,ho1⟩
  go_wp2
  go_ret2
  exact ⟨rfl,ho.next ho1 (by simp)⟩


/-- The first thing that is wrong with types in a row. -/
def checkAll : List Ty→Int
 | []=>0
 | t :: l=>if tyCheck t = 0 then checkAll l else tyCheck t

/-- What is wrong with a signature. -/
def sigCheck (l : List Ty) (void : Bool) (t : Ty) : Int:=if 16 < l.length then 4 else if checkAll l = 0 then (if void = true∧t≠(0,[]) then 1 else tyCheck t) else checkAll l

theorem checkAll_ok (l : List Ty) : checkAll l = 0 ↔ ∀ t∈l,tyCheck t = 0:=by
 induction l with
 | nil=>simp [checkAll]
 | cons t l ih=>
  unfold checkAll
  split
  ·rename_i h
   simp [ih,h]
  ·rename_i h
   simp [h]

theorem checkAll_at (l : List Ty) (k : Nat) (hk : k < l.length) (h0 : ∀ j (hj : j < k),tyCheck (l[j]'(by omega)) = 0) (h1 : tyCheck l[k]≠0) : checkAll l = tyCheck l[k]:=by
 induction l generalizing k with
 | nil=>simp at hk
 | cons t l ih=>
  cases k with
  | zero=>
   simp at h1 ⊢
   simp [checkAll,h1]
  | succ k=>
   have:=h0 0 (by omega)
   simp at this
   rw [checkAll,if_pos this]
   simpa using ih k (by simpa using hk) (fun j hj=>by simpa using h0 (j + 1) (by omega)) (by simpa using h1)

set_option maxHeartbeats 400000 in
set_option maxRecDepth 100000 in
theorem checkSig_any {w : World} {ao : Option Addr} {l : List Ty} {d cap : Nat} (hT : TS w ao l d) (hl : l.length≤9223372036854775807) (hA : ∀ t∈l,t.2.length≤9223372036854775807) (void : Bool) (t : Ty) (ht : t.2.length≤9223372036854775807) :
  Calls Tryz.prog 165 #[sigV (.slice ao l.length cap) void t] w fun e w'=>e = .returned (.int .i64 (sigCheck l void t))∧Only [] w w':=by
 obtain ⟨td,tn⟩:=t
 simp only [sigV]
 by_cases h16 : 16 < l.length
 ·have g1 : (16 < (l.length : Int)):=by omega
  have e1 : sigCheck l void (td,tn) = 4:=by simp [sigCheck,h16]
  rw [e1]
  go_enter Tryz.func165,Tryz.ntmps165
  go_wp2
  go_ret
  exact ⟨rfl,(Only.refl [] w).alloc _⟩
 ·have g1 : ¬ (16 < (l.length : Int)):=by omega
  go_enter Tryz.func165,Tryz.ntmps165
  go_wp2
  go_loopw [13] (fun i wr=>∃ k : Nat,k≤l.length∧i = .int .i64 (k : Int)∧(∀ j (hj : j < l.length),j < k→tyCheck l[j] = 0)∧Only [] (w.alloc (.cells #[.slice ao l.length cap,.bool void,.int .i64 td,.string (str tn)] 37)) wr) (fun i _=>l.length - (intOf i).toNat)
  case atStart=>exact ⟨0,by omega,rfl,fun j _ h=>by omega,Only.refl _ _⟩
  case round=>
   obtain ⟨k,hk,rfl,hok,hor⟩:=hrel
   have ho0:=(Only.refl [] w).alloc (.cells #[.slice ao l.length cap,.bool void,.int .i64 td,.string (str tn)] 37)
   have hon:=ho0.next hor (by simp)
   have c1 : wr.cell? ⟨w.heap.size,1,none⟩ = some (.bool void):=by rw [hor.cell (by simp) (by simp),cell_new]; rfl
   have c2 : wr.cell? ⟨w.heap.size,2,none⟩ = some (.int .i64 td):=by rw [hor.cell (by simp) (by simp),cell_new]; rfl
   have c3 : wr.cell? ⟨w.heap.size,3,none⟩ = some (.string (str tn)):=by rw [hor.cell (by simp) (by simp),cell_new]; rfl
   by_cases hlt : k < l.length
   ·have g2 : ((k : Int) < (l.length : Int)):=by omega
    have hne : l≠[]:=by intro e; simp [e] at hlt
    rcases hT.only hon (by simp) with h | ⟨off,rfl,hc⟩
    ·exact absurd h hne
    obtain ⟨y0,y1⟩:=hc k hlt
    clear hc
    have hat:=fun (h : tyCheck l[k]≠0)=>checkAll_at l k hlt (fun j hj=>hok j (by omega) hj) h
    have hnx : tyCheck l[k] = 0→∀ j (hj : j < l.length),j < k + 1→tyCheck l[j] = 0:=by
     intro h0 j hj hjk
     by_cases e : j = k
     ·subst e
      exact h0
     ·exact hok j hj (by omega)
    have hln:=hA l[k] (List.getElem_mem hlt)
    generalize l[k] = t at *
    obtain ⟨d0,nm⟩:=t
    clear hok
    have HC:=check_any (d0,nm) hln (wr.alloc (.cells #[.int .i64 d0,.string (str nm)] 35))
    by_cases hz : tyCheck (d0,nm) = 0
    ·rw [hz] at HC
     simp only [tyV] at HC y0 y1
     have HC:=hid HC
     have hnx:=hid (hnx hz)
     clear hat hz
     go_wp2_with (go_at_call 117; refine HC.out.mono ?_; rintro e w2 ⟨rfl,ho2⟩)
     exact ⟨⟨k + 1,by omega,by go_num,hnx.out,(hor.alloc _).next ho2 (by simp)⟩,by simp [intOf]; omega⟩
    ·have hat:=hat hz
     have e1 : Hid (sigCheck l void (td,tn) = tyCheck (d0,nm)):=by
      unfold Hid sigCheck
      rw [if_neg h16,hat,if_neg hz]
     clear hat hnx
     generalize tyCheck (d0,nm) = c at *
     simp only [tyV] at HC y0 y1
     have HC:=hid HC
     go_wp2_with (go_at_call 117; refine HC.out.mono ?_; rintro e w2 ⟨rfl,ho2⟩)
     go_ret
     exact ⟨by rw [e1.out]; rfl,(hon.alloc _).next ho2 (by simp)⟩
   ·have g2 : ¬ ((k : Int) < (l.length : Int)):=by omega
    obtain rfl : k = l.length:=by omega
    have hall : checkAll l = 0:=(checkAll_ok l).2 fun t ht=>by
     obtain ⟨j,hj,rfl⟩:=List.getElem_of_mem ht
     exact hok j hj hj
    clear hok
    have hq:=neq_type (td,tn) (0,[])
    rw [ty_zero] at hq
    simp only [tyV] at hq
    have HC:=check_any (td,tn) ht wr
    simp only [tyV] at HC
    have HC:=hid HC
    by_cases hz : (td,tn) = (((0 : Int),[]) : Ty)
    ·have e1 : Hid (sigCheck l void (td,tn) = tyCheck (td,tn)):=by
      unfold Hid sigCheck
      rw [if_neg h16,if_pos hall,if_neg (by simp [hz])]
     simp only [hz,decide_true,Bool.not_true] at hq
     clear hz hall
     cases void
     ·go_wp2_with (go_at_call 117; refine HC.out.mono ?_; rintro e w2 ⟨rfl,ho2⟩)
      go_ret
      exact ⟨by rw [e1.out]; rfl,hon.next ho2 (by simp)⟩
     ·go_wp2_with (go_at_call 117; refine HC.out.mono ?_; rintro e w2 ⟨rfl,ho2⟩)
      go_ret
      exact ⟨by rw [e1.out]; rfl,hon.next ho2 (by simp)⟩
    ·have e1 : Hid (sigCheck l void (td,tn) = if void = true then 1 else tyCheck (td,tn)):=by
      unfold Hid sigCheck
      rw [if_neg h16,if_pos hall]
      simp [hz]
     simp only [hz,decide_false,Bool.not_false] at hq
     clear hz hall
     cases void
     ·go_wp2_with (go_at_call 117; refine HC.out.mono ?_; rintro e w2 ⟨rfl,ho2⟩)
      go_ret
      exact ⟨by rw [e1.out]; simp,hon.next ho2 (by simp)⟩
     ·go_wp2
      go_ret
      exact ⟨by rw [e1.out]; simp,hon⟩


/-- A right signature's text. -/
def sigText (l : List Ty) (void : Bool) (t : Ty) : List UInt8:=40 :: (tyTexts l ++ 41 :: (if void = true then [86] else tyText t))
def stR (l : List Ty) (void : Bool) (t : Ty) : List UInt8:=if sigCheck l void t = 0 then sigText l void t else []

theorem sigCheck_ok {l : List Ty} {void : Bool} {t : Ty} (h : sigCheck l void t = 0) : l.length≤16∧(∀ x∈l,tyCheck x = 0)∧tyCheck t = 0∧(void = true→t = (0,[])):=by
 unfold sigCheck at h
 split at h
 ·omega
 ·split at h
  ·rename_i h1 h2
   split at h
   ·omega
   ·rename_i h3
    refine ⟨by omega,(checkAll_ok l).1 h2,h,fun hv=>?_⟩
    by_cases e : t = (0,[])
    ·exact e
    ·exact absurd ⟨hv,e⟩ h3
  ·contradiction

set_option maxHeartbeats 400000 in
set_option maxRecDepth 100000 in
theorem sigText_any {w : World} {ao : Option Addr} {l : List Ty} {d cap : Nat} (hT : TS w ao l d) (hl : l.length≤9223372036854775807) (hA : ∀ t∈l,t.2.length≤9223372036854775807) (void : Bool) (t : Ty) (ht : t.2.length≤9223372036854775807) :
  Calls Tryz.prog 120 #[sigV (.slice ao l.length cap) void t] w fun e w'=>e = .returned (.tuple #[.string (str (stR l void t)),.int .i64 (sigCheck l void t)])∧Only [] w w':=by
 have ho:=(Only.refl [] w).alloc (.cells #[.slice ao l.length cap,.bool void,.int .i64 t.1,.string (str t.2)] 37)
 have HC:=hid (checkSig_any (cap:=cap) (hT.only ho (by simp)) hl hA void t ht)
 by_cases h : sigCheck l void t = 0
 ·obtain ⟨h1,h2,h3,h4⟩:=sigCheck_ok h
  have e1 : stR l void t = sigText l void t:=by simp [stR,h]
  have hlen:=fits_len l fun x hx=>check_fit (h2 x hx)
  have hlt:=fit_len (check_fit h3)
  have hft:=check_fit h3
  rw [e1,h]
  rw [h] at HC
  clear e1 h h3
  obtain ⟨td,tn⟩:=t
  cases void with
  | true=>
   clear h4
   simp only [sigV] at HC ⊢
   have e2 : Hid (sigText l true (td,tn) = 40 :: (tyTexts l ++ [41,86])):=by simp [Hid,sigText]
   go_enter Tryz.func120,Tryz.ntmps120
   go_wp2_with fail
   refine HC.out.mono ?_
   rintro e w1 ⟨rfl,ho1⟩
   have c0 : w1.cell? ⟨w.heap.size,0,none⟩ = some (.slice ao l.length cap):=by rw [ho1.cell (by simp) (by simp),cell_new]; rfl
   have c1 : w1.cell? ⟨w.heap.size,1,none⟩ = some (.bool true):=by rw [ho1.cell (by simp) (by simp),cell_new]; rfl
   have o1:=ho.next ho1 (by simp)
   have HT:=hid (texts_any (cap:=cap) (hT.only o1 (by simp)) (fun x hx=>check_fit (h2 x hx)) (by omega))
   go_wp2_with fail
   refine HT.out.mono ?_
   rintro e w2 ⟨rfl,ho2⟩
   generalize tyTexts l = u at *
   have k1 : ∀ w,(Op.stringOp .add ⟨#[40]⟩ (str u)).run Tryz.prog w = .ok (.string (str (40 :: u))) w:=fun w=>run_cat [40] u (by simp; omega) w
   have k2 : ∀ w,(Op.stringOp .add (str (40 :: u)) ⟨#[41]⟩).run Tryz.prog w = .ok (.string (str (40 :: (u ++ [41])))) w:=fun w=>run_cat (40 :: u) [41] (by simp; omega) w
   have k3 : ∀ w,(Op.stringOp .add (str (40 :: (u ++ [41]))) ⟨#[86]⟩).run Tryz.prog w = .ok (.string (str (40 :: (u ++ [41,86])))) w:=fun w=>by
    have:=run_cat (40 :: (u ++ [41])) [86] (by simp; omega) w
    simp only [List.cons_append,List.append_assoc,List.nil_append] at this
    exact this
   go_wp2
   go_ret2
   exact ⟨by rw [e2.out]; rfl,o1.next ho2 (by simp)⟩
  | false=>
   clear h4
   simp only [sigV] at HC ⊢
   have e2 : Hid (sigText l false (td,tn) = 40 :: (tyTexts l ++ 41 :: tyText (td,tn))):=by simp [Hid,sigText]
   go_enter Tryz.func120,Tryz.ntmps120
   go_wp2_with fail
   refine HC.out.mono ?_
   rintro e w1 ⟨rfl,ho1⟩
   have c0 : w1.cell? ⟨w.heap.size,0,none⟩ = some (.slice ao l.length cap):=by rw [ho1.cell (by simp) (by simp),cell_new]; rfl
   have c1 : w1.cell? ⟨w.heap.size,1,none⟩ = some (.bool false):=by rw [ho1.cell (by simp) (by simp),cell_new]; rfl
   have c2 : w1.cell? ⟨w.heap.size,2,none⟩ = some (.int .i64 td):=by rw [ho1.cell (by simp) (by simp),cell_new]; rfl
   have c3 : w1.cell? ⟨w.heap.size,3,none⟩ = some (.string (str tn)):=by rw [ho1.cell (by simp) (by simp),cell_new]; rfl
   have o1:=ho.next ho1 (by simp)
   have HR:=texts_any (cap:=1) (ts_one w1 (td,tn) 35) (by intro t ht; simp at ht; subst ht; exact hft) (by simp)
   simp only [tyTexts,List.append_nil,List.length_cons,List.length_nil] at HR
   have HR:=hid HR
   go_wp2_with fail
   refine HR.out.mono ?_
   rintro e w2 ⟨rfl,ho2⟩
   have o2:=(o1.alloc (.cells #[.int .i64 td,.string (str tn)] 35)).next ho2 (by simp)
   have c0 : w2.cell? ⟨w.heap.size,0,none⟩ = some (.slice ao l.length cap):=by rw [ho2.cell (by have:=World.block_lt_of_cell? _ _ c0; simp at this ⊢; omega) (by simp)]; exact cell_alloc _ c0
   clear c1 c2 c3
   have HT:=hid (texts_any (cap:=cap) (hT.only o2 (by simp)) (fun x hx=>check_fit (h2 x hx)) (by omega))
   go_wp2_with fail
   refine HT.out.mono ?_
   rintro e w3 ⟨rfl,ho3⟩
   generalize tyTexts l = u at *
   generalize tyText (td,tn) = v at *
   have k1 : ∀ w,(Op.stringOp .add ⟨#[40]⟩ (str u)).run Tryz.prog w = .ok (.string (str (40 :: u))) w:=fun w=>run_cat [40] u (by simp; omega) w
   have k2 : ∀ w,(Op.stringOp .add (str (40 :: u)) ⟨#[41]⟩).run Tryz.prog w = .ok (.string (str (40 :: (u ++ [41])))) w:=fun w=>run_cat (40 :: u) [41] (by simp; omega) w
   have k3 : ∀ w,(Op.stringOp .add (str (40 :: (u ++ [41]))) (str v)).run Tryz.prog w = .ok (.string (str (40 :: (u ++ 41 :: v)))) w:=fun w=>by
    have:=run_cat (40 :: (u ++ [41])) v (by simp; omega) w
    simp only [List.cons_append,List.append_assoc,List.nil_append] at this
    exact this
   go_wp2
   go_ret2
   exact ⟨by rw [e2.out]; rfl,o2.next ho3 (by simp)⟩
 ·have e1 : stR l void t = []:=by simp [stR,h]
  rw [e1]
  obtain ⟨td,tn⟩:=t
  generalize sigCheck l void (td,tn) = c at *
  simp only [sigV] at HC ⊢
  go_enter Tryz.func120,Tryz.ntmps120
  go_wp2_with fail
  refine HC.out.mono ?_
  rintro e w1 ⟨rfl,ho1⟩
  go_wp2
  go_ret2
  exact ⟨rfl,ho.next ho1 (by simp)⟩


/-- Are two signatures the same? -/
def sameR (a b : List Ty × Bool × Ty) : Bool:=decide (a = b)

theorem sig_new (w : World) (v : Value) (void : Bool) (d : Int) (n : List UInt8) : SigAt (w.alloc (.cells #[v,.bool void,.int .i64 d,.string (str n)] 37)) w.heap.size v void (d,n):=
 ⟨by rw [cell_new]; rfl,by rw [cell_new]; rfl,by rw [cell_new]; rfl,by rw [cell_new]; rfl,frozen_new _ _ _ _,frozen_new _ _ _ _,frozen_new _ _ _ _,frozen_new _ _ _ _⟩

/-- A text that is a type's of no dimensions, named so. -/
structure One (s nm : List UInt8) : Prop where
 read : ∀ n r,n≤8→firstP n (s ++ r) = some (((n : Int),nm),r)
 many : ∀ n r,8 < n→firstP n (s ++ r) = none
 ne : hasOne s 41 = false
 pos : 0 < s.length
 len : s.length≤34

theorem one_number : One [73] []:=by
 refine ⟨fun n r h=>?_,fun n r h=>?_,rfl,by simp,by simp⟩
 ·simp [firstP]
  omega
 ·simp [firstP,h]

theorem sign_semi {c : UInt8} (h : sign c = true) : (c != 59) = true:=by
 rw [bne_iff_ne]
 intro e
 subst e
 revert h
 decide

theorem one_class (n : List UInt8) (h : nameOK n = true) : One (76 :: (n ++ [59])) n:=by
 have ha : n.all sign = true:=by
  unfold nameOK at h
  simp only [Bool.and_eq_true] at h
  exact h.2
 have hl : n.length≤32:=by
  unfold nameOK at h
  simp only [Bool.and_eq_true,decide_eq_true_eq] at h
  exact h.1.1.2
 have hc : ∀ c∈n,(c != 59) = true:=fun c hc=>sign_semi (List.all_eq_true.1 ha c hc)
 have ht : ∀ r,(n ++ 59 :: r).takeWhile (· != 59) = n:=by
  intro r
  rw [List.takeWhile_append_of_pos (by simpa using hc)]
  simp
 have hd : ∀ r,(n ++ 59 :: r).dropWhile (· != 59) = 59 :: r:=by
  intro r
  rw [List.dropWhile_append_of_pos (by simpa using hc)]
  simp
 refine ⟨fun k r hk=>?_,fun k r hk=>?_,rfl,by simp,by simp; omega⟩
 ·have e : 76 :: (n ++ [59]) ++ r = 76 :: (n ++ 59 :: r):=by simp
  rw [e]
  simp only [firstP]
  rw [if_neg (by omega),if_neg (by decide),if_neg (by decide),if_pos trivial]
  unfold classP
  rw [ht,hd,h]
  simp
 ·simp [firstP,hk]

theorem one_dims {s nm : List UInt8} (h : One s nm) (d k : Nat) (r : List UInt8) : firstP k (List.replicate d 91 ++ s ++ r) = if k + d≤8 then some (((k + d : Nat) : Int),nm,r) |>.map (fun x=>((x.1,x.2.1),x.2.2)) else none:=by
 induction d generalizing k with
 | zero=>
  by_cases hk : k≤8
  ·simp [h.read k r hk,hk]
  ·simp [h.many k r (by omega),hk]
 | succ d ih=>
  rw [List.replicate_succ,List.cons_append,List.cons_append,firstP]
  by_cases hk : 8 < k
  ·rw [if_pos hk,if_neg (by omega)]
  ·rw [if_neg hk,if_pos rfl,ih (k + 1)]
   have e : k + 1 + d = k + (d + 1):=by omega
   rw [e]

theorem has_append {s : List UInt8} (hp : 0 < s.length) (hs : hasOne s 41 = false) (r : List UInt8) : hasOne (s ++ r) 41 = false:=by
 cases s with
 | nil=>simp at hp
 | cons a t=>exact hs

theorem check_name {t : Ty} (h : tyCheck t = 0) : t.2 = []∨nameOK t.2 = true:=by
 obtain ⟨d,n⟩:=t
 simp only [tyCheck] at h
 split at h
 ·omega
 ·split at h
  ·omega
  ·rename_i h4
   by_cases hz : n = []
   ·exact .inl hz
   ·right
    cases hn : nameOK n with
    | true=>rfl
    | false=>exact absurd ⟨hz,hn⟩ h4

theorem check_of {d : Int} {n : List UInt8} (h0 : 0≤d) (h8 : d≤8) (hn : n = []∨nameOK n = true) : tyCheck (d,n) = 0:=by
 simp only [tyCheck]
 rw [if_neg (by omega),if_neg]
 rintro ⟨h1,h2⟩
 rcases hn with h | h
 ·exact h1 h
 ·rw [h] at h2
  cases h2

theorem name_ne {n : List UInt8} (h : nameOK n = true) : n≠[]:=by
 intro e
 subst e
 revert h
 decide

theorem one_of {t : Ty} (h : tyCheck t = 0) : One (if t.2 = [] then [73] else 76 :: (t.2 ++ [59])) t.2:=by
 rcases check_name h with e | e
 ·rw [if_pos e,e]
  exact one_number
 ·rw [if_neg (name_ne e)]
  exact one_class t.2 e

theorem first_text {t : Ty} (h : tyCheck t = 0) (r : List UInt8) : firstP 0 (tyText t ++ r) = some (t,r):=by
 obtain ⟨d,n⟩:=t
 have hb:=check_bounds h
 have:=one_dims (one_of h) d.toNat 0 r
 unfold tyText
 rw [this,if_pos (by omega)]
 simp
 omega

theorem text_has {t : Ty} (h : tyCheck t = 0) (r : List UInt8) : hasOne (tyText t ++ r) 41 = false:=by
 have ho:=one_of h
 unfold tyText
 cases t.1.toNat with
 | zero=>
  rw [List.replicate_zero,List.nil_append]
  exact has_append ho.pos ho.ne r
 | succ k=>
  rw [List.replicate_succ]
  rfl

theorem text_pos {t : Ty} (h : tyCheck t = 0) : 0 < (tyText t).length:=by
 have ho:=one_of h
 unfold tyText
 rw [List.length_append]
 have:=ho.pos
 omega

theorem texts_len (l : List Ty) (h : ∀ t∈l,tyCheck t = 0) : l.length≤(tyTexts l).length:=by
 induction l with
 | nil=>simp
 | cons t l ih=>
  have h1:=text_pos (h t (by simp))
  have h2:=ih fun x hx=>h x (by simp [hx])
  simp [tyTexts]
  omega

theorem params_text (l : List Ty) (h : ∀ t∈l,tyCheck t = 0) (f : Nat) (hf : l.length < f) (r : List UInt8) : paramsP f (tyTexts l ++ 41 :: r) = some (l,r):=by
 induction l generalizing f with
 | nil=>
  obtain ⟨f,rfl⟩ : ∃ k,f = k + 1:=⟨f - 1,by omega⟩
  rfl
 | cons t l ih=>
  obtain ⟨f,rfl⟩ : ∃ k,f = k + 1:=⟨f - 1,by omega⟩
  have ht:=h t (by simp)
  rw [tyTexts,List.append_assoc,paramsP,text_has ht,first_text ht]
  simp only [Bool.false_eq_true,if_false]
  rw [ih (fun x hx=>h x (by simp [hx])) f (by simp at hf; omega)]
  rfl

theorem text_void {t : Ty} (h : tyCheck t = 0) : tyText t≠[86]:=by
 intro e
 have:=first_text h []
 rw [List.append_nil,e] at this
 simp [firstP] at this

theorem sig_text {l : List Ty} {v : Bool} {t : Ty} (h : sigCheck l v t = 0) : sigR (sigText l v t) = ((l,v,t),0):=by
 obtain ⟨h1,h2,h3,h4⟩:=sigCheck_ok h
 have hp:=params_text l h2 (sigText l v t).length (by
  have:=texts_len l h2
  simp [sigText]
  omega) (if v = true then [86] else tyText t)
 have hs:=sigP_of (l:=sigText l v t) (all:=l) (rest:=if v = true then [86] else tyText t) rfl hp
 have hr : resultP (if v = true then [86] else tyText t) = some (if v = true then none else some t):=by
  cases v with
  | true=>rfl
  | false=>
   have:=first_text h3 []
   rw [List.append_nil] at this
   simp only [Bool.false_eq_true,if_false]
   unfold resultP
   rw [if_neg (text_void h3),this]
 rw [hr] at hs
 unfold sigR
 rw [hs]
 simp only [Option.map_some]
 rw [if_neg (by omega)]
 cases v with
 | true=>
  rw [h4 rfl]
  rfl
 | false=>rfl

theorem type_text {t : Ty} (h : tyCheck t = 0) : typeR (tyText t) = (t,0):=by
 have:=first_text h []
 rw [List.append_nil] at this
 unfold typeR
 rw [this]

theorem while_split (t : List UInt8) (h : t.dropWhile (· != 59)≠[]) : t = t.takeWhile (· != 59) ++ 59 :: (t.dropWhile (· != 59)).drop 1:=by
 have h1:=List.takeWhile_append_dropWhile (p:=(· != 59)) (l:=t)
 have h2 : t.dropWhile (· != 59) = 59 :: (t.dropWhile (· != 59)).drop 1:=by
  cases hd : t.dropWhile (· != 59) with
  | nil=>exact absurd hd h
  | cons a s=>
   have:=List.head_dropWhile_not (p:=(· != (59 : UInt8))) (l:=t) h
   simp [hd] at this
   simp [this]
 rw [← h2]
 exact h1.symm

theorem first_back : ∀ (l : List UInt8) (n : Nat) (t : Ty) (r : List UInt8),firstP n l = some (t,r)→(n : Int)≤t.1∧t.1≤8∧(t.2 = []∨nameOK t.2 = true)∧l = tyText (t.1 - n,t.2) ++ r:=by
 intro l
 induction l with
 | nil=>intro n t r h; simp [firstP] at h
 | cons c l ih=>
  intro n t r h
  unfold firstP at h
  split at h
  ·cases h
  ·rename_i hn
   split at h
   ·rename_i hc
    obtain ⟨h1,h2,h3,h4⟩:=ih _ _ _ h
    refine ⟨by omega,h2,h3,?_⟩
    rw [h4,hc]
    unfold tyText
    rw [show (t.1 - (n : Int)).toNat = (t.1 - ((n + 1 : Nat) : Int)).toNat + 1 by omega,List.replicate_succ]
    rfl
   ·split at h
    ·rename_i hc
     simp only [Option.some.injEq,Prod.mk.injEq] at h
     obtain ⟨rfl,rfl⟩:=h
     refine ⟨by simp,by simp; omega,.inl rfl,?_⟩
     simp [tyText,hc]
    ·split at h
     ·rename_i hc
      unfold classP at h
      split at h
      ·cases h
      ·rename_i hx
       simp only [not_or] at hx
       simp only [Option.some.injEq,Prod.mk.injEq] at h
       obtain ⟨rfl,rfl⟩:=h
       have hk : nameOK (l.takeWhile (· != 59)) = true:=by
        cases hq : nameOK (l.takeWhile (· != 59)) with
        | true=>rfl
        | false=>exact absurd hq hx.2
       refine ⟨by simp,by simp; omega,.inr hk,?_⟩
       have hs:=while_split l hx.1
       unfold tyText
       simp only [Int.sub_self,Int.toNat_zero,List.replicate_zero,List.nil_append]
       rw [if_neg (name_ne hk),hc]
       simp only [List.cons_append,List.append_assoc,List.nil_append]
       rw [← hs]
     ·cases h

theorem first_read {l : List UInt8} {t : Ty} {r : List UInt8} (h : firstP 0 l = some (t,r)) : tyCheck t = 0∧l = tyText t ++ r:=by
 obtain ⟨h1,h2,h3,h4⟩:=first_back l 0 t r h
 obtain ⟨d,n⟩:=t
 refine ⟨check_of (by simpa using h1) h2 h3,?_⟩
 simpa using h4

theorem type_read (s : List UInt8) (h : (typeR s).2 = 0) : tyCheck (typeR s).1 = 0∧tyText (typeR s).1 = s:=by
 unfold typeR at h ⊢
 split at h
 ·rename_i t hf
  obtain ⟨h1,h2⟩:=first_read hf
  simp only []
  rw [List.append_nil] at h2
  exact ⟨h1,h2.symm⟩
 ·simp at h

theorem params_read : ∀ (f : Nat) (l : List UInt8) (ps : List Ty) (r : List UInt8),paramsP f l = some (ps,r)→(∀ t∈ps,tyCheck t = 0)∧l = tyTexts ps ++ 41 :: r:=by
 intro f
 induction f with
 | zero=>intro l ps r h; simp [paramsP] at h
 | succ f ih=>
  intro l ps r h
  unfold paramsP at h
  split at h
  ·rename_i hh
   simp only [Option.some.injEq,Prod.mk.injEq] at h
   obtain ⟨rfl,rfl⟩:=h
   refine ⟨by simp,?_⟩
   cases l with
   | nil=>simp [hasOne] at hh
   | cons a t=>
    simp [hasOne] at hh
    rw [hh]
    rfl
  ·split at h
   ·cases h
   ·rename_i t q hf
    obtain ⟨h1,h2⟩:=first_read hf
    cases hp : paramsP f q with
    | none=>rw [hp] at h; cases h
    | some x=>
     obtain ⟨ps',r'⟩:=x
     rw [hp] at h
     simp only [Option.map_some,Option.some.injEq,Prod.mk.injEq] at h
     obtain ⟨rfl,rfl⟩:=h
     obtain ⟨h3,h4⟩:=ih q ps' r' hp
     refine ⟨fun x hx=>?_,?_⟩
     ·simp at hx
      rcases hx with rfl | hx
      ·exact h1
      ·exact h3 x hx
     ·rw [h2,h4,tyTexts,List.append_assoc]

theorem sig_read (s : List UInt8) (h : (sigR s).2 = 0) : sigCheck (sigR s).1.1 (sigR s).1.2.1 (sigR s).1.2.2 = 0∧sigText (sigR s).1.1 (sigR s).1.2.1 (sigR s).1.2.2 = s:=by
 unfold sigR at h ⊢
 cases hp : sigP s with
 | none=>rw [hp] at h; simp at h
 | some x=>
  obtain ⟨ps,r⟩:=x
  rw [hp] at h
  simp only [] at h ⊢
  split at h
  ·simp at h
  ·rename_i h16
   rw [if_neg h16]
   unfold sigP at hp
   split at hp
   ·rename_i hh
    cases hq : paramsP s.length (s.drop 1) with
    | none=>rw [hq] at hp; cases hp
    | some y=>
     obtain ⟨ps',q⟩:=y
     rw [hq] at hp
     simp only [Option.bind_some] at hp
     cases hr : resultP q with
     | none=>rw [hr] at hp; cases hp
     | some z=>
      rw [hr] at hp
      simp only [Option.map_some,Option.some.injEq,Prod.mk.injEq] at hp
      obtain ⟨rfl,rfl⟩:=hp
      obtain ⟨h1,h2⟩:=params_read _ _ _ _ hq
      have hs : s = 40 :: s.drop 1:=by
       cases s with
       | nil=>simp [hasOne] at hh
       | cons a t=>
        simp [hasOne] at hh
        rw [hh]
        rfl
      unfold resultP at hr
      have hca:=(checkAll_ok ps').2 h1
      split at hr
      ·rename_i hv
       simp only [Option.some.injEq] at hr
       subst hr
       refine ⟨?_,?_⟩
       ·simp [sigCheck,h16,hca]
        decide
       ·simp only [sigText,Option.isNone_none,if_true]
        rw [← hv,← h2]
        exact hs.symm
      ·split at hr
       ·rename_i t hf
        simp only [Option.some.injEq] at hr
        subst hr
        obtain ⟨h3,h4⟩:=first_read hf
        rw [List.append_nil] at h4
        refine ⟨?_,?_⟩
        ·simp [sigCheck,h16,hca,h3]
        ·simp only [sigText,Option.isNone_some,Bool.false_eq_true,if_false,Option.getD_some]
         rw [← h4,← h2]
         exact hs.symm
       ·cases hr
   ·cases hp


/-- Two signatures made. -/
theorem sig_new2 (w : World) (v : Value) (void : Bool) (d : Int) (n : List UInt8) :
  SigAt ((w.alloc (.cells #[.slice none 0 0,.bool false,.int .i64 0,.string ⟨#[]⟩] 37)).alloc (.cells #[v,.bool void,.int .i64 d,.string (str n)] 37)) w.heap.size (.slice none 0 0) false (0,[]) ∧
  SigAt ((w.alloc (.cells #[.slice none 0 0,.bool false,.int .i64 0,.string ⟨#[]⟩] 37)).alloc (.cells #[v,.bool void,.int .i64 d,.string (str n)] 37)) (w.heap.size + 1) v void (d,n):=by
 have s1:=sig_new w (.slice none 0 0) false 0 []
 have s2:=sig_new (w.alloc (.cells #[.slice none 0 0,.bool false,.int .i64 0,.string ⟨#[]⟩] 37)) v void d n
 rw [World.size_alloc] at s2
 exact ⟨s1.only ((Only.refl [] _).alloc _) (by simp),s2⟩

end Go.Proofs.YtildemmkhndhjaaGreatDoor
