/-
  What the proof leans on, part 25 of 48. The conditions stand in each theorem.
-/
import Derived.Test.YtildemmkhndhjaaGreatDoorB19
import Derived.Test.YtildemmkhndhjaaGreatDoorB08
namespace Go.Proofs.YtildemmkhndhjaaGreatDoor
open Go.RowKit

theorem right_no {l : List En} {i kind : Int} (h : (rightE l i kind).2≠0) : rightE l i kind = (en0,(rightE l i kind).2):=by
 unfold rightE at h ⊢
 split
 ·rename_i e he
  rw [he] at h
  simp only at h ⊢
  by_cases hk : e.1 = kind
  ·by_cases hw : wrongE l e = 0
   ·simp [hk,hw] at h
   ·simp [hk,hw]
  ·simp [hk]
 ·rfl

theorem held_has {l : List En} {i kind : Int} (h : hasE l i kind = false) : rightE l i kind = (en0,16):=by
 unfold rightE
 unfold hasE at h
 cases he : enAt l i with
 | none=>rfl
 | some e=>
  rw [he] at h
  simp at h
  simp [h]

theorem held_wrong {l : List En} {j : Nat} {kind : Int} {e : En} (he : enAt l (j : Int) = some e) (hk : e.1 = kind) : rightE l (j : Int) kind = if wrongE l e = 0 then (e,0) else (en0,wrongE l e):=by
 unfold rightE
 rw [he]
 simp only [hk,if_true]

set_option maxHeartbeats 400000 in
set_option maxRecDepth 100000 in
theorem rheld_low {w : World} {ao : Option Addr} {l : List En} {d cap : Nat} (hE : ES w ao l d) (hl : l.length≤9223372036854775807) (hA : ∀ e∈l,e.2.1.length≤1048576) (i kind : Int) (h5 : kind < 5) :
  Calls Tryz.prog 236 #[.slice ao l.length cap,.int .i64 i,.int .i64 kind] w fun r w'=>r = .returned (.int .i64 (rightE l i kind).2)∧Only [] w w':=by
 have HH:=ris_any (cap:=cap) hE hl i kind
 have g5 : ¬ (5≤kind):=by omega
 cases h : hasE l i kind with
 | false=>
  rw [held_has h]
  rw [h] at HH
  clear h hE
  replace HH:=hid HH
  go_enter Tryz.func236,Tryz.ntmps236
  go_wp2_with (go_at_call 181; refine HH.out.mono ?_; rintro e w' ⟨rfl,rfl⟩)
  go_ret
  exact ⟨rfl,Only.refl _ _⟩
 | true=>
  obtain ⟨e,he,hk⟩:=hasE_kind h
  have hR : (rightE l i kind).2 = wrongE l e:=by
   obtain ⟨j,hj,rfl,rfl⟩:=enAt_some he
   rw [held_wrong he hk]
   split
   ·rename_i h0
    exact h0.symm
   ·rfl
  rw [hR]
  rw [h] at HH
  obtain ⟨j,hj,rfl,rfl⟩:=enAt_some he
  have HW:=rwrong_any (cap:=cap) hE hl hA j hj
  clear h hE hR hk he
  generalize wrongE l l[j] = c at *
  replace HH:=hid HH
  replace HW:=hid HW
  by_cases hc : c = 0
  ·subst hc
   go_enter Tryz.func236,Tryz.ntmps236
   go_wp2_with (first | (go_at_call 181; refine HH.out.mono ?_; rintro e w' ⟨rfl,rfl⟩) | (go_at_call 151; refine HW.out.mono ?_; rintro e w1 ⟨rfl,ho1⟩))
   go_ret
   exact ⟨rfl,ho1⟩
  ·have g3 : (c == 0) = false:=by simpa using hc
   go_enter Tryz.func236,Tryz.ntmps236
   go_wp2_with (first | (go_at_call 181; refine HH.out.mono ?_; rintro e w' ⟨rfl,rfl⟩) | (go_at_call 151; refine HW.out.mono ?_; rintro e w1 ⟨rfl,ho1⟩))
   go_ret
   exact ⟨rfl,ho1⟩

/-- The numbers and texts that a field's or a method's entry uses. -/
structure MemAt (l : List En) (j : Nat) (kind : Int) (ja jb jc : Nat) (sb sc : List UInt8) : Prop where
 lj : j < l.length
 la : ja < l.length
 lb : jb < l.length
 lc : jc < l.length
 ea : enAt l (j : Int) = some (kind,[],0,(ja : Int),(jb : Int),(jc : Int))
 ka : l[ja].1 = 3
 tb : l[jb].2.1 = sb
 tc : l[jc].2.1 = sc
 xb : textAt l (jb : Int) = some sb
 xc : textAt l (jc : Int) = some sc

theorem member_at {l : List En} {j : Nat} {kind : Int} (hkd : kind = 5∨kind = 6) {e : En} (he : enAt l (j : Int) = some e) (hk : e.1 = kind) (hw : wrongE l e = 0) : ∃ ja jb jc sb sc,MemAt l j kind ja jb jc sb sc∧e = (kind,[],0,(ja : Int),(jb : Int),(jc : Int)):=by
 have hx : hasE l e.2.2.2.1 3 = true∧(∃ s,textAt l e.2.2.2.2.1 = some s)∧∃ s,textAt l e.2.2.2.2.2 = some s:=by
  rcases hkd with rfl | rfl
  ·obtain ⟨h1,⟨s,hs,_⟩,t,ht,_⟩:=wrong_field hw hk
   exact ⟨h1,⟨s,hs⟩,t,ht⟩
  ·obtain ⟨h1,⟨s,hs,_⟩,t,ht,_⟩:=wrong_method hw hk
   exact ⟨h1,⟨s,hs⟩,t,ht⟩
 obtain ⟨_,_,hu⟩:=wrong_used hw
 obtain ⟨hc,⟨sb,hb⟩,sc,hcc⟩:=hx
 obtain ⟨ea,hea,hka⟩:=hasE_kind hc
 obtain ⟨eb,heb,_,htb⟩:=textAt_some hb
 obtain ⟨ec,hec,_,htc⟩:=textAt_some hcc
 obtain ⟨ja,hja,qa,ra⟩:=enAt_some hea
 obtain ⟨jb,hjb,qb,rb⟩:=enAt_some heb
 obtain ⟨jc,hjc,qc,rc⟩:=enAt_some hec
 have hee : e = (kind,[],0,(ja : Int),(jb : Int),(jc : Int)):=by
  obtain ⟨k,t,n,a,b,c⟩:=e
  simp only at hk qa qb qc hu
  subst hk qa qb qc
  rcases hkd with rfl | rfl
  ·simpa [usedE] using hu
  ·simpa [usedE] using hu
 obtain ⟨j',hj',q,_⟩:=enAt_some he
 have : j' = j:=by omega
 subst this
 refine ⟨ja,jb,jc,sb,sc,⟨hj',hja,hjb,hjc,by rw [he,hee],by rw [ra]; exact hka,by rw [rb]; exact htb,by rw [rc]; exact htc,by rw [← qb]; exact hb,by rw [← qc]; exact hcc⟩,hee⟩

theorem member_val {l : List En} {j : Nat} {kind : Int} {ja jb jc : Nat} {sb sc : List UInt8} (h : MemAt l j kind ja jb jc sb sc) (hw : wrongE l (kind,[],0,(ja : Int),(jb : Int),(jc : Int)) = 0) :
  memberR l (j : Int) kind = if wrongE l (l[ja]'h.la) = 0 then (((classR l (ja : Int)).1,sb,sc),0) else (([],[],[]),wrongE l (l[ja]'h.la)):=by
 have hr : rightE l (j : Int) kind = ((kind,[],0,(ja : Int),(jb : Int),(jc : Int)),0):=by
  rw [held_wrong h.ea rfl,if_pos hw]
 have hcl : (classR l (ja : Int)).2 = wrongE l (l[ja]'h.la):=by
  unfold classR
  rw [held_wrong (enAt_nat ja h.la) h.ka]
  split
  ·rename_i h0
   rw [h0]
   rfl
  ·rfl
 unfold memberR
 rw [hr]
 simp only [if_true,textAt_textOf h.xb,textAt_textOf h.xc,hcl]

set_option maxHeartbeats 400000 in
set_option maxRecDepth 100000 in
theorem rheld_high {w : World} {ao : Option Addr} {l : List En} {d cap : Nat} (hE : ES w ao l d) (hl : l.length≤9223372036854775807) (hA : ∀ e∈l,e.2.1.length≤1048576) (i kind : Int) (hkd : kind = 5∨kind = 6) :
  Calls Tryz.prog 236 #[.slice ao l.length cap,.int .i64 i,.int .i64 kind] w fun r w'=>r = .returned (.int .i64 (memberR l i kind).2)∧Only [] w w':=by
 have HH:=ris_any (cap:=cap) hE hl i kind
 have g5 : 5≤kind:=by omega
 cases h : hasE l i kind with
 | false=>
  have e1 : (memberR l i kind).2 = 16:=by
   unfold memberR
   rw [held_has h]
   simp
  rw [e1]
  rw [h] at HH
  clear h hE e1
  replace HH:=hid HH
  go_enter Tryz.func236,Tryz.ntmps236
  go_wp2_with (go_at_call 181; refine HH.out.mono ?_; rintro e w' ⟨rfl,rfl⟩)
  go_ret
  exact ⟨rfl,Only.refl _ _⟩
 | true=>
  obtain ⟨e,he,hk⟩:=hasE_kind h
  obtain ⟨j,hj,rfl,hje⟩:=enAt_some he
  have HW:=rwrong_any (cap:=cap) hE hl hA j hj
  rw [hje] at HW
  rw [h] at HH
  clear h
  by_cases hc : wrongE l e = 0
  ·obtain ⟨ja,jb,jc,sb,sc,hM,rfl⟩:=member_at hkd he hk hc
   have hv:=member_val hM hc
   have e1 : (memberR l (j : Int) kind).2 = wrongE l (l[ja]'hM.la):=by
    rw [hv]
    split
    ·rename_i h0
     exact h0.symm
    ·rfl
   rw [e1]
   rw [hc] at HW
   have hJ:=fun W (hW : Only [] w W)=>(hE.only hW (by simp)).at hj
   rw [hje] at hJ
   have HW2:=fun W (hW : Only [] w W)=>rwrong_any (cap:=cap) (hE.only hW (by simp)) hl hA ja hM.la
   generalize wrongE l (l[ja]'hM.la) = c2 at *
   have ga : ((ja : Int) < (l.length : Int)):=by have:=hM.la; omega
   have gj : ((j : Int) < (l.length : Int)):=by omega
   clear hE he hk hc hv e1 hM hje hkd
   replace HH:=hid HH
   replace HW:=hid HW
   replace HW2:=hid HW2
   replace hJ:=hid hJ
   go_enter Tryz.func236,Tryz.ntmps236
   go_wp2_with (first | (go_at_call 181; refine HH.out.mono ?_; rintro e w' ⟨rfl,rfl⟩) | fail)
   refine HW.out.mono ?_
   rintro e w1 ⟨rfl,ho1⟩
   obtain ⟨off,rfl,y0,y1,y2,y3,y4,y5⟩:=hJ.out w1 ho1
   simp only at y3
   replace HW2:=hid (HW2.out w1 ho1)
   go_wp2_with fail
   refine HW2.out.mono ?_
   rintro e w2 ⟨rfl,ho2⟩
   go_wp2
   go_ret
   exact ⟨rfl,ho1.next ho2 (by simp)⟩
  ·have e1 : (memberR l (j : Int) kind).2 = wrongE l e:=by
    unfold memberR
    rw [held_wrong he hk,if_neg hc]
    simp [hc]
   rw [e1]
   clear hE he hk e1 hje hkd
   generalize wrongE l e = c at *
   have g3 : (c == 0) = false:=by simpa using hc
   replace HH:=hid HH
   replace HW:=hid HW
   go_enter Tryz.func236,Tryz.ntmps236
   go_wp2_with (first | (go_at_call 181; refine HH.out.mono ?_; rintro e w' ⟨rfl,rfl⟩) | (go_at_call 151; refine HW.out.mono ?_; rintro e w1 ⟨rfl,ho1⟩))
   go_ret
   exact ⟨rfl,ho1⟩


set_option maxHeartbeats 400000 in
set_option maxRecDepth 100000 in
theorem rpnumber_any {w : World} {ao : Option Addr} {l : List En} {d cap : Nat} (hE : ES w ao l d) (hl : l.length≤9223372036854775807) (hA : ∀ e∈l,e.2.1.length≤1048576) (i : Int) :
  Calls Tryz.prog 227 #[.slice ao l.length cap,.int .i64 i] w fun r w'=>r = .returned (.tuple #[.int .i64 (numberR l i).1,.int .i64 (numberR l i).2])∧Only [] w w':=by
 have HR:=rheld_low (cap:=cap) hE hl hA i 2 (by omega)
 by_cases h0 : (rightE l i 2).2 = 0
 ·obtain ⟨e,he,hk,hw,hR⟩:=right_ok h0
  have e1 : numberR l i = (e.2.2.1,0):=by unfold numberR; rw [hR]
  rw [e1]
  rw [h0] at HR
  obtain ⟨j,hj,rfl,rfl⟩:=enAt_some he
  have hJ:=fun W (hW : Only [] w W)=>(hE.only hW (by simp)).at hj
  generalize l[j] = e at *
  obtain ⟨k,t,n,a,b,c⟩:=e
  simp only at *
  have gj : ((j : Int) < (l.length : Int)):=by omega
  clear hE hA h0 he hk hw hR e1
  replace HR:=hid HR
  replace hJ:=hid hJ
  go_enter Tryz.func227,Tryz.ntmps227
  go_wp2_with fail
  refine HR.out.mono ?_
  rintro e w1 ⟨rfl,ho1⟩
  obtain ⟨off,rfl,y0,y1,y2,y3,y4,y5⟩:=hJ.out w1 ho1
  simp only at y2
  go_wp2
  go_ret2
  exact ⟨rfl,ho1⟩
 ·have e1 : numberR l i = (0,(rightE l i 2).2):=by
   unfold numberR
   rw [right_no h0]
   simp [en0]
  rw [e1]
  generalize (rightE l i 2).2 = er at *
  have g3 : (er == 0) = false:=by simpa using h0
  clear hE hA e1
  replace HR:=hid HR
  go_enter Tryz.func227,Tryz.ntmps227
  go_wp2_with (go_at_call 236; refine HR.out.mono ?_; rintro e w1 ⟨rfl,ho1⟩)
  go_ret2
  exact ⟨rfl,ho1⟩

set_option maxHeartbeats 400000 in
set_option maxRecDepth 100000 in
theorem rpclass_any {w : World} {ao : Option Addr} {l : List En} {d cap : Nat} (hE : ES w ao l d) (hl : l.length≤9223372036854775807) (hA : ∀ e∈l,e.2.1.length≤1048576) (i : Int) :
  Calls Tryz.prog 228 #[.slice ao l.length cap,.int .i64 i] w fun r w'=>r = .returned (.tuple #[.string (str (classR l i).1),.int .i64 (classR l i).2])∧Only [] w w':=by
 have HR:=rheld_low (cap:=cap) hE hl hA i 3 (by omega)
 by_cases h0 : (rightE l i 3).2 = 0
 ·obtain ⟨e,he,hk,hw,hR⟩:=right_ok h0
  obtain ⟨s,hs,_⟩:=wrong_class hw hk
  have e1 : classR l i = (s,0):=by
   unfold classR
   rw [hR]
   simp [textAt_textOf hs]
  rw [e1]
  rw [h0] at HR
  obtain ⟨j,hj,rfl,rfl⟩:=enAt_some he
  have hJ:=fun W (hW : Only [] w W)=>(hE.only hW (by simp)).at hj
  have hS:=fun W (hW : Only [] w W)=>text_cell (hE.only hW (by simp)) hs
  generalize l[j] = e at *
  obtain ⟨k,t,n,a,b,c⟩:=e
  simp only at *
  have gj : ((j : Int) < (l.length : Int)):=by omega
  clear hE hA h0 he hk hw hR hs e1
  replace HR:=hid HR
  replace hJ:=hid hJ
  replace hS:=hid hS
  go_enter Tryz.func228,Tryz.ntmps228
  go_wp2_with fail
  refine HR.out.mono ?_
  rintro e w1 ⟨rfl,ho1⟩
  obtain ⟨js,off',rfl,hjs,hao,hc,_⟩:=hS.out w1 ho1
  obtain ⟨off,hao2,y0,y1,y2,y3,y4,y5⟩:=hJ.out w1 ho1
  rw [hao] at hao2
  simp at hao2
  subst hao2
  subst hao
  simp only at y3
  have gs : ((js : Int) < (l.length : Int)):=by omega
  go_wp2
  go_ret2
  exact ⟨rfl,ho1⟩
 ·have e1 : classR l i = ([],(rightE l i 3).2):=by simp [classR,h0]
  rw [e1]
  generalize (rightE l i 3).2 = er at *
  have g3 : (er == 0) = false:=by simpa using h0
  clear hE hA e1
  replace HR:=hid HR
  go_enter Tryz.func228,Tryz.ntmps228
  go_wp2_with (go_at_call 236; refine HR.out.mono ?_; rintro e w1 ⟨rfl,ho1⟩)
  go_ret2
  exact ⟨rfl,ho1⟩

theorem rptype_result {w : World} {b : Nat} {t : Ty} {x : Value} (h : TyAt w b t) (tmps : Array Value) (h2 : tmps.getD 4 undef = .pointer (some ⟨b,0,none⟩)) (h3 : tmps.getD 5 undef = x) :
  (results Tryz.f230 tmps).run Tryz.prog w = .ok (.tuple #[tyV t,x]) w:=by
 obtain ⟨c0,c1,_,_⟩:=h
 rw [results_cell_tmp (p:=4) (u:=5) (ty:=35) Tryz.results230,h2,h3]
 simp [go_sem,c0,c1,tyV]

set_option maxHeartbeats 400000 in
set_option maxRecDepth 100000 in
theorem rptype_any {w : World} {ao : Option Addr} {l : List En} {d cap : Nat} (hE : ES w ao l d) (hl : l.length≤9223372036854775807) (hA : ∀ e∈l,e.2.1.length≤1048576) (i : Int) :
  Calls Tryz.prog 230 #[.slice ao l.length cap,.int .i64 i] w fun r w'=>r = .returned (.tuple #[tyV (typeAtR l i).1,.int .i64 (typeAtR l i).2])∧Only [] w w':=by
 have o0:=(Only.refl [] w).alloc (.cells #[.int .i64 0,.string ⟨#[]⟩] 35)
 have T0:=tyAt_new' w 0 []
 have HR:=rheld_low (cap:=cap) (hE.only o0 (by simp)) hl hA i 4 (by omega)
 by_cases h0 : (rightE l i 4).2 = 0
 ·obtain ⟨e,he,hk,hw,hR⟩:=right_ok h0
  obtain ⟨s,hs,hz⟩:=wrong_type hw hk
  have e1 : typeAtR l i = typeR s:=by
   unfold typeAtR
   rw [hR]
   simp [textAt_textOf hs]
  rw [e1]
  rw [h0] at HR
  obtain ⟨j,hj,rfl,rfl⟩:=enAt_some he
  have hJ:=fun W (hW : Only [] w W)=>(hE.only hW (by simp)).at hj
  have hS:=fun W (hW : Only [] w W)=>text_cell (hE.only hW (by simp)) hs
  have hm:=text_mem hs
  have HT:=fun W=>rtype_any s (by have:=small_text hA hm; omega) W
  generalize l[j] = e at *
  obtain ⟨k,t,n,a,b,c⟩:=e
  generalize typeR s = X at *
  obtain ⟨⟨xd,xn⟩,xe⟩:=X
  simp only at *
  subst hz
  simp only [tyV] at HT ⊢
  have gj : ((j : Int) < (l.length : Int)):=by omega
  clear hE hA h0 he hk hw hR hs e1 hm
  replace HR:=hid HR
  replace hJ:=hid hJ
  replace hS:=hid hS
  replace HT:=hid HT
  replace T0:=hid T0
  go_enter Tryz.func230,Tryz.ntmps230
  go_wp2_with fail
  refine HR.out.mono ?_
  rintro e w1 ⟨rfl,ho1⟩
  have o1:=o0.next ho1 (by simp)
  obtain ⟨js,off',rfl,hjs,hao,hc,_⟩:=hS.out w1 o1
  obtain ⟨off,hao2,y0,y1,y2,y3,y4,y5⟩:=hJ.out w1 o1
  rw [hao] at hao2
  simp at hao2
  subst hao2
  subst hao
  simp only at y3
  have gs : ((js : Int) < (l.length : Int)):=by omega
  go_wp2_with fail
  refine (HT.out _).mono ?_
  rintro e w2 ⟨rfl,ho2⟩
  have T1:=hid ((T0.out.only ho1 (by simp)).only ho2 (by simp))
  obtain ⟨t0,t1,f0,f1⟩:=T1.out
  go_wp2
  exact bodyPost_ret (rptype_result (T1.out.put xd xn) _ rfl rfl) rfl ⟨rfl,((o1.next ho2 (by simp)).setCell (.inr (by simp)) _).setCell (.inr (by simp)) _⟩
 ·have e1 : typeAtR l i = ((0,[]),(rightE l i 4).2):=by simp [typeAtR,h0]
  rw [e1]
  generalize (rightE l i 4).2 = er at *
  have g3 : (er == 0) = false:=by simpa using h0
  simp only [tyV]
  clear hE hA e1
  replace HR:=hid HR
  replace T0:=hid T0
  go_enter Tryz.func230,Tryz.ntmps230
  go_wp2_with fail
  refine HR.out.mono ?_
  rintro e w1 ⟨rfl,ho1⟩
  have o1:=o0.next ho1 (by simp)
  have T1:=hid (T0.out.only ho1 (by simp))
  obtain ⟨t0,t1,f0,f1⟩:=T1.out
  go_wp2
  exact bodyPost_ret (rptype_result (T1.out.put 0 []) _ rfl rfl) rfl ⟨rfl,(o1.setCell (.inr (by simp)) _).setCell (.inr (by simp)) _⟩


/-- All that a field or a method says. -/
structure MemFull (l : List En) (j : Nat) (kind : Int) (ja jb jc jn : Nat) (cls sb sc : List UInt8) : Prop where
 m : MemAt l j kind ja jb jc sb sc
 ln : jn < l.length
 en : (l[ja]'m.la).2.2.2.1 = (jn : Int)
 tn : l[jn].2.1 = cls
 val : memberR l (j : Int) kind = ((cls,sb,sc),0)
 ok : wrongE l (kind,[],0,(ja : Int),(jb : Int),(jc : Int)) = 0

theorem member_full {l : List En} {i kind : Int} (hkd : kind = 5∨kind = 6) (h : (memberR l i kind).2 = 0) : ∃ j ja jb jc jn cls sb sc,i = ((j : Nat) : Int)∧MemFull l j kind ja jb jc jn cls sb sc:=by
 have h0 : (rightE l i kind).2 = 0:=by
  by_cases h0 : (rightE l i kind).2 = 0
  ·exact h0
  ·exfalso
   unfold memberR at h
   rw [if_neg h0] at h
   exact h0 h
 obtain ⟨e,he,hk,hw,hR⟩:=right_ok h0
 obtain ⟨j,hj,rfl,hje⟩:=enAt_some he
 obtain ⟨ja,jb,jc,sb,sc,hM,rfl⟩:=member_at hkd he hk hw
 have hv:=member_val hM hw
 have hwa : wrongE l (l[ja]'hM.la) = 0:=by
  by_cases h1 : wrongE l (l[ja]'hM.la) = 0
  ·exact h1
  ·rw [hv,if_neg h1] at h
   exact absurd h h1
 rw [if_pos hwa] at hv
 obtain ⟨cls,hcl,_⟩:=wrong_class hwa hM.ka
 obtain ⟨en,hen,_,htn⟩:=textAt_some hcl
 obtain ⟨jn,hjn,q,rfl⟩:=enAt_some hen
 have hcv : (classR l (ja : Int)).1 = cls:=by
  unfold classR
  rw [held_wrong (enAt_nat ja hM.la) hM.ka,if_pos hwa]
  simp [textAt_textOf hcl]
 exact ⟨j,ja,jb,jc,jn,cls,sb,sc,rfl,hM,hjn,q,htn,by rw [hv,hcv],hw⟩

theorem mem_cells {W : World} {ao : Option Addr} {l : List En} {d : Nat} (hE : ES W ao l d) {j : Nat} {kind : Int} {ja jb jc jn : Nat} {cls sb sc : List UInt8} (h : MemFull l j kind ja jb jc jn cls sb sc) :
  ∃ off,ao = some ⟨d,off,none⟩∧W.cell? ⟨d,off + j * 6 + 3,none⟩ = some (.int .i64 (ja : Int))∧W.cell? ⟨d,off + j * 6 + 4,none⟩ = some (.int .i64 (jb : Int))∧W.cell? ⟨d,off + j * 6 + 5,none⟩ = some (.int .i64 (jc : Int))∧W.cell? ⟨d,off + ja * 6 + 3,none⟩ = some (.int .i64 (jn : Int)) ∧
   W.cell? ⟨d,off + jn * 6 + 1,none⟩ = some (.string (str cls))∧W.cell? ⟨d,off + jb * 6 + 1,none⟩ = some (.string (str sb))∧W.cell? ⟨d,off + jc * 6 + 1,none⟩ = some (.string (str sc)):=by
 have hj : l[j]'h.m.lj = (kind,[],0,(ja : Int),(jb : Int),(jc : Int)):=by
  have:=h.m.ea
  rw [enAt_nat j h.m.lj] at this
  simpa using this
 rcases hE with e | ⟨off,rfl,hc⟩
 ·have:=h.ln
  rw [e] at this
  simp at this
 ·have c1:=hc j h.m.lj
  have c2:=hc ja h.m.la
  have c3:=hc jn h.ln
  have c4:=hc jb h.m.lb
  have c5:=hc jc h.m.lc
  refine ⟨off,rfl,?_,?_,?_,?_,?_,?_,?_⟩
  ·rw [c1.c3,hj]
  ·rw [c1.c4,hj]
  ·rw [c1.c5,hj]
  ·rw [c2.c3,h.en]
  ·rw [c3.c1,h.tn]
  ·rw [c4.c1,h.m.tb]
  ·rw [c5.c1,h.m.tc]

theorem rpfield_result {w : World} {b : Nat} {t : Ty} {x y z : Value} (h : TyAt w b t) (tmps : Array Value) (h1 : tmps.getD 4 undef = x) (h2 : tmps.getD 5 undef = y) (h3 : tmps.getD 6 undef = .pointer (some ⟨b,0,none⟩)) (h4 : tmps.getD 7 undef = z) :
  (results Tryz.f229 tmps).run Tryz.prog w = .ok (.tuple #[x,y,tyV t,z]) w:=by
 obtain ⟨c0,c1,_,_⟩:=h
 rw [results_ttct (p:=4) (q:=5) (r:=6) (u:=7) (ty:=35) Tryz.results229,h1,h2,h3,h4]
 simp [go_sem,c0,c1,tyV]

theorem rpmethod_result {w : World} {b : Nat} {v : Value} {void : Bool} {t : Ty} {x y z : Value} (h : SigAt w b v void t) (tmps : Array Value) (h1 : tmps.getD 4 undef = x) (h2 : tmps.getD 5 undef = y) (h3 : tmps.getD 6 undef = .pointer (some ⟨b,0,none⟩)) (h4 : tmps.getD 7 undef = z) :
  (results Tryz.f232 tmps).run Tryz.prog w = .ok (.tuple #[x,y,sigV v void t,z]) w:=by
 obtain ⟨c0,c1,c2,c3,_,_,_,_⟩:=h
 rw [results_ttct (p:=4) (q:=5) (r:=6) (u:=7) (ty:=37) Tryz.results232,h1,h2,h3,h4]
 simp [go_sem,c0,c1,c2,c3,sigV]

set_option maxHeartbeats 1000000 in
set_option maxRecDepth 100000 in
theorem rpfield_any {w : World} {ao : Option Addr} {l : List En} {d cap : Nat} (hE : ES w ao l d) (hl : l.length≤9223372036854775807) (hA : ∀ e∈l,e.2.1.length≤1048576) (i : Int) :
  Calls Tryz.prog 229 #[.slice ao l.length cap,.int .i64 i] w fun r w'=>r = .returned (.tuple #[.string (str (fieldR l i).1.1),.string (str (fieldR l i).1.2.1),tyV (fieldR l i).1.2.2,.int .i64 (fieldR l i).2])∧Only [] w w':=by
 have o0:=(Only.refl [] w).alloc (.cells #[.int .i64 0,.string ⟨#[]⟩] 35)
 have T0:=tyAt_new' w 0 []
 have HM:=rheld_high (cap:=cap) (hE.only o0 (by simp)) hl hA i 5 (.inl rfl)
 by_cases hx : (memberR l i 5).2 = 0
 ·obtain ⟨j,ja,jb,jc,jn,cls,sb,sc,rfl,hF⟩:=member_full (.inl rfl) hx
  have hz : (typeR sc).2 = 0:=by
   obtain ⟨_,_,s,hs,hz⟩:=wrong_field hF.ok rfl
   simp only at hs
   rw [hF.m.xc] at hs
   simp at hs
   rw [hs]
   exact hz
  have e1 : fieldR l (j : Int) = ((cls,sb,(typeR sc).1),0):=by
   unfold fieldR
   rw [hF.val]
   simp [hz]
  rw [e1]
  rw [hx] at HM
  have HT:=fun W=>rtype_any sc (by have:=small_text hA (text_mem hF.m.xc); omega) W
  have hJ:=fun W (hW : Only [] w W)=>mem_cells (hE.only hW (by simp)) hF
  generalize typeR sc = Y at *
  obtain ⟨⟨yd,yn⟩,ye⟩:=Y
  simp only at hz
  subst hz
  simp only [tyV] at HT ⊢
  have gj : ((j : Int) < (l.length : Int)):=by have:=hF.m.lj; omega
  have ga : ((ja : Int) < (l.length : Int)):=by have:=hF.m.la; omega
  have gb : ((jb : Int) < (l.length : Int)):=by have:=hF.m.lb; omega
  have gc : ((jc : Int) < (l.length : Int)):=by have:=hF.m.lc; omega
  have gn : ((jn : Int) < (l.length : Int)):=by have:=hF.ln; omega
  clear hE hA e1 hF hx
  replace HT:=hid HT
  replace HM:=hid HM
  replace T0:=hid T0
  replace hJ:=hid hJ
  go_enter Tryz.func229,Tryz.ntmps229
  go_wp2_with fail
  refine HM.out.mono ?_
  rintro e w1 ⟨rfl,ho1⟩
  have o1:=o0.next ho1 (by simp)
  obtain ⟨off,hao,z1,z2,z3,z4,z5,z6,z7⟩:=hJ.out w1 o1
  subst hao
  go_wp2_with fail
  refine (HT.out _).mono ?_
  rintro e w2 ⟨rfl,ho2⟩
  have o2:=o1.next ho2 (by simp)
  have hB : w.heap.size < w2.heap.size:=by have:=ho1.size; have:=ho2.size; simp at *; omega
  clear z1 z2 z3 z4 z5 z6 z7
  obtain ⟨off',hao,z1,z2,z3,z4,z5,z6,z7⟩:=hJ.out w2 o2
  simp at hao
  subst hao
  have q1:=fun o=>cell_alloc o z1
  have q2:=fun o=>cell_alloc o z2
  have q3:=fun o=>cell_alloc o z3
  have q4:=fun o=>cell_alloc o z4
  have q5:=fun o=>cell_alloc o z5
  have q6:=fun o=>cell_alloc o z6
  have q7:=fun o=>cell_alloc o z7
  have T2:=hid ((T0.out.only ho1 (by simp)).only ho2 (by simp))
  obtain ⟨t0,t1,f0,f1⟩:=T2.out
  have t0' : ∀ o,(w2.alloc o).cell? ⟨w.heap.size,0,none⟩ = some (.int .i64 0):=fun o=>cell_alloc o t0
  have t1' : ∀ o,(w2.alloc o).cell? ⟨w.heap.size,1,none⟩ = some (.string (str [])):=fun o=>cell_alloc o t1
  have f0' : ∀ o,(w2.alloc o).frozen? ⟨w.heap.size,0,none⟩ = false:=fun o=>by rw [frozen_alloc o hB]; exact f0
  have f1' : ∀ o,(w2.alloc o).frozen? ⟨w.heap.size,1,none⟩ = false:=fun o=>by rw [frozen_alloc o hB]; exact f1
  go_wp2_with fail
  go_region
  go_wp2
  exact bodyPost_ret (rpfield_result ((T2.out.put yd yn).only (((Only.refl [] _).alloc _).drew) (by simp)) _ rfl rfl rfl rfl) rfl ⟨rfl,(((o2.setCell (.inr (by simp)) _).setCell (.inr (by simp)) _).alloc _).drew⟩
 ·have e1 : fieldR l i = (([],[],(0,[])),(memberR l i 5).2):=by simp [fieldR,hx]
  rw [e1]
  generalize (memberR l i 5).2 = xe at *
  have g3 : (xe == 0) = false:=by simpa using hx
  simp only [tyV]
  clear hE hA e1
  replace HM:=hid HM
  replace T0:=hid T0
  go_enter Tryz.func229,Tryz.ntmps229
  go_wp2_with fail
  refine HM.out.mono ?_
  rintro e w1 ⟨rfl,ho1⟩
  have o1:=o0.next ho1 (by simp)
  have T1:=hid (T0.out.only ho1 (by simp))
  obtain ⟨t0,t1,f0,f1⟩:=T1.out
  go_wp2
  exact bodyPost_ret (rpfield_result (T1.out.put 0 []) _ rfl rfl rfl rfl) rfl ⟨rfl,(o1.setCell (.inr (by simp)) _).setCell (.inr (by simp)) _⟩

set_option maxHeartbeats 1000000 in
set_option maxRecDepth 100000 in
theorem rpmethod_any {w : World} {ao : Option Addr} {l : List En} {d cap : Nat} (hE : ES w ao l d) (hl : l.length≤9223372036854775807) (hA : ∀ e∈l,e.2.1.length≤1048576) (i : Int) :
  Calls Tryz.prog 232 #[.slice ao l.length cap,.int .i64 i] w fun r w'=>∃ vo vc,r = .returned (.tuple #[.string (str (methodR l i).1.1),.string (str (methodR l i).1.2.1),sigV (.slice vo (methodR l i).1.2.2.1.length vc) (methodR l i).1.2.2.2.1 (methodR l i).1.2.2.2.2,.int .i64 (methodR l i).2])∧Own w' w.heap.size (.slice vo (methodR l i).1.2.2.1.length vc) (methodR l i).1.2.2.1∧Only [] w w':=by
 have o0:=(Only.refl [] w).alloc (.cells #[.slice none 0 0,.bool false,.int .i64 0,.string ⟨#[]⟩] 37)
 have T0:=sig_new' w (.slice none 0 0) false 0 []
 have HM:=rheld_high (cap:=cap) (hE.only o0 (by simp)) hl hA i 6 (.inr rfl)
 by_cases hx : (memberR l i 6).2 = 0
 ·obtain ⟨j,ja,jb,jc,jn,cls,sb,sc,rfl,hF⟩:=member_full (.inr rfl) hx
  have hz : (sigR sc).2 = 0:=by
   obtain ⟨_,_,s,hs,hz⟩:=wrong_method hF.ok rfl
   simp only at hs
   rw [hF.m.xc] at hs
   simp at hs
   rw [hs]
   exact hz
  have e1 : methodR l (j : Int) = ((cls,sb,(sigR sc).1),0):=by
   unfold methodR
   rw [hF.val]
   simp [hz]
  rw [e1]
  rw [hx] at HM
  have HT:=fun W=>rsig_any sc (by have:=small_text hA (text_mem hF.m.xc); omega) W
  have hJ:=fun W (hW : Only [] w W)=>mem_cells (hE.only hW (by simp)) hF
  unfold SigPost at HT
  generalize sigR sc = Y at *
  obtain ⟨⟨yl,yv,yd,yn⟩,ye⟩:=Y
  simp only at hz
  subst hz
  simp only [sigV] at HT ⊢
  have gj : ((j : Int) < (l.length : Int)):=by have:=hF.m.lj; omega
  have ga : ((ja : Int) < (l.length : Int)):=by have:=hF.m.la; omega
  have gb : ((jb : Int) < (l.length : Int)):=by have:=hF.m.lb; omega
  have gc : ((jc : Int) < (l.length : Int)):=by have:=hF.m.lc; omega
  have gn : ((jn : Int) < (l.length : Int)):=by have:=hF.ln; omega
  clear hE hA e1 hF hx
  replace HT:=hid HT
  replace HM:=hid HM
  replace T0:=hid T0
  replace hJ:=hid hJ
  go_enter Tryz.func232,Tryz.ntmps232
  go_wp2_with fail
  refine HM.out.mono ?_
  rintro e w1 ⟨rfl,ho1⟩
  have o1:=o0.next ho1 (by simp)
  obtain ⟨off,hao,z1,z2,z3,z4,z5,z6,z7⟩:=hJ.out w1 o1
  subst hao
  go_wp2_with fail
  refine (HT.out _).mono ?_
  rintro e w2 ⟨v,rfl,hown,ho2⟩
  have o2:=o1.next ho2 (by simp)
  have hB : w.heap.size < w2.heap.size:=by have:=ho1.size; have:=ho2.size; simp at *; omega
  clear z1 z2 z3 z4 z5 z6 z7
  obtain ⟨off',hao,z1,z2,z3,z4,z5,z6,z7⟩:=hJ.out w2 o2
  simp at hao
  subst hao
  have q1:=fun o=>cell_alloc o z1
  have q2:=fun o=>cell_alloc o z2
  have q3:=fun o=>cell_alloc o z3
  have q4:=fun o=>cell_alloc o z4
  have q5:=fun o=>cell_alloc o z5
  have q6:=fun o=>cell_alloc o z6
  have q7:=fun o=>cell_alloc o z7
  obtain ⟨vo,vc,rfl⟩:=own_slice hown
  have hs1 : w.heap.size < w1.heap.size:=by have:=ho1.size; simp at *; omega
  have T2:=hid ((T0.out.only ho1 (by simp)).only ho2 (by simp))
  obtain ⟨t0,t1,t2,t3,f0,f1,f2,f3⟩:=T2.out
  have t0' : ∀ o,(w2.alloc o).cell? ⟨w.heap.size,0,none⟩ = some (.slice none 0 0):=fun o=>cell_alloc o t0
  have t1' : ∀ o,(w2.alloc o).cell? ⟨w.heap.size,1,none⟩ = some (.bool false):=fun o=>cell_alloc o t1
  have t2' : ∀ o,(w2.alloc o).cell? ⟨w.heap.size,2,none⟩ = some (.int .i64 0):=fun o=>cell_alloc o t2
  have t3' : ∀ o,(w2.alloc o).cell? ⟨w.heap.size,3,none⟩ = some (.string (str [])):=fun o=>cell_alloc o t3
  have f0' : ∀ o,(w2.alloc o).frozen? ⟨w.heap.size,0,none⟩ = false:=fun o=>by rw [frozen_alloc o hB]; exact f0
  have f1' : ∀ o,(w2.alloc o).frozen? ⟨w.heap.size,1,none⟩ = false:=fun o=>by rw [frozen_alloc o hB]; exact f1
  have f2' : ∀ o,(w2.alloc o).frozen? ⟨w.heap.size,2,none⟩ = false:=fun o=>by rw [frozen_alloc o hB]; exact f2
  have f3' : ∀ o,(w2.alloc o).frozen? ⟨w.heap.size,3,none⟩ = false:=fun o=>by rw [frozen_alloc o hB]; exact f3
  replace hown:=hid hown
  go_wp2_with fail
  go_region
  go_wp2
  have hown2:=own_mono (C:=w.heap.size) (own_only (own_set (own_set (own_set (own_set hown.out ⟨w.heap.size,0,none⟩ hs1 (.slice vo yl.length vc)) ⟨w.heap.size,1,none⟩ hs1 (.bool yv)) ⟨w.heap.size,2,none⟩ hs1 (.int .i64 yd)) ⟨w.heap.size,3,none⟩ hs1 (.string (str yn))) (((Only.refl [] _).alloc (.cells #[.slice vo yl.length vc,.bool yv,.int .i64 yd,.string (str yn)] 37)).drew) (by simp)) (by omega)
  exact bodyPost_ret (rpmethod_result (((((T2.out.put0 (.slice vo yl.length vc)).put1 yv).put2 yd).put3 yn).only (((Only.refl [] _).alloc _).drew) (by simp)) _ rfl rfl rfl rfl) rfl ⟨vo,vc,rfl,hown2,(((((o2.setCell (.inr (by simp)) _).setCell (.inr (by simp)) _).setCell (.inr (by simp)) _).setCell (.inr (by simp)) _).alloc _).drew⟩
 ·have e1 : methodR l i = (([],[],([],false,(0,[]))),(memberR l i 6).2):=by simp [methodR,hx]
  rw [e1]
  generalize (memberR l i 6).2 = xe at *
  have g3 : (xe == 0) = false:=by simpa using hx
  simp only [sigV]
  clear hE hA e1
  replace HM:=hid HM
  replace T0:=hid T0
  go_enter Tryz.func232,Tryz.ntmps232
  go_wp2_with fail
  refine HM.out.mono ?_
  rintro e w1 ⟨rfl,ho1⟩
  have o1:=o0.next ho1 (by simp)
  have T1:=hid (T0.out.only ho1 (by simp))
  obtain ⟨t0,t1,t2,t3,f0,f1,f2,f3⟩:=T1.out
  go_wp2
  exact bodyPost_ret (rpmethod_result ((((T1.out.put0 (.slice none 0 0)).put1 false).put2 0).put3 []) _ rfl rfl rfl rfl) rfl ⟨none,0,rfl,own_nil _ _,(((o1.setCell (.inr (by simp)) _).setCell (.inr (by simp)) _).setCell (.inr (by simp)) _).setCell (.inr (by simp)) _⟩

end Go.Proofs.YtildemmkhndhjaaGreatDoor
