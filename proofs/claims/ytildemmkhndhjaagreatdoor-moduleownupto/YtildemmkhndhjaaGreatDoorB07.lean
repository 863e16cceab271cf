/-
  What the proof leans on, part 7 of 48. The conditions stand in each theorem.
-/
import Derived.Test.YtildemmkhndhjaaGreatDoorB03
import Derived.Deep.RegionHeld3
namespace Go.Proofs.YtildemmkhndhjaaGreatDoor
open Go.RowKit

/-- What is laid into a new entry. -/
theorem EnAt.put {w : World} {b : Nat} {e0 : En} (h : EnAt w b 0 e0) (e : En) :
  EnAt ((((((w.setCell ⟨b,0,none⟩ (.int .i64 e.1)).setCell ⟨b,1,none⟩ (.string (str e.2.1))).setCell ⟨b,2,none⟩ (.int .i64 e.2.2.1)).setCell ⟨b,3,none⟩ (.int .i64 e.2.2.2.1)).setCell ⟨b,4,none⟩ (.int .i64 e.2.2.2.2.1)).setCell ⟨b,5,none⟩ (.int .i64 e.2.2.2.2.2)) b 0 e:=by
 obtain ⟨c0,c1,c2,c3,c4,c5⟩:=h
 simp only [Nat.zero_add] at c0 c1 c2 c3 c4 c5
 have n1 : ∀ {i j : Nat},i≠j→(⟨b,i,none⟩ : Addr)≠⟨b,j,none⟩:=fun h e=>h (by injection e)
 refine ⟨?_,?_,?_,?_,?_,?_⟩
 ·rw [cell_setCell_ne _ _ (n1 (by decide)),cell_setCell_ne _ _ (n1 (by decide)),cell_setCell_ne _ _ (n1 (by decide)),cell_setCell_ne _ _ (n1 (by decide)),cell_setCell_ne _ _ (n1 (by decide))]
  exact cell_setCell_same _ _ c0
 ·rw [cell_setCell_ne _ _ (n1 (by decide)),cell_setCell_ne _ _ (n1 (by decide)),cell_setCell_ne _ _ (n1 (by decide)),cell_setCell_ne _ _ (n1 (by decide))]
  exact cell_setCell_same _ _ (by rw [cell_setCell_ne _ _ (n1 (by decide))]; exact c1)
 ·rw [cell_setCell_ne _ _ (n1 (by decide)),cell_setCell_ne _ _ (n1 (by decide)),cell_setCell_ne _ _ (n1 (by decide))]
  exact cell_setCell_same _ _ (by rw [cell_setCell_ne _ _ (n1 (by decide)),cell_setCell_ne _ _ (n1 (by decide))]; exact c2)
 ·rw [cell_setCell_ne _ _ (n1 (by decide)),cell_setCell_ne _ _ (n1 (by decide))]
  exact cell_setCell_same _ _ (by rw [cell_setCell_ne _ _ (n1 (by decide)),cell_setCell_ne _ _ (n1 (by decide)),cell_setCell_ne _ _ (n1 (by decide))]; exact c3)
 ·rw [cell_setCell_ne _ _ (n1 (by decide))]
  exact cell_setCell_same _ _ (by rw [cell_setCell_ne _ _ (n1 (by decide)),cell_setCell_ne _ _ (n1 (by decide)),cell_setCell_ne _ _ (n1 (by decide)),cell_setCell_ne _ _ (n1 (by decide))]; exact c4)
 ·exact cell_setCell_same _ _ (by rw [cell_setCell_ne _ _ (n1 (by decide)),cell_setCell_ne _ _ (n1 (by decide)),cell_setCell_ne _ _ (n1 (by decide)),cell_setCell_ne _ _ (n1 (by decide)),cell_setCell_ne _ _ (n1 (by decide))]; exact c5)

theorem put6_only {w : World} {S : List Nat} {a : World} (h : Only S a w) {b : Nat} (hb : b∈S∨a.heap.size≤b) (v0 v1 v2 v3 v4 v5 : Value) :
  Only S a ((((((w.setCell ⟨b,0,none⟩ v0).setCell ⟨b,1,none⟩ v1).setCell ⟨b,2,none⟩ v2).setCell ⟨b,3,none⟩ v3).setCell ⟨b,4,none⟩ v4).setCell ⟨b,5,none⟩ v5):=
 (((((h.setCell hb _).setCell hb _).setCell hb _).setCell hb _).setCell hb _).setCell hb _

theorem enAt_new2 (w : World) (o : Obj) (e : En) : EnAt ((w.alloc o).alloc (.cells #[.int .i64 e.1,.string (str e.2.1),.int .i64 e.2.2.1,.int .i64 e.2.2.2.1,.int .i64 e.2.2.2.2.1,.int .i64 e.2.2.2.2.2] 90)) (w.heap.size + 1) 0 e:=by
 have E1:=enAt_new (w.alloc o) e 90
 rw [World.size_alloc] at E1
 exact E1

set_option maxHeartbeats 400000 in
set_option maxRecDepth 100000 in
theorem used_any (e : En) (w : World) : Calls Tryz.prog 106 #[enV e] w fun r w'=>r = .returned (enV (usedE e))∧Only [] w w':=by
 have hu : ∃ u,u = usedE e:=⟨_,rfl⟩
 obtain ⟨u,hu⟩:=hu
 rw [← hu]
 obtain ⟨k,t,n,a,b,c⟩:=e
 simp only [enV]
 by_cases h1 : k = 1
 ·subst h1
  have e1 : u = (1,t,0,0,0,0):=by rw [hu]; simp [usedE]
  subst e1
  clear hu
  go_enter Tryz.func106,Tryz.ntmps106
  go_wp2
  exact bodyPost_ret (used_result (enAt_new2 w _ (1,t,0,0,0,0)) _ rfl) rfl ⟨rfl,((Only.refl [] w).alloc _).alloc _⟩
 have g1 : (k == 1) = false:=by simpa using h1
 by_cases h2 : k = 2
 ·subst h2
  have e1 : u = (2,[],n,0,0,0):=by rw [hu]; simp [usedE]
  subst e1
  clear hu h1 g1
  go_enter Tryz.func106,Tryz.ntmps106
  go_wp2
  exact bodyPost_ret (used_result (enAt_new2 w _ (2,[],n,0,0,0)) _ rfl) rfl ⟨rfl,((Only.refl [] w).alloc _).alloc _⟩
 have g2 : (k == 2) = false:=by simpa using h2
 by_cases h3 : k = 3
 ·subst h3
  have e1 : u = (3,[],0,a,0,0):=by rw [hu]; simp [usedE]
  subst e1
  clear hu h1 g1 h2 g2
  go_enter Tryz.func106,Tryz.ntmps106
  go_wp2
  exact bodyPost_ret (used_result (enAt_new2 w _ (3,[],0,a,0,0)) _ rfl) rfl ⟨rfl,((Only.refl [] w).alloc _).alloc _⟩
 have g3 : (k == 3) = false:=by simpa using h3
 by_cases h4 : k = 4
 ·subst h4
  have e1 : u = (4,[],0,a,0,0):=by rw [hu]; simp [usedE]
  subst e1
  clear hu h1 g1 h2 g2 h3 g3
  go_enter Tryz.func106,Tryz.ntmps106
  go_wp2
  exact bodyPost_ret (used_result (enAt_new2 w _ (4,[],0,a,0,0)) _ rfl) rfl ⟨rfl,((Only.refl [] w).alloc _).alloc _⟩
 have g4 : (k == 4) = false:=by simpa using h4
 have e1 : u = (k,[],0,a,b,c):=by rw [hu]; simp [usedE,h1,h2,h3,h4]
 subst e1
 clear hu h1 h2 h3 h4
 go_enter Tryz.func106,Tryz.ntmps106
 go_wp2
 exact bodyPost_ret (used_result (enAt_new2 w _ (k,[],0,a,b,c)) _ rfl) rfl ⟨rfl,((Only.refl [] w).alloc _).alloc _⟩

/-- The text of a number lies in memory. -/
theorem text_cell {w : World} {ao : Option Addr} {l : List En} {d : Nat} (hE : ES w ao l d) {i : Int} {s : List UInt8} (h : textAt l i = some s) :
  ∃ (j off : Nat),i = (j : Int)∧j < l.length∧ao = some ⟨d,off,none⟩∧w.cell? ⟨d,off + j * 6 + 1,none⟩ = some (.string (str s))∧∃ e∈l,e.2.1 = s:=by
 unfold textAt at h
 split at h
 ·rename_i e he
  split at h
  ·obtain ⟨j,hj,rfl,rfl⟩:=enAt_some he
   simp at h
   obtain ⟨off,ha,hc⟩:=hE.at hj
   exact ⟨j,off,rfl,hj,ha,by rw [← h]; exact hc.c1,l[j],List.getElem_mem hj,h⟩
  ·cases h
 ·cases h

theorem hasE_text (l : List En) (i : Int) : hasE l i 1 = (textAt l i).isSome:=by
 unfold hasE textAt
 split
 ·rename_i e he
  by_cases h : e.1 = 1 <;> simp [h]
 ·rfl


theorem byte_text {l : List En} {s : List UInt8} (hA : ∀ e∈l,e.2.1.length≤9223372036854775807) (h : ∃ e∈l,e.2.1 = s) : s.length≤9223372036854775807:=by
 obtain ⟨e,he,rfl⟩:=h
 exact hA e he

set_option maxHeartbeats 400000 in
set_option maxRecDepth 100000 in
theorem wrongName_any {w : World} {ao : Option Addr} {l : List En} {d cap : Nat} (hE : ES w ao l d) (hl : l.length≤9223372036854775807) (hA : ∀ e∈l,e.2.1.length≤9223372036854775807) (i : Int) :
  Calls Tryz.prog 108 #[.slice ao l.length cap,.int .i64 i,.func (.func 109) #[] #[]] w fun e w'=>e = .returned (.int .i64 (wText l i fName))∧w' = w:=by
 have HH:=has_any' (cap:=cap) hE hl i 1
 rw [hasE_text] at HH
 cases h : textAt l i with
 | none=>
  have e1 : wText l i fName = 16:=by simp [wText,h]
  rw [e1]
  rw [h] at HH
  simp only [Option.isSome_none] at HH
  clear h e1 hE
  replace HH:=hid HH
  go_enter Tryz.func108,Tryz.ntmps108
  go_wp2_with (go_at_call 158; refine HH.out.mono ?_; rintro e w' ⟨rfl,rfl⟩)
  go_ret
  exact ⟨rfl,rfl⟩
 | some s=>
  have e1 : wText l i fName = fName s:=by simp [wText,h]
  rw [e1]
  rw [h] at HH
  simp only [Option.isSome_some] at HH
  obtain ⟨j,off,rfl,hj,rfl,hc,hm⟩:=text_cell hE h
  have HN:=name_any s (byte_text hA hm) w
  clear h e1 hE hm
  have g2 : ((j : Int) < (l.length : Int)):=by omega
  replace HH:=hid HH
  cases hn : nameOK s with
  | true=>
   have e2 : fName s = 0:=by simp [fName,hn]
   rw [e2]
   rw [hn] at HN
   clear hn e2
   replace HN:=hid HN
   go_enter Tryz.func108,Tryz.ntmps108
   go_wp2_with (first | (go_at_call 158; refine HH.out.mono ?_; rintro e w' ⟨rfl,rfl⟩) | (go_at_call 109; refine HN.out.mono ?_; rintro e w' ⟨rfl,rfl⟩))
   go_ret
   exact ⟨rfl,rfl⟩
  | false=>
   have e2 : fName s = 14:=by simp [fName,hn]
   rw [e2]
   rw [hn] at HN
   clear hn e2
   replace HN:=hid HN
   go_enter Tryz.func108,Tryz.ntmps108
   go_wp2_with (first | (go_at_call 158; refine HH.out.mono ?_; rintro e w' ⟨rfl,rfl⟩) | (go_at_call 109; refine HN.out.mono ?_; rintro e w' ⟨rfl,rfl⟩))
   go_ret
   exact ⟨rfl,rfl⟩

set_option maxHeartbeats 400000 in
set_option maxRecDepth 100000 in
theorem wrongMeth_any {w : World} {ao : Option Addr} {l : List En} {d cap : Nat} (hE : ES w ao l d) (hl : l.length≤9223372036854775807) (hA : ∀ e∈l,e.2.1.length≤9223372036854775807) (i : Int) :
  Calls Tryz.prog 108 #[.slice ao l.length cap,.int .i64 i,.func (.func 113) #[] #[]] w fun e w'=>e = .returned (.int .i64 (wText l i fMethod))∧w' = w:=by
 have HH:=has_any' (cap:=cap) hE hl i 1
 rw [hasE_text] at HH
 cases h : textAt l i with
 | none=>
  have e1 : wText l i fMethod = 16:=by simp [wText,h]
  rw [e1]
  rw [h] at HH
  simp only [Option.isSome_none] at HH
  clear h e1 hE
  replace HH:=hid HH
  go_enter Tryz.func108,Tryz.ntmps108
  go_wp2_with (go_at_call 158; refine HH.out.mono ?_; rintro e w' ⟨rfl,rfl⟩)
  go_ret
  exact ⟨rfl,rfl⟩
 | some s=>
  have e1 : wText l i fMethod = fMethod s:=by simp [wText,h]
  rw [e1]
  rw [h] at HH
  simp only [Option.isSome_some] at HH
  obtain ⟨j,off,rfl,hj,rfl,hc,hm⟩:=text_cell hE h
  have HN:=method_any s (byte_text hA hm) w
  clear h e1 hE hm
  have g2 : ((j : Int) < (l.length : Int)):=by omega
  replace HH:=hid HH
  cases hn : methodOK s with
  | true=>
   have e2 : fMethod s = 0:=by simp [fMethod,hn]
   rw [e2]
   rw [hn] at HN
   clear hn e2
   replace HN:=hid HN
   go_enter Tryz.func108,Tryz.ntmps108
   go_wp2_with (first | (go_at_call 158; refine HH.out.mono ?_; rintro e w' ⟨rfl,rfl⟩) | (go_at_call 113; refine HN.out.mono ?_; rintro e w' ⟨rfl,rfl⟩))
   go_ret
   exact ⟨rfl,rfl⟩
  | false=>
   have e2 : fMethod s = 14:=by simp [fMethod,hn]
   rw [e2]
   rw [hn] at HN
   clear hn e2
   replace HN:=hid HN
   go_enter Tryz.func108,Tryz.ntmps108
   go_wp2_with (first | (go_at_call 158; refine HH.out.mono ?_; rintro e w' ⟨rfl,rfl⟩) | (go_at_call 113; refine HN.out.mono ?_; rintro e w' ⟨rfl,rfl⟩))
   go_ret
   exact ⟨rfl,rfl⟩

set_option maxHeartbeats 400000 in
set_option maxRecDepth 100000 in
theorem wrongType_any {w : World} {ao : Option Addr} {l : List En} {d cap : Nat} (hE : ES w ao l d) (hl : l.length≤9223372036854775807) (hA : ∀ e∈l,e.2.1.length≤9223372036854775807) (i : Int) :
  Calls Tryz.prog 110 #[.slice ao l.length cap,.int .i64 i] w fun e w'=>e = .returned (.int .i64 (wText l i fType))∧Only [] w w':=by
 have HH:=has_any' (cap:=cap) hE hl i 1
 rw [hasE_text] at HH
 cases h : textAt l i with
 | none=>
  have e1 : wText l i fType = 16:=by simp [wText,h]
  rw [e1]
  rw [h] at HH
  simp only [Option.isSome_none] at HH
  clear h e1 hE
  replace HH:=hid HH
  go_enter Tryz.func110,Tryz.ntmps110
  go_wp2_with (go_at_call 158; refine HH.out.mono ?_; rintro e w' ⟨rfl,rfl⟩)
  go_ret
  exact ⟨rfl,Only.refl _ _⟩
 | some s=>
  have e1 : wText l i fType = fType s:=by simp [wText,h]
  rw [e1]
  rw [h] at HH
  simp only [Option.isSome_some] at HH
  obtain ⟨j,off,rfl,hj,rfl,hc,hm⟩:=text_cell hE h
  have HN:=type_any s (byte_text hA hm) w
  unfold fType
  clear h e1 hE hm
  have g2 : ((j : Int) < (l.length : Int)):=by omega
  replace HH:=hid HH
  generalize typeR s = X at *
  obtain ⟨⟨xd,xn⟩,xe⟩:=X
  simp only [tyV] at HN ⊢
  replace HN:=hid HN
  go_enter Tryz.func110,Tryz.ntmps110
  go_wp2_with (first | (go_at_call 158; refine HH.out.mono ?_; rintro e w' ⟨rfl,rfl⟩) | (go_at_call 161; refine HN.out.mono ?_; rintro e w1 ⟨rfl,ho1⟩))
  go_ret
  exact ⟨rfl,ho1.alloc _⟩

set_option maxHeartbeats 400000 in
set_option maxRecDepth 100000 in
theorem wrongSig_any {w : World} {ao : Option Addr} {l : List En} {d cap : Nat} (hE : ES w ao l d) (hl : l.length≤9223372036854775807) (hA : ∀ e∈l,e.2.1.length≤9223372036854775807) (i : Int) :
  Calls Tryz.prog 114 #[.slice ao l.length cap,.int .i64 i] w fun e w'=>e = .returned (.int .i64 (wText l i fSig))∧Only [] w w':=by
 have HH:=has_any' (cap:=cap) hE hl i 1
 rw [hasE_text] at HH
 cases h : textAt l i with
 | none=>
  have e1 : wText l i fSig = 16:=by simp [wText,h]
  rw [e1]
  rw [h] at HH
  simp only [Option.isSome_none] at HH
  clear h e1 hE
  replace HH:=hid HH
  go_enter Tryz.func114,Tryz.ntmps114
  go_wp2_with (go_at_call 158; refine HH.out.mono ?_; rintro e w' ⟨rfl,rfl⟩)
  go_ret
  exact ⟨rfl,Only.refl _ _⟩
 | some s=>
  have e1 : wText l i fSig = fSig s:=by simp [wText,h]
  rw [e1]
  rw [h] at HH
  simp only [Option.isSome_some] at HH
  obtain ⟨j,off,rfl,hj,rfl,hc,hm⟩:=text_cell hE h
  have HN:=sig_any s (byte_text hA hm) w
  unfold fSig
  clear h e1 hE hm
  have g2 : ((j : Int) < (l.length : Int)):=by omega
  replace HH:=hid HH
  generalize sigR s = X at *
  obtain ⟨⟨xl,xv,xd,xn⟩,xe⟩:=X
  simp only [sigV] at HN ⊢
  replace HN:=hid HN
  go_enter Tryz.func114,Tryz.ntmps114
  go_wp2_with (first | (go_at_call 158; refine HH.out.mono ?_; rintro e w' ⟨rfl,rfl⟩) | (go_at_call 162; refine HN.out.mono ?_; rintro e w1 ⟨v,rfl,hw,ho1⟩; obtain ⟨vo,vc,rfl⟩:=own_slice hw))
  go_ret
  exact ⟨rfl,ho1.alloc _⟩

set_option maxHeartbeats 400000 in
set_option maxRecDepth 100000 in
/-- What cmp.Or answers of three. -/
theorem or_any (x y z : Int) (w : World) : Calls Tryz.prog 111 #[.slice (some ⟨w.heap.size,0,none⟩) 3 3] (w.alloc (.cells #[.int .i64 x,.int .i64 y,.int .i64 z] 63)) fun e w'=>e = .returned (.int .i64 (or3 x y z))∧w' = w.alloc (.cells #[.int .i64 x,.int .i64 y,.int .i64 z] 63):=by
 go_enter Tryz.func111,Tryz.ntmps111
 go_wp2
 go_loopw [8] (fun i wr=>∃ k : Int,0≤k∧k≤3∧i = .int .i64 k∧(0 < k→x = 0)∧(1 < k→y = 0)∧(2 < k→z = 0)∧wr = w.alloc (.cells #[.int .i64 x,.int .i64 y,.int .i64 z] 63)) (fun i _=>(3 - intOf i).toNat)
 case atStart=>exact ⟨0,by omega,by omega,rfl,by omega,by omega,by omega,rfl⟩
 case round=>
  obtain ⟨k,hk0,hk,rfl,h0,h1,h2,rfl⟩:=hrel
  rcases (by omega : k = 0∨k = 1∨k = 2∨k = 3) with rfl | rfl | rfl | rfl
  ·by_cases hx : x = 0
   ·subst hx
    go_wp2
    exact ⟨⟨1,by omega,by omega,by go_num,by first | trivial | omega,by first | trivial | omega,by first | trivial | omega,by first | trivial | rfl⟩,by simp [intOf]⟩
   ·have g : (x == 0) = false:=by simpa using hx
    have e1 : Hid (or3 x y z = x):=by simp [Hid,or3,hx]
    clear hx
    go_wp2
    go_ret
    exact ⟨by rw [e1.out]; rfl,rfl⟩
  ·obtain rfl:=h0 (by omega)
   by_cases hx : y = 0
   ·subst hx
    go_wp2
    exact ⟨⟨2,by omega,by omega,by go_num,by first | trivial | omega,by first | trivial | omega,by first | trivial | omega,by first | trivial | rfl⟩,by simp [intOf]⟩
   ·have g : (y == 0) = false:=by simpa using hx
    have e1 : Hid (or3 0 y z = y):=by simp [Hid,or3,hx]
    clear hx
    go_wp2
    go_ret
    exact ⟨by rw [e1.out]; rfl,rfl⟩
  ·obtain rfl:=h0 (by omega)
   obtain rfl:=h1 (by omega)
   by_cases hx : z = 0
   ·subst hx
    go_wp2
    exact ⟨⟨3,by omega,by omega,by go_num,by first | trivial | omega,by first | trivial | omega,by first | trivial | omega,by first | trivial | rfl⟩,by simp [intOf]⟩
   ·have g : (z == 0) = false:=by simpa using hx
    have e1 : Hid (or3 0 0 z = z):=by simp [Hid,or3]
    clear hx
    go_wp2
    go_ret
    exact ⟨by rw [e1.out]; rfl,rfl⟩
  ·obtain rfl:=h0 (by omega)
   obtain rfl:=h1 (by omega)
   obtain rfl:=h2 (by omega)
   go_wp2
   go_ret
   exact ⟨by simp [or3],rfl⟩


theorem keep_en {a b z : World} {p : Nat} {x0 x1 x2 x3 x4 x5 : Value} (ho : Only [] a b)
  (h : a.cell? ⟨p,0,none⟩ = some x0∧a.cell? ⟨p,1,none⟩ = some x1∧a.cell? ⟨p,2,none⟩ = some x2∧a.cell? ⟨p,3,none⟩ = some x3∧a.cell? ⟨p,4,none⟩ = some x4∧a.cell? ⟨p,5,none⟩ = some x5∧Only [] z a) :
  b.cell? ⟨p,0,none⟩ = some x0∧b.cell? ⟨p,1,none⟩ = some x1∧b.cell? ⟨p,2,none⟩ = some x2∧b.cell? ⟨p,3,none⟩ = some x3∧b.cell? ⟨p,4,none⟩ = some x4∧b.cell? ⟨p,5,none⟩ = some x5∧Only [] z b:=by
 obtain ⟨h0,h1,h2,h3,h4,h5,hz⟩:=h
 have hl:=World.block_lt_of_cell? _ _ h0
 exact ⟨(ho.cell (p:=⟨p,0,none⟩) hl (by simp)).trans h0,(ho.cell (p:=⟨p,1,none⟩) hl (by simp)).trans h1,(ho.cell (p:=⟨p,2,none⟩) hl (by simp)).trans h2,(ho.cell (p:=⟨p,3,none⟩) hl (by simp)).trans h3,(ho.cell (p:=⟨p,4,none⟩) hl (by simp)).trans h4,(ho.cell (p:=⟨p,5,none⟩) hl (by simp)).trans h5,hz.next ho (by simp)⟩

set_option maxHeartbeats 400000 in
set_option maxRecDepth 100000 in
theorem wrong_any {w : World} {ao : Option Addr} {l : List En} {d cap : Nat} (hE : ES w ao l d) (hl : l.length≤9223372036854775807) (hA : ∀ e∈l,e.2.1.length≤9223372036854775807) (j : Nat) (hj : j < l.length) :
  Calls Tryz.prog 45 #[.slice ao l.length cap,.int .i64 (j : Int)] w fun r w'=>r = .returned (.int .i64 (wrongE l l[j]))∧Only [] w w':=by
 have g2 : ((j : Int) < (l.length : Int)):=by omega
 have ht:=hA l[j] (List.getElem_mem hj)
 obtain ⟨off,hao,hc⟩:=hE.at hj
 have HU:=fun W=>used_any l[j] W
 have hq:=neq_entry l[j] (usedE l[j])
 have o0:=(Only.refl [] w).alloc (.cells #[.int .i64 l[j].1,.string (str l[j].2.1),.int .i64 l[j].2.2.1,.int .i64 l[j].2.2.2.1,.int .i64 l[j].2.2.2.2.1,.int .i64 l[j].2.2.2.2.2] 90)
 have E0:=enAt_new w l[j] 90
 have hw : ∃ r,r = wrongE l l[j]:=⟨_,rfl⟩
 obtain ⟨r,hr⟩:=hw
 rw [← hr]
 have HWC:=fun W (hW : Only [] w W) (i : Int)=>wrongClass_any (cap:=cap) (hE.only hW (by simp)) hl i
 have HWN:=fun W (hW : Only [] w W) (i : Int)=>wrongName_any (cap:=cap) (hE.only hW (by simp)) hl hA i
 have HWM:=fun W (hW : Only [] w W) (i : Int)=>wrongMeth_any (cap:=cap) (hE.only hW (by simp)) hl hA i
 have HWT:=fun W (hW : Only [] w W) (i : Int)=>wrongType_any (cap:=cap) (hE.only hW (by simp)) hl hA i
 have HWS:=fun W (hW : Only [] w W) (i : Int)=>wrongSig_any (cap:=cap) (hE.only hW (by simp)) hl hA i
 generalize l[j] = e at *
 generalize hug : usedE e = u at *
 obtain ⟨k,t,n,a,b,c⟩:=e
 obtain ⟨uk,ut,un,ua,ub,uc⟩:=u
 obtain ⟨y0,y1,y2,y3,y4,y5⟩:=hc
 obtain ⟨e0,e1,e2,e3,e4,e5⟩:=E0
 simp only [Nat.zero_add] at e0 e1 e2 e3 e4 e5
 simp only [enV] at *
 replace HU:=hid HU
 replace HWC:=hid HWC
 replace HWN:=hid HWN
 replace HWM:=hid HWM
 replace HWT:=hid HWT
 replace HWS:=hid HWS
 replace hug:=hid hug
 replace hE:=hid hE
 clear hA
 replace hr:=hid hr
 have hb : k < 1∨6 < k∨(1≤k∧k≤6):=by omega
 rcases hb with hk | hk | ⟨hk1,hk2⟩
 ·have er : r = 3:=by rw [hr.out]; simp [wrongE,hk]
  subst er
  subst hao
  go_enter Tryz.func45,Tryz.ntmps45
  go_wp2
  go_ret
  exact ⟨rfl,o0⟩
 ·have er : r = 3:=by rw [hr.out]; simp [wrongE,hk]
  subst er
  subst hao
  have hk' : ¬ (k < 1):=by omega
  go_enter Tryz.func45,Tryz.ntmps45
  go_wp2
  go_ret
  exact ⟨rfl,o0⟩
 have hk' : ¬ (k < 1):=by omega
 have hk6 : ¬ (6 < k):=by omega
 by_cases hne : ((k,t,n,a,b,c) : En) = (uk,ut,un,ua,ub,uc)
 ·have hw : r = if k = 1 then longE t else if k = 2 then 0 else if k = 3 then wText l a fName else if k = 4 then wText l a fType else if k = 5 then or3 (wClass l a) (wText l b fName) (wText l c fType) else or3 (wClass l a) (wText l b fMethod) (wText l c fSig):=by
   rw [hr.out]
   unfold wrongE
   rw [hug.out,if_neg (by simp; omega),if_neg (fun h=>h hne)]
  rw [decide_eq_true hne] at hq
  simp only [Bool.not_true] at hq
  clear hne hug hr hk' hk6
  subst hao
  replace o0:=hid o0
  replace hw:=hid hw
  rcases (by omega : k = 1∨k = 2∨k = 3∨k = 4∨k = 5∨k = 6) with rfl | rfl | rfl | rfl | rfl | rfl
  ·go_enter Tryz.func45,Tryz.ntmps45
   go_wp2_with fail
   go_region_held3 (fun w'=>w'.cell? ⟨w.heap.size,0,none⟩ = some (.int .i64 1)∧w'.cell? ⟨w.heap.size,1,none⟩ = some (.string (str t))∧w'.cell? ⟨w.heap.size,2,none⟩ = some (.int .i64 n)∧w'.cell? ⟨w.heap.size,3,none⟩ = some (.int .i64 a)∧w'.cell? ⟨w.heap.size,4,none⟩ = some (.int .i64 b)∧w'.cell? ⟨w.heap.size,5,none⟩ = some (.int .i64 c)∧Only [] w w') (first | exact keep_en (by assumption) (by assumption) | exact keep_en ((Only.refl [] _).alloc _) (by assumption) | exact ⟨e0,e1,e2,e3,e4,e5,o0.out.drew⟩ | exact ⟨e0,e1,e2,e3,e4,e5,o0.out⟩ | assumption) (first | (go_at_call 106; with_reducible refine (HU.out _).mono ?_; rintro e w6 ⟨rfl,ho6⟩))
   rename_i hS
   clear e0 e1 e2 e3 e4 e5
   obtain ⟨e0,e1,e2,e3,e4,e5,o1⟩:=hS
   replace o1:=hid o1
   go_wp2_with (go_at_call 107; refine (tooLong_any t ht _).mono ?_; rintro e w7 ⟨rfl,rfl⟩)
   go_ret
   exact ⟨by rw [hw.out]; rfl,o1.out⟩
  ·go_enter Tryz.func45,Tryz.ntmps45
   go_wp2_with fail
   go_region_held3 (fun w'=>w'.cell? ⟨w.heap.size,0,none⟩ = some (.int .i64 2)∧w'.cell? ⟨w.heap.size,1,none⟩ = some (.string (str t))∧w'.cell? ⟨w.heap.size,2,none⟩ = some (.int .i64 n)∧w'.cell? ⟨w.heap.size,3,none⟩ = some (.int .i64 a)∧w'.cell? ⟨w.heap.size,4,none⟩ = some (.int .i64 b)∧w'.cell? ⟨w.heap.size,5,none⟩ = some (.int .i64 c)∧Only [] w w') (first | exact keep_en (by assumption) (by assumption) | exact keep_en ((Only.refl [] _).alloc _) (by assumption) | exact ⟨e0,e1,e2,e3,e4,e5,o0.out.drew⟩ | exact ⟨e0,e1,e2,e3,e4,e5,o0.out⟩ | assumption) (first | (go_at_call 106; with_reducible refine (HU.out _).mono ?_; rintro e w6 ⟨rfl,ho6⟩))
   rename_i hS
   clear e0 e1 e2 e3 e4 e5
   obtain ⟨e0,e1,e2,e3,e4,e5,o1⟩:=hS
   replace o1:=hid o1
   go_wp2
   go_ret
   exact ⟨by rw [hw.out]; rfl,o1.out⟩
  ·go_enter Tryz.func45,Tryz.ntmps45
   go_wp2_with fail
   go_region_held3 (fun w'=>w'.cell? ⟨w.heap.size,0,none⟩ = some (.int .i64 3)∧w'.cell? ⟨w.heap.size,1,none⟩ = some (.string (str t))∧w'.cell? ⟨w.heap.size,2,none⟩ = some (.int .i64 n)∧w'.cell? ⟨w.heap.size,3,none⟩ = some (.int .i64 a)∧w'.cell? ⟨w.heap.size,4,none⟩ = some (.int .i64 b)∧w'.cell? ⟨w.heap.size,5,none⟩ = some (.int .i64 c)∧Only [] w w') (first | exact keep_en (by assumption) (by assumption) | exact keep_en ((Only.refl [] _).alloc _) (by assumption) | exact ⟨e0,e1,e2,e3,e4,e5,o0.out.drew⟩ | exact ⟨e0,e1,e2,e3,e4,e5,o0.out⟩ | assumption) (first | (go_at_call 106; with_reducible refine (HU.out _).mono ?_; rintro e w6 ⟨rfl,ho6⟩))
   rename_i hS
   clear e0 e1 e2 e3 e4 e5
   obtain ⟨e0,e1,e2,e3,e4,e5,o1⟩:=hS
   replace o1:=hid o1
   go_wp2_with (go_at_call 108; refine (HWN.out _ o1.out a).mono ?_; rintro e w7 ⟨rfl,rfl⟩)
   go_ret
   exact ⟨by rw [hw.out]; rfl,o1.out⟩
  ·go_enter Tryz.func45,Tryz.ntmps45
   go_wp2_with fail
   go_region_held3 (fun w'=>w'.cell? ⟨w.heap.size,0,none⟩ = some (.int .i64 4)∧w'.cell? ⟨w.heap.size,1,none⟩ = some (.string (str t))∧w'.cell? ⟨w.heap.size,2,none⟩ = some (.int .i64 n)∧w'.cell? ⟨w.heap.size,3,none⟩ = some (.int .i64 a)∧w'.cell? ⟨w.heap.size,4,none⟩ = some (.int .i64 b)∧w'.cell? ⟨w.heap.size,5,none⟩ = some (.int .i64 c)∧Only [] w w') (first | exact keep_en (by assumption) (by assumption) | exact keep_en ((Only.refl [] _).alloc _) (by assumption) | exact ⟨e0,e1,e2,e3,e4,e5,o0.out.drew⟩ | exact ⟨e0,e1,e2,e3,e4,e5,o0.out⟩ | assumption) (first | (go_at_call 106; with_reducible refine (HU.out _).mono ?_; rintro e w6 ⟨rfl,ho6⟩))
   rename_i hS
   clear e0 e1 e2 e3 e4 e5
   obtain ⟨e0,e1,e2,e3,e4,e5,o1⟩:=hS
   replace o1:=hid o1
   go_wp2_with (go_at_call 110; refine (HWT.out _ o1.out a).mono ?_; rintro e w7 ⟨rfl,ho7⟩)
   go_ret
   exact ⟨by rw [hw.out]; rfl,o1.out.next ho7 (by simp)⟩
  ·go_enter Tryz.func45,Tryz.ntmps45
   go_wp2_with fail
   go_region_held3 (fun w'=>w'.cell? ⟨w.heap.size,0,none⟩ = some (.int .i64 5)∧w'.cell? ⟨w.heap.size,1,none⟩ = some (.string (str t))∧w'.cell? ⟨w.heap.size,2,none⟩ = some (.int .i64 n)∧w'.cell? ⟨w.heap.size,3,none⟩ = some (.int .i64 a)∧w'.cell? ⟨w.heap.size,4,none⟩ = some (.int .i64 b)∧w'.cell? ⟨w.heap.size,5,none⟩ = some (.int .i64 c)∧Only [] w w') (first | exact keep_en (by assumption) (by assumption) | exact keep_en ((Only.refl [] _).alloc _) (by assumption) | exact ⟨e0,e1,e2,e3,e4,e5,o0.out.drew⟩ | exact ⟨e0,e1,e2,e3,e4,e5,o0.out⟩ | assumption) (first | (go_at_call 106; with_reducible refine (HU.out _).mono ?_; rintro e w6 ⟨rfl,ho6⟩))
   rename_i hS
   clear e0 e1 e2 e3 e4 e5
   obtain ⟨e0,e1,e2,e3,e4,e5,o1⟩:=hS
   replace o1:=hid o1
   replace o1:=o1.out
   go_wp2_with fail
   go_region_held3 (fun w'=>w'.cell? ⟨w.heap.size,0,none⟩ = some (.int .i64 5)∧w'.cell? ⟨w.heap.size,1,none⟩ = some (.string (str t))∧w'.cell? ⟨w.heap.size,2,none⟩ = some (.int .i64 n)∧w'.cell? ⟨w.heap.size,3,none⟩ = some (.int .i64 a)∧w'.cell? ⟨w.heap.size,4,none⟩ = some (.int .i64 b)∧w'.cell? ⟨w.heap.size,5,none⟩ = some (.int .i64 c)∧Only [] w w') (first | exact keep_en (by assumption) (by assumption) | exact keep_en ((Only.refl [] _).alloc _) (by assumption) | exact ⟨e0,e1,e2,e3,e4,e5,o1.drew⟩ | exact ⟨e0,e1,e2,e3,e4,e5,o1⟩ | assumption) (first | (go_at_call 112; with_reducible refine (HWC.out _ ?_ a).mono ?_; (simp [*]); rintro e w7 ⟨rfl,rfl⟩) | (go_at_call 108; with_reducible refine (HWN.out _ ?_ b).mono ?_; (simp [*]); rintro e w8 ⟨rfl,rfl⟩) | (go_at_call 110; with_reducible refine (HWT.out _ ?_ c).mono ?_; (simp [*]); rintro e w9 ⟨rfl,ho9⟩) | (go_at_call 111; with_reducible refine (or_any _ _ _ _).mono ?_; rintro e w10 ⟨rfl,rfl⟩))
   rename_i hS
   go_wp2
   go_ret
   exact ⟨by rw [hw.out]; rfl,hS.2.2.2.2.2.2⟩
  ·go_enter Tryz.func45,Tryz.ntmps45
   go_wp2_with fail
   go_region_held3 (fun w'=>w'.cell? ⟨w.heap.size,0,none⟩ = some (.int .i64 6)∧w'.cell? ⟨w.heap.size,1,none⟩ = some (.string (str t))∧w'.cell? ⟨w.heap.size,2,none⟩ = some (.int .i64 n)∧w'.cell? ⟨w.heap.size,3,none⟩ = some (.int .i64 a)∧w'.cell? ⟨w.heap.size,4,none⟩ = some (.int .i64 b)∧w'.cell? ⟨w.heap.size,5,none⟩ = some (.int .i64 c)∧Only [] w w') (first | exact keep_en (by assumption) (by assumption) | exact keep_en ((Only.refl [] _).alloc _) (by assumption) | exact ⟨e0,e1,e2,e3,e4,e5,o0.out.drew⟩ | exact ⟨e0,e1,e2,e3,e4,e5,o0.out⟩ | assumption) (first | (go_at_call 106; with_reducible refine (HU.out _).mono ?_; rintro e w6 ⟨rfl,ho6⟩))
   rename_i hS
   clear e0 e1 e2 e3 e4 e5
   obtain ⟨e0,e1,e2,e3,e4,e5,o1⟩:=hS
   replace o1:=hid o1
   replace o1:=o1.out
   go_wp2_with fail
   go_region_held3 (fun w'=>w'.cell? ⟨w.heap.size,0,none⟩ = some (.int .i64 6)∧w'.cell? ⟨w.heap.size,1,none⟩ = some (.string (str t))∧w'.cell? ⟨w.heap.size,2,none⟩ = some (.int .i64 n)∧w'.cell? ⟨w.heap.size,3,none⟩ = some (.int .i64 a)∧w'.cell? ⟨w.heap.size,4,none⟩ = some (.int .i64 b)∧w'.cell? ⟨w.heap.size,5,none⟩ = some (.int .i64 c)∧Only [] w w') (first | exact keep_en (by assumption) (by assumption) | exact keep_en ((Only.refl [] _).alloc _) (by assumption) | exact ⟨e0,e1,e2,e3,e4,e5,o1.drew⟩ | exact ⟨e0,e1,e2,e3,e4,e5,o1⟩ | assumption) (first | (go_at_call 112; with_reducible refine (HWC.out _ ?_ a).mono ?_; (simp [*]); rintro e w7 ⟨rfl,rfl⟩) | (go_at_call 108; with_reducible refine (HWM.out _ ?_ b).mono ?_; (simp [*]); rintro e w8 ⟨rfl,rfl⟩) | (go_at_call 114; with_reducible refine (HWS.out _ ?_ c).mono ?_; (simp [*]); rintro e w9 ⟨rfl,ho9⟩) | (go_at_call 111; with_reducible refine (or_any _ _ _ _).mono ?_; rintro e w10 ⟨rfl,rfl⟩))
   rename_i hS
   go_wp2
   go_ret
   exact ⟨by rw [hw.out]; rfl,hS.2.2.2.2.2.2⟩
 ·have er : r = 1:=by
   rw [hr.out]
   unfold wrongE
   rw [hug.out,if_neg (by simp; omega),if_pos hne]
  subst er
  subst hao
  simp only [hne,decide_false,Bool.not_false] at hq
  clear hne hk1 hk2
  replace o0:=hid o0
  go_enter Tryz.func45,Tryz.ntmps45
  go_wp2_with fail
  go_region_held3 (fun w'=>w'.cell? ⟨w.heap.size,0,none⟩ = some (.int .i64 k)∧w'.cell? ⟨w.heap.size,1,none⟩ = some (.string (str t))∧w'.cell? ⟨w.heap.size,2,none⟩ = some (.int .i64 n)∧w'.cell? ⟨w.heap.size,3,none⟩ = some (.int .i64 a)∧w'.cell? ⟨w.heap.size,4,none⟩ = some (.int .i64 b)∧w'.cell? ⟨w.heap.size,5,none⟩ = some (.int .i64 c)∧Only [] w w') (first | exact keep_en (by assumption) (by assumption) | exact ⟨e0,e1,e2,e3,e4,e5,o0.out.drew⟩ | exact ⟨e0,e1,e2,e3,e4,e5,o0.out⟩ | assumption) (first | (go_at_call 106; with_reducible refine (HU.out _).mono ?_; rintro e w6 ⟨rfl,ho6⟩))
  go_wp2
  go_ret
  rename_i hS
  exact ⟨rfl,hS.2.2.2.2.2.2⟩

end Go.Proofs.YtildemmkhndhjaaGreatDoor
