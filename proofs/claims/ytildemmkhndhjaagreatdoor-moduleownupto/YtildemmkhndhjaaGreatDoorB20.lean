/-
  What the proof leans on, part 20 of 48. The conditions stand in each theorem.
-/
import Derived.Test.YtildemmkhndhjaaGreatDoorB14
import Derived.Test.YtildemmkhndhjaaGreatDoorB12
import Derived.Test.YtildemmkhndhjaaGreatDoorB16
import Derived.Test.YtildemmkhndhjaaGreatDoorB10
import Derived.Test.YtildemmkhndhjaaGreatDoorB13
import Derived.Test.YtildemmkhndhjaaGreatDoorB17
namespace Go.Proofs.YtildemmkhndhjaaGreatDoor
open Go.RowKit

theorem rspell_tyA {w : World} {sb r d : Nat} {t : St} (h : Sc w sb r d t) :
  Calls Tryz.prog 175 #[.pointer (some ⟨sb,0,none⟩),.func (.func 161) #[] #[]] w fun e w'=>∃ (x : Ty) (t' : St),e = .returned (.agg #[.int .i64 x.1,.string (str x.2)])∧x.2.length≤32∧Sc w' sb r d t'∧Out (pSpell typeR) t x t'∧Only [sb,r] w w':=rspell_ty h

set_option maxHeartbeats 4000000 in
theorem rfield_any {w : World} {sb r d : Nat} {t : St} (h : Sc w sb r d t) :
  Calls Tryz.prog 142 #[.pointer (some ⟨sb,0,none⟩)] w fun e w'=>∃ (x : Fd) (t' : St),e = .returned (fdV x)∧(x.2.1.length≤262144∧x.2.2.2.length≤262144)∧Sc w' sb r d t'∧Out pField t x t'∧Only [sb,r] w w':=by
 have o0:=(Only.refl [sb,r] w).alloc (.cells #[.int .i64 0,.string ⟨#[]⟩,.int .i64 0,.string ⟨#[]⟩] 44)
 have h0:=h.only0 ((Only.refl [] w).alloc (.cells #[.int .i64 0,.string ⟨#[]⟩,.int .i64 0,.string ⟨#[]⟩] 44))
 have hl:=h.lt
 obtain ⟨rv,hrv⟩ : ∃ rv,rv = w.heap.size:=⟨_,rfl⟩
 have hr : rv≠sb∧rv≠r:=by omega
 have hw : w.heap.size≤rv:=by omega
 obtain ⟨gv,hgv⟩:=gv_ex rv
 replace hgv:=hid hgv
 have hk:=knew4 hgv.out h0.c0 o0 (by subst hrv; rw [cell_new]; rfl) (by subst hrv; rw [cell_new]; rfl) (by subst hrv; rw [cell_new]; rfl) (by subst hrv; rw [cell_new]; rfl) (by subst hrv; exact frozen_new _ _ _ _) (by subst hrv; exact frozen_new _ _ _ _) (by subst hrv; exact frozen_new _ _ _ _) (by subst hrv; exact frozen_new _ _ _ _)
 clear h
 replace hk:=hid hk
 replace hrv:=hid hrv
 go_enter Tryz.func142,Tryz.ntmps142
 go_wp2_with fail
 rw [← hrv.out]
 go_region_held3 (fun w'=>w'.cell? ⟨sb,0,none⟩ = some (.pointer (some ⟨r,0,none⟩))∧Only [sb,r] w w'∧w'.cell? ⟨rv,0,none⟩ = some (gv 0 w')∧w'.cell? ⟨rv,1,none⟩ = some (gv 1 w')∧w'.cell? ⟨rv,2,none⟩ = some (gv 2 w')∧w'.cell? ⟨rv,3,none⟩ = some (gv 3 w')∧w'.frozen? ⟨rv,0,none⟩ = false∧w'.frozen? ⟨rv,1,none⟩ = false∧w'.frozen? ⟨rv,2,none⟩ = false∧w'.frozen? ⟨rv,3,none⟩ = false)
  (first | (with_reducible exact hk.out) | (with_reducible exact kdrew4 hgv.out hk.out) | ((with_reducible refine kset4 hgv.out hr hw _ _ ?_); (with_reducible refine kset4 hgv.out hr hw _ _ ?_); (with_reducible refine kset4 hgv.out hr hw _ _ ?_); (with_reducible refine kset4 hgv.out hr hw _ _ ?_); (with_reducible assumption)) | (with_reducible exact kcall4 hgv.out hr (by assumption) (by assumption) (by assumption) (by simp)))
  (first
   | (go_at_call 80; (first | (with_reducible refine (sc_u1 (by assumption)).mono ?_) | (with_reducible refine (sc_u1 (Sc.drew (by assumption))).mono ?_)); rintro e w1 ⟨n,t',rfl,hn,hs,hO,ho⟩)
   | (go_at_call 138; (first | (with_reducible refine (sc_text (by assumption)).mono ?_) | (with_reducible refine (sc_text (Sc.drew (by assumption))).mono ?_)); rintro e w1 ⟨x,t',rfl,hx,hs,hO,ho⟩)
   | (go_at_call 175; (first | (with_reducible refine (rspell_tyA (by assumption)).mono ?_) | (with_reducible refine (rspell_tyA (Sc.drew (by assumption))).mono ?_)); rintro e w1 ⟨y,t',rfl,hy,hs,hO,ho⟩; obtain ⟨_,_,k0,k1,k2,k3,z0,z1,z2,z3⟩:=kcall4 hgv.out hr (by assumption) hs ho (by simp)))
 rename_i wa ta hsa hOa hoa wb tb hsb hOb hob _ hOn hH
 clear hH k0 k1 k2 k3
 have hlv : rv < (w.alloc (.cells #[.int .i64 0,.string ⟨#[]⟩,.int .i64 0,.string ⟨#[]⟩] 44)).heap.size:=by have:=hrv.out; simp; omega
 have hoa2 : Only [sb,r] (w.alloc (.cells #[.int .i64 0,.string ⟨#[]⟩,.int .i64 0,.string ⟨#[]⟩] 44)) w1:=(((Only.refl [sb,r] _).drew.trans hoa (by simp)).trans hob (by simp)).trans ho (by simp)
 have g : ∀ i v,#[.int .i64 0,.string ⟨#[]⟩,.int .i64 0,.string ⟨#[]⟩][i]? = some v→w1.cell? ⟨rv,i,none⟩ = some v:=fun i v hv=>(hoa2.cell (p:=⟨rv,i,none⟩) hlv (by simp [hr.1,hr.2])).trans (by rw [hrv.out,cell_new,hv])
 have oS : Only [rv] w1 ((((w1.setCell ⟨rv,0,none⟩ (.int .i64 (n : Int))).setCell ⟨rv,1,none⟩ (.string (str x))).setCell ⟨rv,2,none⟩ (.int .i64 y.1)).setCell ⟨rv,3,none⟩ (.string (str y.2))):=((((Only.refl [rv] w1).setCell (.inl (by simp)) _).setCell (.inl (by simp)) _).setCell (.inl (by simp)) _).setCell (.inl (by simp)) _
 have hfin:=hs.other (by simp) (.inr (.inr (g 3 _ rfl))) (by omega) oS
 have hout : Out pField t ((n : Int),x,y) t':=out_bind hOa (out_bind hOb (out_bind hO (out_done _ _)))
 have e0:=g 0 _ rfl
 have e1:=g 1 _ rfl
 have e2:=g 2 _ rfl
 have e3:=g 3 _ rfl
 go_wp2_with fail
 refine bodyPost_ret (v:=fdV ((n : Int),x,y)) (by simp [results,Tryz.results142,go_sem,e0,e1,e2,e3,fdV]) rfl ?_
 exact ⟨_,t',rfl,⟨hx,show y.2.length≤262144 by omega⟩,hfin,hout,hOn.next oS (by simp; omega)⟩


/-- The six cells of a class's block. -/
structure Cl6 (w : World) (b : Nat) (v0 v1 v2 v3 v4 v5 : Value) : Prop where
 c0 : w.cell? ⟨b,0,none⟩ = some v0
 c1 : w.cell? ⟨b,1,none⟩ = some v1
 c2 : w.cell? ⟨b,2,none⟩ = some v2
 c3 : w.cell? ⟨b,3,none⟩ = some v3
 c4 : w.cell? ⟨b,4,none⟩ = some v4
 c5 : w.cell? ⟨b,5,none⟩ = some v5
 f0 : w.frozen? ⟨b,0,none⟩ = false
 f1 : w.frozen? ⟨b,1,none⟩ = false
 f2 : w.frozen? ⟨b,2,none⟩ = false
 f3 : w.frozen? ⟨b,3,none⟩ = false
 f4 : w.frozen? ⟨b,4,none⟩ = false
 f5 : w.frozen? ⟨b,5,none⟩ = false

theorem Cl6.only {w w' : World} {S : List Nat} {b : Nat} {v0 v1 v2 v3 v4 v5 : Value} (h : Cl6 w b v0 v1 v2 v3 v4 v5) (ho : Only S w w') (hb : b ∉ S) : Cl6 w' b v0 v1 v2 v3 v4 v5:=by
 have hl:=World.block_lt_of_cell? w _ h.c0
 exact ⟨(ho.cell (p:=⟨b,0,none⟩) hl hb).trans h.c0,(ho.cell (p:=⟨b,1,none⟩) hl hb).trans h.c1,(ho.cell (p:=⟨b,2,none⟩) hl hb).trans h.c2,(ho.cell (p:=⟨b,3,none⟩) hl hb).trans h.c3,(ho.cell (p:=⟨b,4,none⟩) hl hb).trans h.c4,(ho.cell (p:=⟨b,5,none⟩) hl hb).trans h.c5,(ho.frozen (p:=⟨b,0,none⟩) hl hb).trans h.f0,(ho.frozen (p:=⟨b,1,none⟩) hl hb).trans h.f1,(ho.frozen (p:=⟨b,2,none⟩) hl hb).trans h.f2,(ho.frozen (p:=⟨b,3,none⟩) hl hb).trans h.f3,(ho.frozen (p:=⟨b,4,none⟩) hl hb).trans h.f4,(ho.frozen (p:=⟨b,5,none⟩) hl hb).trans h.f5⟩

theorem cl6_new (w : World) (v0 v1 v2 v3 v4 v5 : Value) (t : TypeId) : Cl6 (w.alloc (.cells #[v0,v1,v2,v3,v4,v5] t)) w.heap.size v0 v1 v2 v3 v4 v5:=
 ⟨by rw [cell_new]; rfl,by rw [cell_new]; rfl,by rw [cell_new]; rfl,by rw [cell_new]; rfl,by rw [cell_new]; rfl,by rw [cell_new]; rfl,frozen_new _ _ _ _,frozen_new _ _ _ _,frozen_new _ _ _ _,frozen_new _ _ _ _,frozen_new _ _ _ _,frozen_new _ _ _ _⟩

theorem Cl6.put0 {w : World} {b : Nat} {v0 v1 v2 v3 v4 v5 : Value} (h : Cl6 w b v0 v1 v2 v3 v4 v5) (u : Value) : Cl6 (w.setCell ⟨b,0,none⟩ u) b u v1 v2 v3 v4 v5:=
 ⟨cell_setCell_same _ _ h.c0,(cell_setCell_ne _ _ (by simp)).trans h.c1,(cell_setCell_ne _ _ (by simp)).trans h.c2,(cell_setCell_ne _ _ (by simp)).trans h.c3,(cell_setCell_ne _ _ (by simp)).trans h.c4,(cell_setCell_ne _ _ (by simp)).trans h.c5,(frozen_setCell _ _ _ _).trans h.f0,(frozen_setCell _ _ _ _).trans h.f1,(frozen_setCell _ _ _ _).trans h.f2,(frozen_setCell _ _ _ _).trans h.f3,(frozen_setCell _ _ _ _).trans h.f4,(frozen_setCell _ _ _ _).trans h.f5⟩

theorem Cl6.put1 {w : World} {b : Nat} {v0 v1 v2 v3 v4 v5 : Value} (h : Cl6 w b v0 v1 v2 v3 v4 v5) (u : Value) : Cl6 (w.setCell ⟨b,1,none⟩ u) b v0 u v2 v3 v4 v5:=
 ⟨(cell_setCell_ne _ _ (by simp)).trans h.c0,cell_setCell_same _ _ h.c1,(cell_setCell_ne _ _ (by simp)).trans h.c2,(cell_setCell_ne _ _ (by simp)).trans h.c3,(cell_setCell_ne _ _ (by simp)).trans h.c4,(cell_setCell_ne _ _ (by simp)).trans h.c5,(frozen_setCell _ _ _ _).trans h.f0,(frozen_setCell _ _ _ _).trans h.f1,(frozen_setCell _ _ _ _).trans h.f2,(frozen_setCell _ _ _ _).trans h.f3,(frozen_setCell _ _ _ _).trans h.f4,(frozen_setCell _ _ _ _).trans h.f5⟩

theorem Cl6.put2 {w : World} {b : Nat} {v0 v1 v2 v3 v4 v5 : Value} (h : Cl6 w b v0 v1 v2 v3 v4 v5) (u : Value) : Cl6 (w.setCell ⟨b,2,none⟩ u) b v0 v1 u v3 v4 v5:=
 ⟨(cell_setCell_ne _ _ (by simp)).trans h.c0,(cell_setCell_ne _ _ (by simp)).trans h.c1,cell_setCell_same _ _ h.c2,(cell_setCell_ne _ _ (by simp)).trans h.c3,(cell_setCell_ne _ _ (by simp)).trans h.c4,(cell_setCell_ne _ _ (by simp)).trans h.c5,(frozen_setCell _ _ _ _).trans h.f0,(frozen_setCell _ _ _ _).trans h.f1,(frozen_setCell _ _ _ _).trans h.f2,(frozen_setCell _ _ _ _).trans h.f3,(frozen_setCell _ _ _ _).trans h.f4,(frozen_setCell _ _ _ _).trans h.f5⟩

theorem Cl6.put3 {w : World} {b : Nat} {v0 v1 v2 v3 v4 v5 : Value} (h : Cl6 w b v0 v1 v2 v3 v4 v5) (u : Value) : Cl6 (w.setCell ⟨b,3,none⟩ u) b v0 v1 v2 u v4 v5:=
 ⟨(cell_setCell_ne _ _ (by simp)).trans h.c0,(cell_setCell_ne _ _ (by simp)).trans h.c1,(cell_setCell_ne _ _ (by simp)).trans h.c2,cell_setCell_same _ _ h.c3,(cell_setCell_ne _ _ (by simp)).trans h.c4,(cell_setCell_ne _ _ (by simp)).trans h.c5,(frozen_setCell _ _ _ _).trans h.f0,(frozen_setCell _ _ _ _).trans h.f1,(frozen_setCell _ _ _ _).trans h.f2,(frozen_setCell _ _ _ _).trans h.f3,(frozen_setCell _ _ _ _).trans h.f4,(frozen_setCell _ _ _ _).trans h.f5⟩

theorem Cl6.put4 {w : World} {b : Nat} {v0 v1 v2 v3 v4 v5 : Value} (h : Cl6 w b v0 v1 v2 v3 v4 v5) (u : Value) : Cl6 (w.setCell ⟨b,4,none⟩ u) b v0 v1 v2 v3 u v5:=
 ⟨(cell_setCell_ne _ _ (by simp)).trans h.c0,(cell_setCell_ne _ _ (by simp)).trans h.c1,(cell_setCell_ne _ _ (by simp)).trans h.c2,(cell_setCell_ne _ _ (by simp)).trans h.c3,cell_setCell_same _ _ h.c4,(cell_setCell_ne _ _ (by simp)).trans h.c5,(frozen_setCell _ _ _ _).trans h.f0,(frozen_setCell _ _ _ _).trans h.f1,(frozen_setCell _ _ _ _).trans h.f2,(frozen_setCell _ _ _ _).trans h.f3,(frozen_setCell _ _ _ _).trans h.f4,(frozen_setCell _ _ _ _).trans h.f5⟩

theorem Cl6.put5 {w : World} {b : Nat} {v0 v1 v2 v3 v4 v5 : Value} (h : Cl6 w b v0 v1 v2 v3 v4 v5) (u : Value) : Cl6 (w.setCell ⟨b,5,none⟩ u) b v0 v1 v2 v3 v4 u:=
 ⟨(cell_setCell_ne _ _ (by simp)).trans h.c0,(cell_setCell_ne _ _ (by simp)).trans h.c1,(cell_setCell_ne _ _ (by simp)).trans h.c2,(cell_setCell_ne _ _ (by simp)).trans h.c3,(cell_setCell_ne _ _ (by simp)).trans h.c4,cell_setCell_same _ _ h.c5,(frozen_setCell _ _ _ _).trans h.f0,(frozen_setCell _ _ _ _).trans h.f1,(frozen_setCell _ _ _ _).trans h.f2,(frozen_setCell _ _ _ _).trans h.f3,(frozen_setCell _ _ _ _).trans h.f4,(frozen_setCell _ _ _ _).trans h.f5⟩

theorem Cl6.put {w : World} {b : Nat} {v0 v1 v2 v3 v4 v5 : Value} (h : Cl6 w b v0 v1 v2 v3 v4 v5) (u0 u1 u2 u3 u4 u5 : Value) : Cl6 ((((((w.setCell ⟨b,0,none⟩ u0).setCell ⟨b,1,none⟩ u1).setCell ⟨b,2,none⟩ u2).setCell ⟨b,3,none⟩ u3).setCell ⟨b,4,none⟩ u4).setCell ⟨b,5,none⟩ u5) b u0 u1 u2 u3 u4 u5∧Only [b] w ((((((w.setCell ⟨b,0,none⟩ u0).setCell ⟨b,1,none⟩ u1).setCell ⟨b,2,none⟩ u2).setCell ⟨b,3,none⟩ u3).setCell ⟨b,4,none⟩ u4).setCell ⟨b,5,none⟩ u5):=
 ⟨((((((h.put0 _).put1 _).put2 _).put3 _).put4 _).put5 _),(((((((Only.refl [b] w).setCell (.inl (by simp)) _).setCell (.inl (by simp)) _).setCell (.inl (by simp)) _).setCell (.inl (by simp)) _).setCell (.inl (by simp)) _).setCell (.inl (by simp)) _)⟩

/-- The two cells of a module's block. -/
structure Mo2 (w : World) (b : Nat) (v0 v1 : Value) : Prop where
 c0 : w.cell? ⟨b,0,none⟩ = some v0
 c1 : w.cell? ⟨b,1,none⟩ = some v1
 f0 : w.frozen? ⟨b,0,none⟩ = false
 f1 : w.frozen? ⟨b,1,none⟩ = false

theorem Mo2.only {w w' : World} {S : List Nat} {b : Nat} {v0 v1 : Value} (h : Mo2 w b v0 v1) (ho : Only S w w') (hb : b ∉ S) : Mo2 w' b v0 v1:=by
 have hl:=World.block_lt_of_cell? w _ h.c0
 exact ⟨(ho.cell (p:=⟨b,0,none⟩) hl hb).trans h.c0,(ho.cell (p:=⟨b,1,none⟩) hl hb).trans h.c1,(ho.frozen (p:=⟨b,0,none⟩) hl hb).trans h.f0,(ho.frozen (p:=⟨b,1,none⟩) hl hb).trans h.f1⟩

theorem mo2_new (w : World) (v0 v1 : Value) (t : TypeId) : Mo2 (w.alloc (.cells #[v0,v1] t)) w.heap.size v0 v1:=
 ⟨by rw [cell_new]; rfl,by rw [cell_new]; rfl,frozen_new _ _ _ _,frozen_new _ _ _ _⟩

theorem Mo2.put0 {w : World} {b : Nat} {v0 v1 : Value} (h : Mo2 w b v0 v1) (u : Value) : Mo2 (w.setCell ⟨b,0,none⟩ u) b u v1:=
 ⟨cell_setCell_same _ _ h.c0,(cell_setCell_ne _ _ (by simp)).trans h.c1,(frozen_setCell _ _ _ _).trans h.f0,(frozen_setCell _ _ _ _).trans h.f1⟩

theorem Mo2.put1 {w : World} {b : Nat} {v0 v1 : Value} (h : Mo2 w b v0 v1) (u : Value) : Mo2 (w.setCell ⟨b,1,none⟩ u) b v0 u:=
 ⟨(cell_setCell_ne _ _ (by simp)).trans h.c0,cell_setCell_same _ _ h.c1,(frozen_setCell _ _ _ _).trans h.f0,(frozen_setCell _ _ _ _).trans h.f1⟩

theorem Mo2.put {w : World} {b : Nat} {v0 v1 : Value} (h : Mo2 w b v0 v1) (u0 u1 : Value) : Mo2 ((w.setCell ⟨b,0,none⟩ u0).setCell ⟨b,1,none⟩ u1) b u0 u1∧Only [b] w ((w.setCell ⟨b,0,none⟩ u0).setCell ⟨b,1,none⟩ u1):=
 ⟨((h.put0 _).put1 _),(((Only.refl [b] w).setCell (.inl (by simp)) _).setCell (.inl (by simp)) _)⟩


def anyZ (l : List In) (x : Int) : Bool:=l.any fun i=>decide (i.1 = x)

theorem anyZ_snoc (l : List In) (y : In) (x : Int) : anyZ (l ++ [y]) x = (anyZ l x || decide (y.1 = x)):=by simp [anyZ]

theorem begE_all (code : List UInt8) (k : Int) : begE (allR code).1 code.length k = anyZ (allR code).1 k:=by
 unfold begE anyZ begunI
 cases h : (allR code).1.any (fun i=>decide (i.1 = k)) with
 | true=>
  obtain ⟨i,hi,he⟩:=List.any_eq_true.1 h
  have he : i.1 = k:=by simpa using he
  obtain ⟨h0,h1,_,_,_,h2,_⟩:=all_each code i hi
  have k0 : 0≤k:=by omega
  have k1 : k < (code.length : Int):=by omega
  have e2 : ((k.toNat : Nat) : Int) = k:=by omega
  rw [decide_eq_true k0,decide_eq_true k1,e2,h]
  rfl
 | false=>
  by_cases k0 : 0≤k
  ·have e2 : ((k.toNat : Nat) : Int) = k:=by omega
   rw [e2,h]
   simp
  ·simp [k0]

set_option maxHeartbeats 400000 in
set_option maxRecDepth 100000 in
theorem rplaceZ_any {w : World} {ao : Option Addr} {l : List In} {d cap : Nat} (hI : RS w ao (qcs l) d) (hl : l.length≤9223372036854775807) (x : Int) :
  Calls Tryz.prog 219 #[.slice ao l.length cap,.int .i64 x] w fun e w'=>(∃ k : Int,e = .returned (.int .i64 k)∧decide (k < 0) = !anyZ l x)∧w' = w:=by
 go_enter Tryz.func219,Tryz.ntmps219
 go_wp2
 go_loopw [5] (fun i wr=>∃ j : Nat,j≤l.length∧i = .int .i64 (j : Int)∧Hid (anyZ (l.take j) x = false)∧wr = w) (fun i _=>l.length - (intOf i).toNat)
 case atStart=>exact ⟨0,by omega,rfl,by simp [Hid,anyZ],rfl⟩
 case round=>
  obtain ⟨j,hj,rfl,hq,rfl⟩:=hrel
  by_cases hlt : j < l.length
  ·have g2 : ((j : Int) < (l.length : Int)):=by omega
   obtain ⟨off,rfl,y0,y1,y2,y3⟩:=hI.inAt hlt
   clear hI
   have hm : Hid (l[j].1 = x→anyZ l x = true):=by
    intro h
    unfold anyZ
    rw [List.any_eq_true]
    exact ⟨l[j],List.getElem_mem hlt,by simp [h]⟩
   have hnx : Hid (l[j].1≠x→anyZ (l.take (j + 1)) x = false):=by
    intro h1
    rw [List.take_succ_eq_append_getElem hlt,anyZ_snoc,hq.out]
    simp [h1]
   generalize l[j] = y at *
   obtain ⟨p,o,n,s⟩:=y
   simp only at y0 y1 y2 y3 hm hnx
   by_cases he : p = x
   ·subst he
    have hm':=hid (hm.out rfl)
    clear hnx hm
    go_wp2
    go_ret
    exact ⟨⟨(j : Int),rfl,by rw [hm'.out]; simp⟩,rfl⟩
   ·have g3 : (p == x) = false:=by simpa using he
    replace hnx:=hid (hnx.out he)
    clear hm
    go_wp2
    exact ⟨⟨j + 1,by omega,by go_num,hnx,by first | rfl | trivial⟩,by simp [intOf]; omega⟩
  ·have g2 : ¬ ((j : Int) < (l.length : Int)):=by omega
   have hn : Hid (anyZ l x = false):=by
    have:=hq.out
    rw [List.take_of_length_le (by omega)] at this
    exact this
   clear hI
   go_wp2
   go_ret
   exact ⟨⟨-1,rfl,by rw [hn.out]; rfl⟩,rfl⟩


end Go.Proofs.YtildemmkhndhjaaGreatDoor
