/-
  What the proof leans on, part 14 of 48. The conditions stand in each theorem.
-/
import Derived.Test.YtildemmkhndhjaaGreatDoorB13
import Derived.Test.YtildemmkhndhjaaGreatDoorB01
import Derived.Test.YtildemmkhndhjaaGreatDoorB02
import Derived.Test.YtildemmkhndhjaaGreatDoorB08
import Derived.Test.YtildemmkhndhjaaGreatDoorB11
import Derived.Test.YtildemmkhndhjaaGreatDoorB12
import Derived.Test.YtildemmkhndhjaaGreatDoorB10
namespace Go.Proofs.YtildemmkhndhjaaGreatDoor
open Go.RowKit

theorem out_spell {α : Type} (f : List UInt8→α × Int) {t t1 : St} {x : List UInt8} {n : Nat} (h : Out pText t x t1) (hn : ∀ u,t = .inr u→n = u.2) : Out (pSpell f) t (f x).1 (if (f x).2 = 0 then t1 else tRefuse (n : Int) (f x).2 t1):=by
 unfold Out at h ⊢
 cases t with
 | inl g=>
  simp only at h
  subst h
  show (if (f x).2 = 0 then Sum.inl g else tRefuse (n : Int) (f x).2 (Sum.inl g)) = Sum.inl g
  split <;> rfl
 | inr u=>
  have hn:=hn u rfl
  simp only [pSpell,pBind] at h ⊢
  cases hp : pText u with
  | inl g=>
   simp only [hp] at h ⊢
   subst h
   split <;> rfl
  | inr z=>
   obtain ⟨y,u'⟩:=z
   simp only [hp] at h ⊢
   obtain ⟨rfl,rfl⟩:=h
   by_cases he : (f x).2 = 0
   ·rw [if_pos he,if_pos he]
    exact ⟨rfl,rfl⟩
   ·rw [if_neg he,if_neg he,hn]
    rfl

theorem typeR_len (l : List UInt8) : (typeR l).1.2.length≤32:=by
 by_cases h : (typeR l).2 = 0
 ·exact (check_fit (type_read l h).1).2.2
 ·unfold typeR at h ⊢
  split
  ·rename_i hp
   rw [hp] at h
   simp at h
  ·simp

set_option maxHeartbeats 4000000 in
theorem rspell_ty {w : World} {sb r d : Nat} {t : St} (h : Sc w sb r d t) :
  Calls Tryz.prog 175 #[.pointer (some ⟨sb,0,none⟩),.func (.func 161) #[] #[]] w fun e w'=>∃ (x : Ty) (t' : St),e = .returned (tyV x)∧x.2.length≤32∧Sc w' sb r d t'∧Out (pSpell typeR) t x t'∧Only [sb,r] w w':=by
 have o0:=hid ((Only.refl [sb,r] w).alloc (.cells #[.int .i64 0,.string ⟨#[]⟩] 35))
 have h0:=h.only0 ((Only.refl [] w).alloc (.cells #[.int .i64 0,.string ⟨#[]⟩] 35))
 have hl:=h.lt
 clear h
 have q0 : Hid ((w.alloc (.cells #[.int .i64 0,.string ⟨#[]⟩] 35)).cell? ⟨w.heap.size,0,none⟩ = some (.int .i64 0)∧(w.alloc (.cells #[.int .i64 0,.string ⟨#[]⟩] 35)).cell? ⟨w.heap.size,1,none⟩ = some (.string ⟨#[]⟩)):=⟨by rw [cell_new]; rfl,by rw [cell_new]; rfl⟩
 have c0:=h0.c0
 have HA:=hid (sc_at h0)
 go_enter Tryz.func175,Tryz.ntmps175
 go_wp2_with fail
 refine HA.out.mono ?_
 rintro e w1 ⟨n,rfl,hn,rfl⟩
 have HT:=hid (sc_text h0)
 go_wp2_with fail
 refine HT.out.mono ?_
 rintro e w2 ⟨x,t1,rfl,hx,h1,hO,ho2⟩
 have HD:=hid (type_any x (by omega) w2)
 clear HA HT c0
 have c0:=h1.c0
 have o2:=hid (o0.out.trans ho2 (by simp))
 have hos:=out_spell typeR hO hn
 have hl2:=h1.lt
 have hs2 : w.heap.size < w2.heap.size:=Nat.lt_of_lt_of_le (by simp) ho2.size
 have q1 : Hid (w2.cell? ⟨w.heap.size,0,none⟩ = some (.int .i64 0)∧w2.cell? ⟨w.heap.size,1,none⟩ = some (.string ⟨#[]⟩)∧w2.frozen? ⟨w.heap.size,0,none⟩ = false∧w2.frozen? ⟨w.heap.size,1,none⟩ = false):=
  ⟨(ho2.cell (p:=⟨w.heap.size,0,none⟩) (by simp) (by simp; omega)).trans q0.out.1,(ho2.cell (p:=⟨w.heap.size,1,none⟩) (by simp) (by simp; omega)).trans q0.out.2,(ho2.frozen (p:=⟨w.heap.size,0,none⟩) (by simp) (by simp; omega)).trans (frozen_new _ _ _ _),(ho2.frozen (p:=⟨w.heap.size,1,none⟩) (by simp) (by simp; omega)).trans (frozen_new _ _ _ _)⟩
 have htn:=typeR_len x
 generalize typeR x = y at *
 obtain ⟨⟨yd,yn⟩,ye⟩:=y
 unfold tyV at HD
 simp only at hos HD htn
 by_cases he : ye = 0
 ·subst he
  rw [if_pos rfl] at hos
  go_wp2_with fail
  refine HD.out.mono ?_
  rintro e w3 ⟨rfl,ho3⟩
  have r0:=(ho3.cell (p:=⟨w.heap.size,0,none⟩) hs2 (by simp)).trans q1.out.1
  have r1:=(ho3.cell (p:=⟨w.heap.size,1,none⟩) hs2 (by simp)).trans q1.out.2.1
  have z0:=(ho3.frozen (p:=⟨w.heap.size,0,none⟩) hs2 (by simp)).trans q1.out.2.2.1
  have z1:=(ho3.frozen (p:=⟨w.heap.size,1,none⟩) hs2 (by simp)).trans q1.out.2.2.2
  have r0':=fun o=>cell_alloc o r0
  have r1':=fun o=>cell_alloc o r1
  have hs3 : w.heap.size < w3.heap.size:=Nat.lt_of_lt_of_le hs2 ho3.size
  have z0' : ∀ o,(w3.alloc o).frozen? ⟨w.heap.size,0,none⟩ = false:=fun o=>(frozen_alloc o hs3).trans z0
  have z1' : ∀ o,(w3.alloc o).frozen? ⟨w.heap.size,1,none⟩ = false:=fun o=>(frozen_alloc o hs3).trans z1
  go_wp2_with fail
  have p2:=put2 (.int .i64 yd) (.string (str yn)) r0 r1 (by decide)
  have d0:=cell_alloc (.cells #[.int .i64 yd,.string (str yn)] 35) p2.1
  have d1:=cell_alloc (.cells #[.int .i64 yd,.string (str yn)] 35) p2.2
  refine bodyPost_ret (v:=tyV (yd,yn)) (by simp [results,Tryz.results175,go_sem,d0,d1,tyV]) rfl ?_
  have oS : Only [w.heap.size] w3 _:=((Only.refl [w.heap.size] w3).setCell (p:=⟨w.heap.size,0,none⟩) (.inl (by simp)) (.int .i64 yd)).setCell (p:=⟨w.heap.size,1,none⟩) (.inl (by simp)) (.string (str yn))
  refine ⟨(yd,yn),t1,rfl,htn,?_,hos,?_⟩
  ·exact ((h1.only0 ho3).other (by simp) (.inr (.inl r1)) (by omega) oS).only0 ((Only.refl [] _).alloc _)
  ·exact ((o2.out.next ho3 (by simp)).next oS (by simp)).alloc _
 ·have he' : (ye == 0) = false:=by simpa using he
  rw [if_neg he] at hos
  go_wp2_with fail
  refine HD.out.mono ?_
  rintro e w3 ⟨rfl,ho3⟩
  have hs3 : w.heap.size < w3.heap.size:=Nat.lt_of_lt_of_le hs2 ho3.size
  have oA:=(Only.refl [] w3).alloc (.cells #[.int .i64 yd,.string (str yn)] 35)
  have h3:=(h1.only0 ho3).only0 oA
  have HR:=hid (refuse_src h3 (n : Int) ye he)
  have a0 : Hid ((w3.alloc (.cells #[.int .i64 yd,.string (str yn)] 35)).cell? ⟨w3.heap.size,0,none⟩ = some (.int .i64 yd)∧(w3.alloc (.cells #[.int .i64 yd,.string (str yn)] 35)).cell? ⟨w3.heap.size,1,none⟩ = some (.string (str yn))):=⟨by rw [cell_new]; rfl,by rw [cell_new]; rfl⟩
  have q3 : Hid ((w3.alloc (.cells #[.int .i64 yd,.string (str yn)] 35)).cell? ⟨w.heap.size,0,none⟩ = some (.int .i64 0)∧(w3.alloc (.cells #[.int .i64 yd,.string (str yn)] 35)).cell? ⟨w.heap.size,1,none⟩ = some (.string ⟨#[]⟩)∧(w3.alloc (.cells #[.int .i64 yd,.string (str yn)] 35)).frozen? ⟨w.heap.size,0,none⟩ = false∧(w3.alloc (.cells #[.int .i64 yd,.string (str yn)] 35)).frozen? ⟨w.heap.size,1,none⟩ = false):=
   ⟨((ho3.next oA (by simp)).cell (p:=⟨w.heap.size,0,none⟩) hs2 (by simp)).trans q1.out.1,((ho3.next oA (by simp)).cell (p:=⟨w.heap.size,1,none⟩) hs2 (by simp)).trans q1.out.2.1,((ho3.next oA (by simp)).frozen (p:=⟨w.heap.size,0,none⟩) hs2 (by simp)).trans q1.out.2.2.1,((ho3.next oA (by simp)).frozen (p:=⟨w.heap.size,1,none⟩) hs2 (by simp)).trans q1.out.2.2.2⟩
  have hs4 : w.heap.size < (w3.alloc (.cells #[.int .i64 yd,.string (str yn)] 35)).heap.size:=by simp; omega
  have hs5 : w3.heap.size < (w3.alloc (.cells #[.int .i64 yd,.string (str yn)] 35)).heap.size:=by simp
  have hsb : sb < w3.heap.size:=by have:=ho3.size; omega
  clear HD
  go_wp2_with fail
  refine HR.out.mono ?_
  rintro e w4 ⟨rfl,h4,ho4⟩
  have b0:=(ho4.cell (p:=⟨w3.heap.size,0,none⟩) hs5 (by simp; omega)).trans a0.out.1
  have b1:=(ho4.cell (p:=⟨w3.heap.size,1,none⟩) hs5 (by simp; omega)).trans a0.out.2
  have r0:=(ho4.cell (p:=⟨w.heap.size,0,none⟩) hs4 (by simp; omega)).trans q3.out.1
  have r1:=(ho4.cell (p:=⟨w.heap.size,1,none⟩) hs4 (by simp; omega)).trans q3.out.2.1
  have z0:=(ho4.frozen (p:=⟨w.heap.size,0,none⟩) hs4 (by simp; omega)).trans q3.out.2.2.1
  have z1:=(ho4.frozen (p:=⟨w.heap.size,1,none⟩) hs4 (by simp; omega)).trans q3.out.2.2.2
  clear HR
  go_wp2_with fail
  have p2:=put2 (.int .i64 yd) (.string (str yn)) r0 r1 (by decide)
  have d0:=p2.1
  have d1:=p2.2
  refine bodyPost_ret (v:=tyV (yd,yn)) (by simp [results,Tryz.results175,go_sem,d0,d1,tyV]) rfl ?_
  have oS : Only [w.heap.size] w4 _:=((Only.refl [w.heap.size] w4).setCell (p:=⟨w.heap.size,0,none⟩) (.inl (by simp)) (.int .i64 yd)).setCell (p:=⟨w.heap.size,1,none⟩) (.inl (by simp)) (.string (str yn))
  refine ⟨(yd,yn),_,rfl,htn,h4.other (by simp) (.inr (.inl r1)) (by omega) oS,hos,?_⟩
  exact (((o2.out.next ho3 (by simp)).next oA (by simp)).trans ho4 (by simp)).next oS (by simp)


set_option maxHeartbeats 4000000 in
theorem rhandler_any {w : World} {sb r d : Nat} {t : St} (h : Sc w sb r d t) :
  Calls Tryz.prog 178 #[.pointer (some ⟨sb,0,none⟩)] w fun e w'=>∃ (x : Hd) (t' : St),e = .returned (hdV x)∧x.2.2.2.length≤262144∧Sc w' sb r d t'∧Out pHand t x t'∧Only [sb,r] w w':=by
 have o0:=(Only.refl [sb,r] w).alloc (.cells #[.int .i64 0,.int .i64 0,.int .i64 0,.string ⟨#[]⟩] 46)
 have h0:=h.only0 ((Only.refl [] w).alloc (.cells #[.int .i64 0,.int .i64 0,.int .i64 0,.string ⟨#[]⟩] 46))
 have hl:=h.lt
 obtain ⟨rv,hrv⟩ : ∃ rv,rv = w.heap.size:=⟨_,rfl⟩
 have hr : rv≠sb∧rv≠r:=by omega
 have hw : w.heap.size≤rv:=by omega
 obtain ⟨gv,hgv⟩:=gv_ex rv
 replace hgv:=hid hgv
 have hk:=knew4 hgv.out h0.c0 o0 (by subst hrv; rw [cell_new]; rfl) (by subst hrv; rw [cell_new]; rfl) (by subst hrv; rw [cell_new]; rfl) (by subst hrv; rw [cell_new]; rfl) (by subst hrv; exact frozen_new _ _ _ _) (by subst hrv; exact frozen_new _ _ _ _) (by subst hrv; exact frozen_new _ _ _ _) (by subst hrv; exact frozen_new _ _ _ _)
 clear h
 replace hk:=hid hk
 replace hrv:=hid hrv
 go_enter Tryz.func178,Tryz.ntmps178
 go_wp2_with fail
 rw [← hrv.out]
 go_region_held3 (fun w'=>w'.cell? ⟨sb,0,none⟩ = some (.pointer (some ⟨r,0,none⟩))∧Only [sb,r] w w'∧w'.cell? ⟨rv,0,none⟩ = some (gv 0 w')∧w'.cell? ⟨rv,1,none⟩ = some (gv 1 w')∧w'.cell? ⟨rv,2,none⟩ = some (gv 2 w')∧w'.cell? ⟨rv,3,none⟩ = some (gv 3 w')∧w'.frozen? ⟨rv,0,none⟩ = false∧w'.frozen? ⟨rv,1,none⟩ = false∧w'.frozen? ⟨rv,2,none⟩ = false∧w'.frozen? ⟨rv,3,none⟩ = false)
  (first | (with_reducible exact hk.out) | (with_reducible exact kdrew4 hgv.out hk.out) | ((with_reducible refine kset4 hgv.out hr hw _ _ ?_); (with_reducible refine kset4 hgv.out hr hw _ _ ?_); (with_reducible refine kset4 hgv.out hr hw _ _ ?_); (with_reducible refine kset4 hgv.out hr hw _ _ ?_); (with_reducible assumption)) | (with_reducible exact kcall4 hgv.out hr (by assumption) (by assumption) (by assumption) (by simp)))
  (first
   | (go_at_call 77; (first | (with_reducible refine (sc_u2 (by assumption)).mono ?_) | (with_reducible refine (sc_u2 (Sc.drew (by assumption))).mono ?_)); rintro e w1 ⟨n,t',rfl,hn,hs,hO,ho⟩)
   | (go_at_call 138; (first | (with_reducible refine (sc_text (by assumption)).mono ?_) | (with_reducible refine (sc_text (Sc.drew (by assumption))).mono ?_)); rintro e w1 ⟨x,t',rfl,hx,hs,hO,ho⟩; obtain ⟨_,_,k0,k1,k2,k3,z0,z1,z2,z3⟩:=kcall4 hgv.out hr (by assumption) hs ho (by simp)))
 rename_i wa na ta hna hsa hOa hoa wb nb tb hnb hsb hOb hob wc tc hsc hOc hoc _ hOn hH
 clear hH k0 k1 k2 k3
 have hlv : rv < (w.alloc (.cells #[.int .i64 0,.int .i64 0,.int .i64 0,.string ⟨#[]⟩] 46)).heap.size:=by have:=hrv.out; simp; omega
 have hoa2 : Only [r] (w.alloc (.cells #[.int .i64 0,.int .i64 0,.int .i64 0,.string ⟨#[]⟩] 46)) w1:=((((Only.refl [r] _).drew.trans hoa (by simp)).trans hob (by simp)).trans hoc (by simp)).trans ho (by simp)
 have g : ∀ i v,#[.int .i64 0,.int .i64 0,.int .i64 0,.string ⟨#[]⟩][i]? = some v→w1.cell? ⟨rv,i,none⟩ = some v:=fun i v hv=>(hoa2.cell (p:=⟨rv,i,none⟩) hlv (by simp [hr.2])).trans (by rw [hrv.out,cell_new,hv])
 have u0:=cell_setCell_same w1 (.int .i64 (na : Int)) (g 0 _ rfl)
 have oS : Only [rv] w1 ((((w1.setCell ⟨rv,0,none⟩ (.int .i64 (na : Int))).setCell ⟨rv,1,none⟩ (.int .i64 (nb : Int))).setCell ⟨rv,2,none⟩ (.int .i64 (n : Int))).setCell ⟨rv,3,none⟩ (.string (str x))):=((((Only.refl [rv] w1).setCell (.inl (by simp)) _).setCell (.inl (by simp)) _).setCell (.inl (by simp)) _).setCell (.inl (by simp)) _
 have hfin:=hs.other (by simp) (.inr (.inr (g 3 _ rfl))) (by omega) oS
 have hout : Out pHand t ((na : Int),(nb : Int),(n : Int),x) t':=out_bind hOa (out_bind hOb (out_bind hOc (out_bind hO (out_done _ _))))
 have e0:=g 0 _ rfl
 have e1:=g 1 _ rfl
 have e2:=g 2 _ rfl
 have e3:=g 3 _ rfl
 go_wp2_with fail
 refine bodyPost_ret (v:=hdV ((na : Int),(nb : Int),(n : Int),x)) (by simp [results,Tryz.results178,go_sem,e0,e1,e2,e3,hdV]) rfl ?_
 exact ⟨_,t',rfl,hx,hfin,hout,hOn.next oS (by simp; omega)⟩

end Go.Proofs.YtildemmkhndhjaaGreatDoor
namespace Go.Proofs.YtildemmkhndhjaaGreatDoor
open Go.ChangeShapes Go.WideShapes Go.ChangeAt Go.RowKit

theorem list_of_each {α : Type} {P : Nat→α→Prop} (n : Nat) (h : ∀ j,j < n→∃ y,P j y) : ∃ l : List α,l.length = n∧∀ j (hj : j < l.length),P j l[j]:=by
 induction n with
 | zero=>exact ⟨[],rfl,fun j hj=>by simp at hj⟩
 | succ n ih=>
  obtain ⟨l,hl,hp⟩:=ih (fun j hj=>h j (by omega))
  obtain ⟨y,hy⟩:=h n (by omega)
  refine ⟨l ++ [y],by simp [hl],fun j hj=>?_⟩
  by_cases e : j < l.length
  ·rw [List.getElem_append_left e]
   exact hp j e
  ·have : j = l.length:=by simp at hj; omega
   subst this
   rw [List.getElem_append_right (Nat.le_refl _)]
   simp
   rw [hl]
   exact hy

theorem bulk_mem {H : Type} (l : List (DataW H)) (d : DataW H) (h : d∈l) : Rows.uptoBulk d≤Rows.uptoBulkAll l:=by
 induction l with
 | nil=>cases h
 | cons x l ih=>
  simp only [Rows.uptoBulkAll]
  rcases List.mem_cons.1 h with rfl | h
  ·omega
  ·have:=ih h
   omega

theorem bulk_pos {H : Type} (d : DataW H) : 1≤Rows.uptoBulk d:=by
 cases d with
 | lit x=>cases x <;> simp [Rows.uptoBulk]
 | nil=>simp [Rows.uptoBulk]
 | ptr d=>simp [Rows.uptoBulk]
 | slice a b=>simp [Rows.uptoBulk]
 | agg l=>simp [Rows.uptoBulk]
 | iface t d=>simp [Rows.uptoBulk]
 | map l=>simp [Rows.uptoBulk]
 | held x=>simp [Rows.uptoBulk]

theorem bulk_len {H : Type} (l : List (DataW H)) : l.length≤Rows.uptoBulkAll l:=by
 induction l with
 | nil=>simp
 | cons x l ih=>
  have:=bulk_pos x
  simp only [Rows.uptoBulkAll,List.length_cons]
  omega

theorem els_flat' {α : Type} {k : Nat} (f : α→List Value) : ∀ l : List α,(∀ x∈l,(f x).length = k)→Els k (fun c x=>c = f x) (l.flatMap f) l:=by
 intro l
 induction l with
 | nil=>exact fun _=>Els.nil _ _
 | cons x l ih=>
  intro hf
  have hx:=hf x (by simp)
  have ih:=ih fun y hy=>hf y (by simp [hy])
  refine ⟨by rw [List.flatMap_cons,List.length_append,hx,ih.len,List.length_cons,Nat.add_mul]; omega,fun j hj=>?_⟩
  cases j with
  | zero=>
   rw [List.flatMap_cons,Nat.zero_mul,List.drop_zero,← hx,List.take_left]
   rfl
  | succ j=>
   have:=ih.el j (by simpa using hj)
   rw [List.getElem_cons_succ,← this,List.flatMap_cons,Nat.add_mul,Nat.one_mul,Nat.add_comm,← hx,← List.drop_drop,List.drop_left]

section
variable {H : Type} {enc : TypeId × Value→H} {W : World}

/-- A slice that came in, whose elements take k cells each. -/
theorem cell_row {α : Type} {T e : TypeId} {k : Nat} (hT : Tryz.prog.underlying T = some (.slice e)) (hC : Tryz.prog.cellsOf e = k) (hk : 0 < k) {A : List Value→α→Nat→Prop}
  (each : ∀ (fuel : Nat) (cs : List Value) (x : DataW H × List MemPlace),DataW.trod enc Tryz.prog W 0 (fun _=>true) true fuel e cs = some x→∃ y,A cs y (Rows.uptoBulk x.1))
  {fuel : Nat} {v : Value} {x : DataW H × List MemPlace} (hf : DataW.trod enc Tryz.prog W 0 (fun _=>true) true fuel T [v] = some x) :
  ∃ (l : List α) (cs : List Value),SlV W (fun _=>True) v l.length cs∧Els k (fun c y=>∃ b,b≤Rows.uptoBulk x.1∧A c y b) cs l∧l.length≤Rows.uptoBulk x.1:=by
 rcases DataW.trod_slice hT hf with ⟨hcs,hx⟩ | ⟨a,len,cap,elems,rest,n,_,hcs,hx,_,hl,hm,hlen,hel,_,_⟩
 ·obtain rfl : v = .slice none 0 0:=by simpa using hcs
  exact ⟨[],[],SlV.nil _ _,Els.nil _ _,by simp⟩
 ·obtain rfl : v = .slice (some a) len cap:=by simpa using hcs
  have hb : Rows.uptoBulkAll (elems.map (·.1))≤Rows.uptoBulk x.1:=by
   rw [hx]
   simp only [Rows.uptoBulk]
   omega
  have each' : ∀ j,j < len→∃ z : List Value × α,(z.1.length = k∧∀ i,i < k→W.cell? ((a.add (j * k)).add i) = z.1[i]?)∧∃ b,b≤Rows.uptoBulk x.1∧A z.1 z.2 b:=by
   intro j hj
   have hj':=hel j hj
   rw [hC] at hj'
   have hjl : j < elems.length:=by omega
   rw [List.getElem?_eq_getElem hjl] at hj'
   obtain ⟨cs,hcs,htr⟩:=Option.bind_eq_some_iff.1 hj'
   obtain ⟨_,h1,h2⟩:=World.cells?_some hcs
   obtain ⟨y,hy⟩:=each _ _ _ htr
   refine ⟨(cs,y),⟨h1,h2⟩,_,?_,hy⟩
   have:=bulk_mem (elems.map (·.1)) elems[j].1 (List.mem_map.2 ⟨elems[j],List.getElem_mem hjl,rfl⟩)
   omega
  obtain ⟨l',hll,hp⟩:=list_of_each len each'
  have hlk : ∀ z∈l',z.1.length = k:=fun z hz=>by
   obtain ⟨j,hj,rfl⟩:=List.getElem_of_mem hz
   exact (hp j hj).1.1
  have hE : Els k (fun c (z : List Value × α)=>c = z.1) (l'.flatMap Prod.fst) l':=els_flat' Prod.fst l' hlk
  refine ⟨l'.map Prod.snd,l'.flatMap Prod.fst,?_,⟨by rw [hE.len,List.length_map],fun j hj=>?_⟩,?_⟩
  ·by_cases h0 : len = 0
   ·have : l' = []:=List.eq_nil_of_length_eq_zero (by omega)
    subst this
    refine ⟨some a,cap,a.block,by simp [h0],RS.nil _ _ _,fun _=>trivial,by simp,by simp only [maxLen] at hm; omega,fun e=>by cases e⟩
   ·obtain ⟨b,off,spot⟩:=a
    have hc0:=(hp 0 (by omega)).1
    have hcz:=hc0.2 0 hk
    rw [List.getElem?_eq_getElem (by omega)] at hcz
    have hspot : spot = none:=by simpa [Addr.add] using World.cell?_spot hcz
    subst hspot
    refine ⟨some ⟨b,off,none⟩,cap,b,by simp [hll],.inr ⟨off,rfl,fun j u hj=>?_⟩,fun _=>trivial,by simp; omega,by simp only [maxLen] at hm; omega,fun e=>by cases e⟩
    have hjl : j < (l'.flatMap Prod.fst).length:=(List.getElem?_eq_some_iff.1 hj).1
    rw [hE.len] at hjl
    have hq : j / k < l'.length:=Nat.div_lt_of_lt_mul (by rw [Nat.mul_comm]; exact hjl)
    have hel:=hE.el (j / k) hq
    have hr : j % k < k:=Nat.mod_lt _ hk
    have hj2 : j / k * k + j % k = j:=by rw [Nat.mul_comm]; exact Nat.div_add_mod j k
    have hval : l'[j / k].1[j % k]? = some u:=by
     rw [← hel,List.getElem?_take,if_pos hr,List.getElem?_drop,hj2]
     exact hj
    have hcell:=(hp (j / k) hq).1.2 (j % k) hr
    rw [Addr.add_lit,Addr.add_lit,hval,Nat.add_assoc,hj2] at hcell
    exact hcell
  ·have hj' : j < l'.length:=by simpa using hj
   rw [hE.el j hj']
   simpa using (hp j hj').2
  ·have:=bulk_len (elems.map (·.1))
   simp at this ⊢
   omega

end

end Go.Proofs.YtildemmkhndhjaaGreatDoor
namespace Go.Proofs.YtildemmkhndhjaaGreatDoor
open Go.ChangeShapes Go.WideShapes Go.ChangeAt Go.RowKit

/-- The cells of a list whose elements' cells are known. -/
theorem els_flat_eq {α : Type} {k : Nat} {f : α→List Value} {cs : List Value} {l : List α} (h : Els k (fun c y=>c = f y) cs l) (hk : 0 < k) (hf : ∀ x,(f x).length = k) : cs = l.flatMap f:=by
 have h2:=els_flat f hf l
 apply List.ext_getElem?
 intro j
 by_cases hj : j < l.length * k
 ·have hq : j / k < l.length:=Nat.div_lt_of_lt_mul (by rw [Nat.mul_comm]; exact hj)
  have hr : j % k < k:=Nat.mod_lt _ hk
  have hj2 : j / k * k + j % k = j:=by rw [Nat.mul_comm]; exact Nat.div_add_mod j k
  have e1 : cs[j]? = (f l[j / k])[j % k]?:=by rw [← h.el (j / k) hq,List.getElem?_take,if_pos hr,List.getElem?_drop,hj2]
  have e2 : (l.flatMap f)[j]? = (f l[j / k])[j % k]?:=by rw [← h2.el (j / k) hq,List.getElem?_take,if_pos hr,List.getElem?_drop,hj2]
  rw [e1,e2]
 ·rw [List.getElem?_eq_none (by rw [h.len]; omega),List.getElem?_eq_none (by rw [h2.len]; omega)]

theorem tcs_flat (l : List Ty) : tcs l = l.flatMap fun t=>[.int .i64 t.1,.string (str t.2)]:=by
 induction l with
 | nil=>rfl
 | cons t l ih=>simp [tcs,ih]

theorem bcs_flat (l : List UInt8) : bcs l = l.flatMap fun c=>[.int .u8 (c.toNat : Int)]:=by
 induction l with
 | nil=>rfl
 | cons t l ih=>simp only [bcs,List.map_cons,List.flatMap_cons] at ih ⊢; rw [ih]; rfl

def enC (e : En) : List Value:=[.int .i64 e.1,.string (str e.2.1),.int .i64 e.2.2.1,.int .i64 e.2.2.2.1,.int .i64 e.2.2.2.2.1,.int .i64 e.2.2.2.2.2]
theorem ecs_flat (l : List En) : ecs l = l.flatMap enC:=by
 induction l with
 | nil=>rfl
 | cons t l ih=>simp [ecs,ih,enC]

theorem els_all {α : Type} {k B : Nat} {f : α→List Value} {Q : α→Nat→Prop} {cs : List Value} {l : List α} (h : Els k (fun c y=>∃ b,b≤B∧(c = f y∧Q y b)) cs l) : Els k (fun c y=>c = f y) cs l∧∀ y∈l,∃ b,b≤B∧Q y b:=
 ⟨h.imp fun _ _ _ ⟨_,_,h,_⟩=>h,fun y hy=>by
  obtain ⟨j,hj,rfl⟩:=List.getElem_of_mem hy
  obtain ⟨b,hb,_,hq⟩:=h.el j hj
  exact ⟨b,hb,hq⟩⟩


theorem list_2 {α : Type} {l : List α} (h : l.length = 2) : ∃ a0 a1,l = [a0,a1]:=by
 match l,h with
 | [a0,a1],_=>exact ⟨a0,a1,rfl⟩

theorem list_4 {α : Type} {l : List α} (h : l.length = 4) : ∃ a0 a1 a2 a3,l = [a0,a1,a2,a3]:=by
 match l,h with
 | [a0,a1,a2,a3],_=>exact ⟨a0,a1,a2,a3,rfl⟩

theorem list_6 {α : Type} {l : List α} (h : l.length = 6) : ∃ a0 a1 a2 a3 a4 a5,l = [a0,a1,a2,a3,a4,a5]:=by
 match l,h with
 | [a0,a1,a2,a3,a4,a5],_=>exact ⟨a0,a1,a2,a3,a4,a5,rfl⟩

theorem list_10 {α : Type} {l : List α} (h : l.length = 10) : ∃ a0 a1 a2 a3 a4 a5 a6 a7 a8 a9,l = [a0,a1,a2,a3,a4,a5,a6,a7,a8,a9]:=by
 match l,h with
 | [a0,a1,a2,a3,a4,a5,a6,a7,a8,a9],_=>exact ⟨a0,a1,a2,a3,a4,a5,a6,a7,a8,a9,rfl⟩

section
variable {H : Type} {enc : TypeId × Value→H} {W : World}

theorem trod_field {t : TypeId} {fs : Array Field} {fuel : Nat} {cs : List Value} {x : DataW H × List MemPlace} (ht : Tryz.prog.underlying t = some (.struct fs)) (h : DataW.trod enc Tryz.prog W 0 (fun _=>true) true fuel t cs = some x) :
  cs.length = Tryz.prog.cellsOf t∧∀ (i : Nat) (f : Field),fs[i]? = some f→∃ (n : Nat) (y : DataW H × List MemPlace),DataW.trod enc Tryz.prog W 0 (fun _=>true) true n f.type ((cs.drop f.offset).take (Tryz.prog.cellsOf f.type)) = some y∧Rows.uptoBulk y.1≤Rows.uptoBulk x.1:=by
 obtain ⟨xs,n,_,hx,hl,hlen,hf⟩:=DataW.trod_struct ht h
 refine ⟨hl,fun i f hi=>?_⟩
 have hi' : i < xs.length:=by rw [hlen]; exact (Array.getElem?_eq_some_iff.1 hi).1
 have:=hf i f hi
 rw [List.getElem?_eq_getElem hi'] at this
 refine ⟨n,xs[i],this,?_⟩
 have hb:=bulk_mem (xs.map (·.1)) xs[i].1 (List.mem_map.2 ⟨xs[i],List.getElem_mem hi',rfl⟩)
 rw [hx]
 simp only [Rows.uptoBulk]
 omega

theorem c_int : Tryz.prog.cellsOf 3 = 1:=by kernel_rfl
theorem c_int64 : Tryz.prog.cellsOf 2 = 1:=by kernel_rfl
theorem c_bool : Tryz.prog.cellsOf 4 = 1:=by kernel_rfl
theorem c_string : Tryz.prog.cellsOf 9 = 1:=by kernel_rfl
theorem c_byte : Tryz.prog.cellsOf 5 = 1:=by kernel_rfl
theorem c_type : Tryz.prog.cellsOf 35 = 2:=by kernel_rfl
theorem c_sig : Tryz.prog.cellsOf 37 = 4:=by kernel_rfl
theorem c_hd : Tryz.prog.cellsOf 46 = 4:=by kernel_rfl
theorem c_fd : Tryz.prog.cellsOf 44 = 4:=by kernel_rfl
theorem c_en : Tryz.prog.cellsOf 90 = 6:=by kernel_rfl
theorem c_me : Tryz.prog.cellsOf 41 = 10:=by kernel_rfl
theorem c_cl : Tryz.prog.cellsOf 28 = 6:=by kernel_rfl
theorem c_mo : Tryz.prog.cellsOf 32 = 2:=by kernel_rfl
theorem c_ls : Tryz.prog.cellsOf 24 = 1:=by kernel_rfl
theorem c_lb : Tryz.prog.cellsOf 38 = 1:=by kernel_rfl
theorem c_lt : Tryz.prog.cellsOf 33 = 1:=by kernel_rfl
theorem c_lh : Tryz.prog.cellsOf 39 = 1:=by kernel_rfl
theorem c_lf : Tryz.prog.cellsOf 25 = 1:=by kernel_rfl
theorem c_lm : Tryz.prog.cellsOf 26 = 1:=by kernel_rfl
theorem c_le : Tryz.prog.cellsOf 29 = 1:=by kernel_rfl
theorem c_lc : Tryz.prog.cellsOf 30 = 1:=by kernel_rfl

/-- A number that a machine holds. -/
def I64 (n : Int) : Prop:=-9223372036854775808≤n∧n≤9223372036854775807
theorem i64_of {n : Int} (h : (Lit.int .i64 n).wf = true) : I64 n:=bounds_i64 h

/-- How great the parts of a module are that came in: B bounds each of them. -/
structure SgSm (B : Nat) (g : Sg) : Prop where
 n : g.1.length≤B
 each : ∀ t∈g.1,t.2.length≤B∧t.2.length≤9223372036854775807
 res : g.2.2.2.length≤B
 res2 : g.2.2.2.length≤9223372036854775807

theorem SgSm.mono {B C : Nat} {g : Sg} (h : SgSm B g) (hC : B≤C) : SgSm C g:=⟨Nat.le_trans h.n hC,fun t ht=>⟨Nat.le_trans (h.each t ht).1 hC,(h.each t ht).2⟩,Nat.le_trans h.res hC,h.res2⟩

structure MeSm (B : Nat) (m : Me) : Prop where
 name : m.name.length≤B
 name2 : m.name.length≤9223372036854775807
 sig : SgSm B m.sig
 code : m.code.length≤B
 n : m.hands.length≤B
 each : ∀ h∈m.hands,h.2.2.2.length≤B∧h.2.2.2.length≤9223372036854775807

theorem MeSm.mono {B C : Nat} {m : Me} (h : MeSm B m) (hC : B≤C) : MeSm C m:=⟨Nat.le_trans h.name hC,h.name2,h.sig.mono hC,Nat.le_trans h.code hC,Nat.le_trans h.n hC,fun x hx=>⟨Nat.le_trans (h.each x hx).1 hC,(h.each x hx).2⟩⟩

theorem MeSm.fit {B : Nat} {m : Me} (h : MeSm B m) : MeFit m:=⟨h.name2,fun t ht=>(h.sig.each t ht).2,h.sig.res2,fun x hx=>(h.each x hx).2⟩

structure ClSm (B : Nat) (c : Cl) : Prop where
 name : c.name.length≤B
 name2 : c.name.length≤9223372036854775807
 super : c.super.length≤B
 super2 : c.super.length≤9223372036854775807
 nf : c.faces.length≤B
 faces : ∀ s∈c.faces,s.length≤B∧s.length≤9223372036854775807
 nd : c.fields.length≤B
 fields : ∀ f∈c.fields,(f.2.1.length≤B∧f.2.2.2.length≤B)∧(f.2.1.length≤9223372036854775807∧f.2.2.2.length≤9223372036854775807)
 nm : c.methods.length≤B
 methods : ∀ m∈c.methods,MeSm B m

theorem ClSm.mono {B C : Nat} {c : Cl} (h : ClSm B c) (hC : B≤C) : ClSm C c:=⟨Nat.le_trans h.name hC,h.name2,Nat.le_trans h.super hC,h.super2,Nat.le_trans h.nf hC,fun s hs=>⟨Nat.le_trans (h.faces s hs).1 hC,(h.faces s hs).2⟩,Nat.le_trans h.nd hC,fun f hf=>⟨⟨Nat.le_trans (h.fields f hf).1.1 hC,Nat.le_trans (h.fields f hf).1.2 hC⟩,(h.fields f hf).2⟩,Nat.le_trans h.nm hC,fun m hm=>(h.methods m hm).mono hC⟩

theorem ClSm.fit {B : Nat} {c : Cl} (h : ClSm B c) : ClFit c:=⟨h.name2,h.super2,fun s hs=>(h.faces s hs).2,fun f hf=>(h.fields f hf).2,fun m hm=>(h.methods m hm).fit⟩

structure MoSm (B : Nat) (m : Mo) : Prop where
 np : m.pool.length≤B
 pool : ∀ e∈m.pool,e.2.1.length≤B∧e.2.1.length≤9223372036854775807∧I64 e.2.2.1
 nc : m.classes.length≤B
 classes : ∀ c∈m.classes,ClSm B c

theorem MoSm.fit {B : Nat} {m : Mo} (h : MoSm B m) : MoFit m:=⟨fun e he=>(h.pool e he).2.1,fun c hc=>(h.classes c hc).fit⟩

theorem e_string {fuel : Nat} {cs : List Value} {x : DataW H × List MemPlace} (h : DataW.trod enc Tryz.prog W 0 (fun _=>true) true fuel 9 cs = some x) : ∃ s : List UInt8,cs = scC s∧s.length≤Rows.uptoBulk x.1∧s.length≤9223372036854775807:=by
 obtain ⟨s,e1,q1,hs⟩:=DataW.trod_string Tryz.underlying9 h
 have hsz : s.data.toList.length = s.size:=by cases s; rfl
 refine ⟨s.data.toList,by rw [e1]; unfold scC; rw [← str_of],?_,by rw [hsz]; simpa [maxLen] using hs⟩
 simp only [q1,Rows.uptoBulk]
 omega

theorem e_byte {fuel : Nat} {cs : List Value} {x : DataW H × List MemPlace} (h : DataW.trod enc Tryz.prog W 0 (fun _=>true) true fuel 5 cs = some x) : ∃ c : UInt8,cs = [.int .u8 (c.toNat : Int)]∧True:=by
 obtain ⟨n,e1,_,hw⟩:=DataW.trod_int Tryz.underlying5 h
 have:=bounds_u8 hw
 refine ⟨UInt8.ofNat n.toNat,?_,trivial⟩
 rw [e1,UInt8.toNat_ofNat',show ((n.toNat % 2 ^ 8 : Nat) : Int) = n by omega]

theorem e_type {fuel : Nat} {cs : List Value} {x : DataW H × List MemPlace} (h : DataW.trod enc Tryz.prog W 0 (fun _=>true) true fuel 35 cs = some x) : ∃ t : Ty,cs = [.int .i64 t.1,.string (str t.2)]∧t.2.length≤Rows.uptoBulk x.1∧t.2.length≤9223372036854775807:=by
 obtain ⟨hl,hf⟩:=trod_field Tryz.underlying35 h
 rw [c_type] at hl
 obtain ⟨a0,a1,rfl⟩:=list_2 hl
 obtain ⟨n0,y0,g0,b0⟩:=hf 0 _ rfl
 obtain ⟨n1,y1,g1,b1⟩:=hf 1 _ rfl
 simp only [List.getElem_toArray,List.getElem_cons_zero,List.getElem_cons_succ,c_int,c_string,List.drop_zero,List.drop_succ_cons,List.take_succ_cons,List.take_zero] at g0 g1
 obtain ⟨i0,e0,_,w0⟩:=DataW.trod_int Tryz.underlying3 g0
 simp only [List.cons.injEq,and_true] at e0
 subst e0
 obtain ⟨i1,e1,l1,m1⟩:=e_string g1
 simp only [scC,List.cons.injEq,and_true] at e1
 subst e1
 exact ⟨(i0,i1),rfl,Nat.le_trans l1 b1,m1⟩

theorem e_hd {fuel : Nat} {cs : List Value} {x : DataW H × List MemPlace} (h : DataW.trod enc Tryz.prog W 0 (fun _=>true) true fuel 46 cs = some x) : ∃ y : Hd,cs = hdC y∧y.2.2.2.length≤Rows.uptoBulk x.1∧y.2.2.2.length≤9223372036854775807:=by
 obtain ⟨hl,hf⟩:=trod_field Tryz.underlying46 h
 rw [c_hd] at hl
 obtain ⟨a0,a1,a2,a3,rfl⟩:=list_4 hl
 obtain ⟨n0,y0,g0,b0⟩:=hf 0 _ rfl
 obtain ⟨n1,y1,g1,b1⟩:=hf 1 _ rfl
 obtain ⟨n2,y2,g2,b2⟩:=hf 2 _ rfl
 obtain ⟨n3,y3,g3,b3⟩:=hf 3 _ rfl
 simp only [List.getElem_toArray,List.getElem_cons_zero,List.getElem_cons_succ,c_int,c_string,List.drop_zero,List.drop_succ_cons,List.take_succ_cons,List.take_zero] at g0 g1 g2 g3
 obtain ⟨i0,e0,_,w0⟩:=DataW.trod_int Tryz.underlying3 g0
 simp only [List.cons.injEq,and_true] at e0
 subst e0
 obtain ⟨i1,e1,_,w1⟩:=DataW.trod_int Tryz.underlying3 g1
 simp only [List.cons.injEq,and_true] at e1
 subst e1
 obtain ⟨i2,e2,_,w2⟩:=DataW.trod_int Tryz.underlying3 g2
 simp only [List.cons.injEq,and_true] at e2
 subst e2
 obtain ⟨i3,e3,l3,m3⟩:=e_string g3
 simp only [scC,List.cons.injEq,and_true] at e3
 subst e3
 exact ⟨(i0,i1,i2,i3),rfl,Nat.le_trans l3 b3,m3⟩

theorem e_fd {fuel : Nat} {cs : List Value} {x : DataW H × List MemPlace} (h : DataW.trod enc Tryz.prog W 0 (fun _=>true) true fuel 44 cs = some x) : ∃ y : Fd,cs = fdC y∧(y.2.1.length≤Rows.uptoBulk x.1∧y.2.2.2.length≤Rows.uptoBulk x.1)∧(y.2.1.length≤9223372036854775807∧y.2.2.2.length≤9223372036854775807):=by
 obtain ⟨hl,hf⟩:=trod_field Tryz.underlying44 h
 rw [c_fd] at hl
 obtain ⟨a0,a1,a2,a3,rfl⟩:=list_4 hl
 obtain ⟨n0,y0,g0,b0⟩:=hf 0 _ rfl
 obtain ⟨n1,y1,g1,b1⟩:=hf 1 _ rfl
 obtain ⟨n2,y2,g2,b2⟩:=hf 2 _ rfl
 simp only [List.getElem_toArray,List.getElem_cons_zero,List.getElem_cons_succ,c_int,c_string,c_type,List.drop_zero,List.drop_succ_cons,List.take_succ_cons,List.take_zero] at g0 g1 g2
 obtain ⟨i0,e0,_,w0⟩:=DataW.trod_int Tryz.underlying3 g0
 simp only [List.cons.injEq,and_true] at e0
 subst e0
 obtain ⟨i1,e1,l1,m1⟩:=e_string g1
 simp only [scC,List.cons.injEq,and_true] at e1
 subst e1
 obtain ⟨i2,e2,l2,m2⟩:=e_type g2
 simp only [List.cons.injEq,and_true] at e2
 obtain ⟨rfl,rfl⟩:=e2
 exact ⟨(i0,i1,i2),rfl,⟨Nat.le_trans l1 b1,Nat.le_trans l2 b2⟩,m1,m2⟩

theorem e_en {fuel : Nat} {cs : List Value} {x : DataW H × List MemPlace} (h : DataW.trod enc Tryz.prog W 0 (fun _=>true) true fuel 90 cs = some x) : ∃ y : En,cs = enC y∧y.2.1.length≤Rows.uptoBulk x.1∧y.2.1.length≤9223372036854775807∧I64 y.2.2.1:=by
 obtain ⟨hl,hf⟩:=trod_field Tryz.underlying90 h
 rw [c_en] at hl
 obtain ⟨a0,a1,a2,a3,a4,a5,rfl⟩:=list_6 hl
 obtain ⟨n0,y0,g0,b0⟩:=hf 0 _ rfl
 obtain ⟨n1,y1,g1,b1⟩:=hf 1 _ rfl
 obtain ⟨n2,y2,g2,b2⟩:=hf 2 _ rfl
 obtain ⟨n3,y3,g3,b3⟩:=hf 3 _ rfl
 obtain ⟨n4,y4,g4,b4⟩:=hf 4 _ rfl
 obtain ⟨n5,y5,g5,b5⟩:=hf 5 _ rfl
 simp only [List.getElem_toArray,List.getElem_cons_zero,List.getElem_cons_succ,c_int,c_string,c_int64,List.drop_zero,List.drop_succ_cons,List.take_succ_cons,List.take_zero] at g0 g1 g2 g3 g4 g5
 obtain ⟨i0,e0,_,w0⟩:=DataW.trod_int Tryz.underlying3 g0
 simp only [List.cons.injEq,and_true] at e0
 subst e0
 obtain ⟨i1,e1,l1,m1⟩:=e_string g1
 simp only [scC,List.cons.injEq,and_true] at e1
 subst e1
 obtain ⟨i2,e2,_,w2⟩:=DataW.trod_int Tryz.underlying2 g2
 simp only [List.cons.injEq,and_true] at e2
 subst e2
 obtain ⟨i3,e3,_,w3⟩:=DataW.trod_int Tryz.underlying3 g3
 simp only [List.cons.injEq,and_true] at e3
 subst e3
 obtain ⟨i4,e4,_,w4⟩:=DataW.trod_int Tryz.underlying3 g4
 simp only [List.cons.injEq,and_true] at e4
 subst e4
 obtain ⟨i5,e5,_,w5⟩:=DataW.trod_int Tryz.underlying3 g5
 simp only [List.cons.injEq,and_true] at e5
 subst e5
 exact ⟨(i0,i1,i2,i3,i4,i5),rfl,Nat.le_trans l1 b1,m1,i64_of w2⟩

theorem e_sig {fuel : Nat} {cs : List Value} {x : DataW H × List MemPlace} (h : DataW.trod enc Tryz.prog W 0 (fun _=>true) true fuel 37 cs = some x) : ∃ (g : Sg) (v : Value),cs = [v,.bool g.2.1,.int .i64 g.2.2.1,.string (str g.2.2.2)]∧SlV W (fun _=>True) v g.1.length (tcs g.1)∧SgSm (Rows.uptoBulk x.1) g:=by
 obtain ⟨hl,hf⟩:=trod_field Tryz.underlying37 h
 rw [c_sig] at hl
 obtain ⟨a0,a1,a2,a3,rfl⟩:=list_4 hl
 obtain ⟨n0,y0,g0,b0⟩:=hf 0 _ rfl
 obtain ⟨n1,y1,g1,b1⟩:=hf 1 _ rfl
 obtain ⟨n2,y2,g2,b2⟩:=hf 2 _ rfl
 simp only [List.getElem_toArray,List.getElem_cons_zero,List.getElem_cons_succ,c_lt,c_bool,c_type,List.drop_zero,List.drop_succ_cons,List.take_succ_cons,List.take_zero] at g0 g1 g2
 obtain ⟨i0,cs0,s0,r0,l0⟩:=cell_row (A:=fun c (y : Ty) b=>c = [.int .i64 y.1,.string (str y.2)]∧(y.2.length≤b∧y.2.length≤9223372036854775807)) Tryz.underlying33 c_type (by decide) (fun _ _ _ q=>e_type q) g0
 obtain ⟨u0,q0⟩:=els_all r0
 have z0:=els_flat_eq u0 (by decide) (fun _=>rfl)
 obtain ⟨i1,e1,_⟩:=DataW.trod_bool Tryz.underlying4 g1
 simp only [List.cons.injEq,and_true] at e1
 subst e1
 obtain ⟨i2,e2,l2,m2⟩:=e_type g2
 simp only [List.cons.injEq,and_true] at e2
 obtain ⟨rfl,rfl⟩:=e2
 refine ⟨(i0,i1,i2),a0,rfl,?_,?_⟩
 ·rw [tcs_flat,← z0]; exact s0
 ·exact ⟨Nat.le_trans l0 b0,fun t ht=>by obtain ⟨b,hb,h1,h2⟩:=q0 t ht; exact ⟨by omega,h2⟩,Nat.le_trans l2 b2,m2⟩

theorem e_me {fuel : Nat} {cs : List Value} {x : DataW H × List MemPlace} (h : DataW.trod enc Tryz.prog W 0 (fun _=>true) true fuel 41 cs = some x) : ∃ m : Me,MeC (SlR W fun _=>True) cs m∧MeSm (Rows.uptoBulk x.1) m:=by
 obtain ⟨hl,hf⟩:=trod_field Tryz.underlying41 h
 rw [c_me] at hl
 obtain ⟨a0,a1,a2,a3,a4,a5,a6,a7,a8,a9,rfl⟩:=list_10 hl
 obtain ⟨n0,y0,g0,b0⟩:=hf 0 _ rfl
 obtain ⟨n1,y1,g1,b1⟩:=hf 1 _ rfl
 obtain ⟨n2,y2,g2,b2⟩:=hf 2 _ rfl
 obtain ⟨n3,y3,g3,b3⟩:=hf 3 _ rfl
 obtain ⟨n4,y4,g4,b4⟩:=hf 4 _ rfl
 obtain ⟨n5,y5,g5,b5⟩:=hf 5 _ rfl
 obtain ⟨n6,y6,g6,b6⟩:=hf 6 _ rfl
 simp only [List.getElem_toArray,List.getElem_cons_zero,List.getElem_cons_succ,c_int,c_string,c_sig,c_lb,c_lh,List.drop_zero,List.drop_succ_cons,List.take_succ_cons,List.take_zero] at g0 g1 g2 g3 g4 g5 g6
 obtain ⟨i0,e0,_,w0⟩:=DataW.trod_int Tryz.underlying3 g0
 simp only [List.cons.injEq,and_true] at e0
 subst e0
 obtain ⟨i1,e1,l1,m1⟩:=e_string g1
 simp only [scC,List.cons.injEq,and_true] at e1
 subst e1
 obtain ⟨i2,v2,e2,s2,l2⟩:=e_sig g2
 simp only [List.cons.injEq,and_true] at e2
 obtain ⟨rfl,rfl,rfl,rfl⟩:=e2
 obtain ⟨i3,e3,_,w3⟩:=DataW.trod_int Tryz.underlying3 g3
 simp only [List.cons.injEq,and_true] at e3
 subst e3
 obtain ⟨i4,e4,_,w4⟩:=DataW.trod_int Tryz.underlying3 g4
 simp only [List.cons.injEq,and_true] at e4
 subst e4
 obtain ⟨i5,cs5,s5,r5,l5⟩:=cell_row (A:=fun c (y : UInt8) _=>c = [.int .u8 (y.toNat : Int)]∧True) Tryz.underlying38 c_byte (by decide) (fun _ _ _ q=>e_byte q) g5
 obtain ⟨u5,q5⟩:=els_all r5
 have z5:=els_flat_eq u5 (by decide) (fun _=>rfl)
 obtain ⟨i6,cs6,s6,r6,l6⟩:=cell_row (A:=fun c (y : Hd) b=>c = hdC y∧(y.2.2.2.length≤b∧y.2.2.2.length≤9223372036854775807)) Tryz.underlying39 c_hd (by decide) (fun _ _ _ q=>e_hd q) g6
 obtain ⟨u6,q6⟩:=els_all r6
 have z6:=els_flat_eq u6 (by decide) (fun _=>rfl)
 refine ⟨⟨i0,i1,i2,i3,i4,i5,i6⟩,⟨a2,a8,a9,rfl,⟨s2,?_,?_⟩⟩,?_⟩
 ·show SlV W _ a8 i5.length (bcs i5); rw [bcs_flat,← z5]; exact s5
 ·show SlV W _ a9 i6.length (hcs i6); unfold hcs; rw [← z6]; exact s6
 ·exact ⟨Nat.le_trans l1 b1,m1,l2.mono b2,Nat.le_trans l5 b5,Nat.le_trans l6 b6,fun h hh=>by obtain ⟨b,hb,h1,h2⟩:=q6 h hh; exact ⟨by omega,h2⟩⟩

theorem e_cl {fuel : Nat} {cs : List Value} {x : DataW H × List MemPlace} (h : DataW.trod enc Tryz.prog W 0 (fun _=>true) true fuel 28 cs = some x) : ∃ c : Cl,ClC (SlR W fun _=>True) cs c∧ClSm (Rows.uptoBulk x.1) c:=by
 obtain ⟨hl,hf⟩:=trod_field Tryz.underlying28 h
 rw [c_cl] at hl
 obtain ⟨a0,a1,a2,a3,a4,a5,rfl⟩:=list_6 hl
 obtain ⟨n0,y0,g0,b0⟩:=hf 0 _ rfl
 obtain ⟨n1,y1,g1,b1⟩:=hf 1 _ rfl
 obtain ⟨n2,y2,g2,b2⟩:=hf 2 _ rfl
 obtain ⟨n3,y3,g3,b3⟩:=hf 3 _ rfl
 obtain ⟨n4,y4,g4,b4⟩:=hf 4 _ rfl
 obtain ⟨n5,y5,g5,b5⟩:=hf 5 _ rfl
 simp only [List.getElem_toArray,List.getElem_cons_zero,List.getElem_cons_succ,c_int,c_string,c_ls,c_lf,c_lm,List.drop_zero,List.drop_succ_cons,List.take_succ_cons,List.take_zero] at g0 g1 g2 g3 g4 g5
 obtain ⟨i0,e0,_,w0⟩:=DataW.trod_int Tryz.underlying3 g0
 simp only [List.cons.injEq,and_true] at e0
 subst e0
 obtain ⟨i1,e1,l1,m1⟩:=e_string g1
 simp only [scC,List.cons.injEq,and_true] at e1
 subst e1
 obtain ⟨i2,e2,l2,m2⟩:=e_string g2
 simp only [scC,List.cons.injEq,and_true] at e2
 subst e2
 obtain ⟨i3,cs3,s3,r3,l3⟩:=cell_row (A:=fun c (y : List UInt8) b=>c = scC y∧(y.length≤b∧y.length≤9223372036854775807)) Tryz.underlying24 c_string (by decide) (fun _ _ _ q=>e_string q) g3
 obtain ⟨u3,q3⟩:=els_all r3
 have z3:=els_flat_eq u3 (by decide) (fun _=>rfl)
 obtain ⟨i4,cs4,s4,r4,l4⟩:=cell_row (A:=fun c (y : Fd) b=>c = fdC y∧((y.2.1.length≤b∧y.2.2.2.length≤b)∧(y.2.1.length≤9223372036854775807∧y.2.2.2.length≤9223372036854775807))) Tryz.underlying25 c_fd (by decide) (fun _ _ _ q=>e_fd q) g4
 obtain ⟨u4,q4⟩:=els_all r4
 have z4:=els_flat_eq u4 (by decide) (fun _=>rfl)
 obtain ⟨i5,cs5,s5,r5,l5⟩:=cell_row (A:=fun c (y : Me) b=>MeC (SlR W fun _=>True) c y∧MeSm b y) Tryz.underlying26 c_me (by decide) (fun _ _ _ q=>e_me q) g5
 refine ⟨⟨i0,i1,i2,i3,i4,i5⟩,⟨a3,a4,a5,rfl,⟨?_,?_,cs5,s5,r5.imp fun _ _ _ ⟨_,_,h,_⟩=>h⟩⟩,?_⟩
 ·show SlV W _ a3 i3.length (scs i3); unfold scs; rw [← z3]; exact s3
 ·show SlV W _ a4 i4.length (fcs i4); unfold fcs; rw [← z4]; exact s4
 ·exact ⟨Nat.le_trans l1 b1,m1,Nat.le_trans l2 b2,m2,Nat.le_trans l3 b3,fun s hs=>by obtain ⟨b,hb,h1,h2⟩:=q3 s hs; exact ⟨by omega,h2⟩,Nat.le_trans l4 b4,fun f hf=>by obtain ⟨b,hb,⟨h1,h2⟩,h3⟩:=q4 f hf; exact ⟨⟨by omega,by omega⟩,h3⟩,Nat.le_trans l5 b5,fun m hm=>by
   obtain ⟨j,hj,rfl⟩:=List.getElem_of_mem hm
   obtain ⟨b,hb,_,h2⟩:=r5.el j hj
   exact h2.mono (by omega)⟩

theorem e_mo {fuel : Nat} {cs : List Value} {x : DataW H × List MemPlace} (h : DataW.trod enc Tryz.prog W 0 (fun _=>true) true fuel 32 cs = some x) : ∃ (m : Mo) (vp vc : Value),cs = [vp,vc]∧MoAt (SlR W fun _=>True) vp vc m∧MoSm (Rows.uptoBulk x.1) m:=by
 obtain ⟨hl,hf⟩:=trod_field Tryz.underlying32 h
 rw [c_mo] at hl
 obtain ⟨a0,a1,rfl⟩:=list_2 hl
 obtain ⟨n0,y0,g0,b0⟩:=hf 0 _ rfl
 obtain ⟨n1,y1,g1,b1⟩:=hf 1 _ rfl
 simp only [List.getElem_toArray,List.getElem_cons_zero,List.getElem_cons_succ,c_le,c_lc,List.drop_zero,List.drop_succ_cons,List.take_succ_cons,List.take_zero] at g0 g1
 obtain ⟨i0,cs0,s0,r0,l0⟩:=cell_row (A:=fun c (y : En) b=>c = enC y∧(y.2.1.length≤b∧y.2.1.length≤9223372036854775807∧I64 y.2.2.1)) Tryz.underlying29 c_en (by decide) (fun _ _ _ q=>e_en q) g0
 obtain ⟨u0,q0⟩:=els_all r0
 have z0:=els_flat_eq u0 (by decide) (fun _=>rfl)
 obtain ⟨i1,cs1,s1,r1,l1⟩:=cell_row (A:=fun c (y : Cl) b=>ClC (SlR W fun _=>True) c y∧ClSm b y) Tryz.underlying30 c_cl (by decide) (fun _ _ _ q=>e_cl q) g1
 refine ⟨⟨i0,i1⟩,a0,a1,rfl,⟨?_,cs1,s1,r1.imp fun _ _ _ ⟨_,_,h,_⟩=>h⟩,?_⟩
 ·show SlV W _ a0 i0.length (ecs i0); rw [ecs_flat,← z0]; exact s0
 ·exact ⟨Nat.le_trans l0 b0,fun e he=>by obtain ⟨b,hb,h1,h2⟩:=q0 e he; exact ⟨by omega,h2⟩,Nat.le_trans l1 b1,fun c hc=>by
   obtain ⟨j,hj,rfl⟩:=List.getElem_of_mem hc
   obtain ⟨b,hb,_,h2⟩:=r1.el j hj
   exact h2.mono (by omega)⟩

set_option maxRecDepth 100000 in
/-- A module that came in. -/
theorem arg_module {base : Nat} {d : DataW H} {p : List MemPlace} {v : Value} (hval : Value.okWide Tryz.prog W .any base 32 v) (h : DataW.Trod enc Tryz.prog W 0 (fun _=>true) true 32 v d p) :
  ∃ (m : Mo) (vp vc : Value),v = .agg #[vp,vc]∧MoAt (SlR W fun _=>True) vp vc m∧MoSm (Rows.uptoBulk d) m:=by
 obtain ⟨cs,rfl,_⟩:=okWide_struct Tryz.underlying32 hval
 obtain ⟨fuel,hf⟩:=h
 obtain ⟨m,vp,vc,hc,h1,h2⟩:=e_mo (x:=(d,p)) (fuel:=fuel) (by simpa [Value.cells] using hf)
 refine ⟨m,vp,vc,?_,h1,h2⟩
 have : cs = #[vp,vc]:=by
  apply Array.toList_inj.1
  simpa using hc
 rw [this]

end

end Go.Proofs.YtildemmkhndhjaaGreatDoor
namespace Go.Proofs.YtildemmkhndhjaaGreatDoor
open Go.RowKit

theorem firstP_many (k : Nat) (h : 8 < k) (l : List UInt8) : firstP k l = none:=by
 cases l with
 | nil=>rfl
 | cons c t=>simp [firstP,h]

theorem firstP_more (k : Nat) (t : List UInt8) : firstP k (91 :: t) = firstP (k + 1) t:=by
 by_cases h : 8 < k
 ·rw [firstP_many k h,firstP_many (k + 1) (by omega)]
 ·rw [firstP,if_neg h,if_pos rfl]

theorem firstP_I (k : Nat) (h : ¬ 8 < k) (t : List UInt8) : firstP k (73 :: t) = some (((k : Int),[]),t):=by
 rw [firstP,if_neg h,if_neg (by decide),if_pos rfl]

theorem firstP_other (k : Nat) (c : UInt8) (t : List UInt8) (h1 : c≠91) (h2 : c≠73) (h3 : c≠76) : firstP k (c :: t) = none:=by
 by_cases h : 8 < k
 ·exact firstP_many k h _
 ·rw [firstP,if_neg h,if_neg h1,if_neg h2,if_neg h3]

theorem firstP_L (k : Nat) (h : ¬ 8 < k) (t : List UInt8) : firstP k (76 :: t) = classP k t:=by
 rw [firstP,if_neg h,if_neg (by decide),if_neg (by decide),if_pos rfl]

theorem while_take (t : List UInt8) (j : Nat) (h : ∀ x∈t.take j,x≠59) (he : j = t.length∨∃ q : j < t.length,t[j] = 59) : t.takeWhile (· != 59) = t.take j∧t.dropWhile (· != 59) = t.drop j:=by
 have hs : t = t.take j ++ t.drop j:=(List.take_append_drop j t).symm
 have hp : ∀ x∈t.take j,(x != 59) = true:=fun x hx=>by simpa using h x hx
 have e1 : (t.drop j).takeWhile (· != 59) = []∧(t.drop j).dropWhile (· != 59) = t.drop j:=by
  rcases he with e | ⟨q,e⟩
  ·rw [List.drop_of_length_le (by omega)]
   exact ⟨rfl,rfl⟩
  ·rw [List.drop_eq_getElem_cons q,e]
   exact ⟨rfl,rfl⟩
 refine ⟨?_,?_⟩
 ·conv=>lhs; rw [hs]
  rw [List.takeWhile_append_of_pos hp,e1.1,List.append_nil]
 ·conv=>lhs; rw [hs]
  rw [List.dropWhile_append_of_pos hp,e1.2]

theorem byte_ne {c d : UInt8} (h : c≠d) : ((c.toNat : Int) == (d.toNat : Int)) = false:=by
 rw [beq_eq_false_iff_ne]
 intro e
 apply h
 exact UInt8.toNat_inj.1 (by omega)

/-- What one answers. -/
def OneR (l : List UInt8) (p : Nat) (t : Ty) (n : Int) : Prop:=match firstP 0 (l.drop p) with
 | some (t',r)=>t = t'∧n = (l.length : Int) - r.length∧r = l.drop (l.length - r.length)∧r.length < l.length
 | none=>n = -1

theorem one_result {w : World} {b : Nat} {x : Value} {t : Ty} (h : TyAt w b t) (tmps : Array Value) (h2 : tmps.getD 4 undef = .pointer (some ⟨b,0,none⟩)) (h3 : tmps.getD 5 undef = x) :
  (results Tryz.f216 tmps).run Tryz.prog w = .ok (.tuple #[tyV t,x]) w:=by
 obtain ⟨c0,c1,_,_⟩:=h
 rw [results_cell_tmp (p:=4) (u:=5) (ty:=35) Tryz.results216,h2,h3]
 simp [go_sem,c0,c1,tyV]

theorem tyAt_new (w : World) (d : Int) (n : List UInt8) : TyAt (w.alloc (.cells #[.int .i64 d,.string (str n)] 35)) w.heap.size (d,n):=
 ⟨by rw [cell_new]; rfl,by rw [cell_new]; rfl,frozen_new _ _ _ _,frozen_new _ _ _ _⟩

theorem TyAt.put0 {w : World} {b : Nat} {t : Ty} (h : TyAt w b t) (d : Int) : TyAt (w.setCell ⟨b,0,none⟩ (.int .i64 d)) b (d,t.2):=
 ⟨cell_setCell_same _ _ h.c0,by rw [cell_setCell_ne _ _ (by simp)]; exact h.c1,by rw [frozen_setCell]; exact h.f0,by rw [frozen_setCell]; exact h.f1⟩

/-- How one ends. -/
def OnePost (l : List UInt8) (p : Nat) (w : World) (e : Ending) (w' : World) : Prop:=∃ t n,e = .returned (.tuple #[tyV t,.int .i64 n])∧OneR l p t n∧Only [] w w'

/-- one, where it answers: a type and a place. -/
theorem one_end {w w2 : World} {t u : Ty} {n : Int} {l : List UInt8} {p : Nat} (hr : TyAt w2 w.heap.size u) (ho : Only [] w w2) (hR : OneR l p t n) (a : Act) (hd : a.defers = []) (h4 : a.tmps.getD 4 undef = .pointer (some ⟨w.heap.size,0,none⟩)) (h5 : a.tmps.getD 5 undef = .int .i64 n) :
  bodyPost Tryz.prog Tryz.f216 (fun e w'=>OnePost l p w e w') Exit.ret a ((w2.setCell ⟨w.heap.size,0,none⟩ (.int .i64 t.1)).setCell ⟨w.heap.size,1,none⟩ (.string (str t.2))):=
 bodyPost_ret (one_result (hr.put t.1 t.2) _ h4 h5) hd ⟨t,n,rfl,hR,(ho.setCell (.inr (by simp)) _).setCell (.inr (by simp)) _⟩

set_option maxHeartbeats 400000 in
set_option maxRecDepth 100000 in
theorem one_any (l : List UInt8) (hl : l.length≤9223372036854775807) (p : Nat) (hp : p≤l.length) (w : World) :
  Calls Tryz.prog 216 #[.string (str l),.int .i64 (p : Int)] w fun e w'=>OnePost l p w e w':=by
 have hs:=str_size l
 have R0:=(tyAt_new w 0 []).only ((Only.refl [] _).alloc (.cells #[.int .i64 0,.string ⟨#[]⟩] 35)) (by simp)
 have T0:=tyAt_new (w.alloc (.cells #[.int .i64 0,.string ⟨#[]⟩] 35)) 0 []
 rw [World.size_alloc] at T0
 have o0:=((Only.refl [] w).alloc (.cells #[.int .i64 0,.string ⟨#[]⟩] 35)).alloc (.cells #[.int .i64 0,.string ⟨#[]⟩] 35)
 replace R0:=hid R0
 replace T0:=hid T0
 go_enter Tryz.func216,Tryz.ntmps216
 go_wp2
 go_loopw [1] (fun i wr=>∃ k q : Nat,Hid (p + k = q)∧k≤q∧q≤l.length∧i = .int .i64 (q : Int)∧Hid (firstP 0 (l.drop p) = firstP k (l.drop q))∧TyAt wr w.heap.size (0,[])∧TyAt wr (w.heap.size + 1) ((k : Int),[])∧Only [] w wr) (fun i _=>l.length - (intOf i).toNat)
 case atStart=>exact ⟨0,p,rfl,by omega,hp,rfl,rfl,R0.out,T0.out,o0⟩
 case round=>
  obtain ⟨k,q,hpk,hkq,hq,rfl,hF,hR,hTy,hor⟩:=hrel
  replace hR:=hid hR
  replace hTy:=hid hTy
  obtain ⟨r0,r1,rf0,rf1⟩:=hR.out
  obtain ⟨t0,t1,tf0,tf1⟩:=hTy.out
  clear R0 T0 o0
  by_cases hlt : q < l.length
  ·have g1 : ((q : Int) < (l.length : Int)):=by omega
   have aq:=run_at l q hlt
   have hdr:=hid (List.drop_eq_getElem_cons hlt)
   generalize l[q] = c at *
   by_cases hc : c = 91
   ·subst hc
    have hF2 : Hid (firstP 0 (l.drop p) = firstP (k + 1) (l.drop (q + 1))):=by
     unfold Hid
     rw [hF.out,hdr.out,firstP_more]
    go_wp2
    refine ⟨⟨k + 1,q + 1,by have:=hpk.out; show p + (k + 1) = q + 1; omega,by omega,by omega,by go_num,hF2,?_,?_,?_⟩,by simp [intOf]; omega⟩
    ·exact hR.out.only ((Only.refl [w.heap.size + 1] _).setCell (.inl (by simp)) _) (by simp)
    ·exact hTy.out.put0 _
    ·exact hor.setCell (.inr (by simp)) _
   ·have hc1 : ((c.toNat : Int) == 91) = false:=byte_ne hc
    by_cases h8 : 8 < k
    ·have g8 : (8 < (k : Int)):=by omega
     go_wp2
     exact one_end (t:=((k : Int),[])) (l:=l) (p:=p) hR.out hor (by unfold OneR; rw [hF.out,firstP_many k h8]) _ rfl rfl rfl
    ·have g8 : ¬ (8 < (k : Int)):=by omega
     by_cases hI : c = 73
     ·subst hI
      have hR2 : OneR l p ((k : Int),[]) ((q : Int) + 1):=by
       unfold OneR
       rw [hF.out,hdr.out,firstP_I k h8]
       refine ⟨rfl,?_,?_,?_⟩
       ·simp
        omega
       ·congr 1
        simp
        omega
       ·simp
        omega
      replace hR2:=hid hR2
      go_wp2
      exact one_end (t:=((k : Int),[])) (l:=l) (p:=p) hR.out hor hR2.out _ rfl rfl rfl
     ·have hc2 : ((c.toNat : Int) == 73) = false:=byte_ne hI
      by_cases hL : c = 76
      ·subst hL
       have hK : Hid (firstP 0 (l.drop p) = classP k (l.drop (q + 1))):=by
        unfold Hid
        rw [hF.out,hdr.out,firstP_L k h8]
       go_wp2
       clear hF hdr aq hc hI g8 hc1 hc2
       go_loopw [7] (fun i w2=>∃ m : Nat,q + 1≤m∧m≤l.length∧i = .int .i64 (m : Int)∧Hid (∀ x∈(l.drop (q + 1)).take (m - (q + 1)),x≠59)∧w2 = wr) (fun i _=>l.length - (intOf i).toNat)
       case atStart=>exact ⟨q + 1,by omega,by omega,by go_num,by simp [Hid],rfl⟩
       case round=>
        obtain ⟨m,hm1,hm2,rfl,hall,rfl⟩:=hrel
        by_cases hml : m < l.length
        ·have g3 : ((m : Int) < (l.length : Int)):=by omega
         have am:=run_at l m hml
         have hget : Hid (∃ z : m - (q + 1) < (l.drop (q + 1)).length,(l.drop (q + 1))[m - (q + 1)] = l[m]):=by
          refine ⟨by simp; omega,?_⟩
          simp only [List.getElem_drop]
          congr 1
          omega
         generalize l[m] = c at *
         by_cases hsc : c = 59
         ·subst hsc
          obtain ⟨z,hz⟩:=hget.out
          obtain ⟨tw,dw⟩:=while_take (l.drop (q + 1)) (m - (q + 1)) hall.out (.inr ⟨z,hz⟩)
          have hrp:=fun w=>run_part l (q + 1) m hm1 hm2 w
          simp only [Int.natCast_add,Int.natCast_one] at hrp
          have hd1 : (l.drop (q + 1)).drop (m - (q + 1)) = l.drop m:=by
           rw [List.drop_drop]
           congr 1
           omega
          have hd2 : l.drop m = 59 :: l.drop (m + 1):=by
           rw [List.drop_eq_getElem_cons hml]
           congr 1
           rw [← hz]
           simp only [List.getElem_drop]
           congr 1
           omega
          have hcl : classP k (l.drop (q + 1)) = if nameOK ((l.drop (q + 1)).take (m - (q + 1))) = false then none else some (((k : Int),(l.drop (q + 1)).take (m - (q + 1))),l.drop (m + 1)):=by
           unfold classP
           rw [tw,dw,hd1,hd2]
           simp
          have hlen : ((l.drop (q + 1)).take (m - (q + 1))).length≤9223372036854775807:=by
           simp
           omega
          have HN:=fun W=>rname_any ((l.drop (q + 1)).take (m - (q + 1))) hlen W
          clear hd1 hd2 tw dw hz z hget hall hlen
          generalize (l.drop (q + 1)).take (m - (q + 1)) = nm at *
          have hw1 : ((q : Int) + 1≤9223372036854775807):=by omega
          by_cases hnm : nameOK nm = false
          ·rw [hnm] at HN
           rw [if_pos hnm] at hcl
           have hE : OneR l p ((k : Int),[]) (-1):=by
            unfold OneR
            rw [hK.out,hcl]
           replace hE:=hid hE
           replace HN:=hid HN
           clear hcl hK hnm
           go_wp2_with fail
           refine (HN.out _).mono ?_
           rintro e w3 ⟨rfl,rfl⟩
           go_wp2
           exact one_end (t:=((k : Int),[])) (l:=l) (p:=p) hR.out hor hE.out _ rfl rfl rfl
          ·have hnm1 : nameOK nm = true:=by simpa using hnm
           rw [hnm1] at HN
           rw [if_neg hnm] at hcl
           have hE : OneR l p ((k : Int),nm) ((m : Int) + 1):=by
            unfold OneR
            rw [hK.out,hcl]
            refine ⟨rfl,?_,?_,?_⟩
            ·simp
             omega
            ·congr 1
             simp
             omega
            ·simp
             omega
           replace hE:=hid hE
           replace HN:=hid HN
           clear hcl hK hnm hnm1
           go_wp2_with fail
           refine (HN.out _).mono ?_
           rintro e w3 ⟨rfl,rfl⟩
           clear am hw1 HN
           go_wp2
           refine one_end (t:=((k : Int),nm)) (l:=l) (p:=p) (hR.out.only ((Only.refl [w.heap.size + 1] _).setCell (.inl (by simp)) _) (by simp)) (hor.setCell (.inr (by simp)) _) hE.out _ rfl rfl rfl
         ·have hsc1 : ((c.toNat : Int) == 59) = false:=byte_ne hsc
          have hall2 : Hid (∀ x∈(l.drop (q + 1)).take (m + 1 - (q + 1)),x≠59):=by
           obtain ⟨z,hz⟩:=hget.out
           intro x hx
           rw [show m + 1 - (q + 1) = (m - (q + 1)) + 1 by omega,List.take_succ_eq_append_getElem z] at hx
           simp only [List.mem_append,List.mem_singleton] at hx
           rcases hx with hx | hx
           ·exact hall.out x hx
           ·rw [hx,hz]
            exact hsc
          clear hall hget
          go_wp2
          exact ⟨⟨m + 1,by omega,by omega,by go_num,hall2,trivial⟩,by simp [intOf]; omega⟩
        ·have g3 : ¬ ((m : Int) < (l.length : Int)):=by omega
         obtain rfl : m = l.length:=by omega
         have hE : OneR l p ((k : Int),[]) (-1):=by
          obtain ⟨w1,w2⟩:=while_take (l.drop (q + 1)) (l.length - (q + 1)) hall.out (.inl (by simp))
          unfold OneR
          rw [hK.out]
          unfold classP
          rw [w2,List.drop_of_length_le (by simp)]
          simp
         replace hE:=hid hE
         clear hall
         go_wp2
         exact one_end (t:=((k : Int),[])) (l:=l) (p:=p) hR.out hor hE.out _ rfl rfl rfl
      ·have hc3 : ((c.toNat : Int) == 76) = false:=byte_ne hL
       go_wp2
       exact one_end (t:=((k : Int),[])) (l:=l) (p:=p) hR.out hor (by unfold OneR; rw [hF.out,hdr.out,firstP_other k c _ hc hI hL]) _ rfl rfl rfl
  ·have g1 : ¬ ((q : Int) < (l.length : Int)):=by omega
   obtain rfl : q = l.length:=by omega
   have hE : OneR l p ((k : Int),[]) (-1):=by
    unfold OneR
    rw [hF.out,List.drop_of_length_le (Nat.le_refl _)]
    rfl
   replace hE:=hid hE
   by_cases h8 : 8 < k
   ·have g8 : (8 < (k : Int)):=by omega
    go_wp2
    exact one_end (t:=((k : Int),[])) (l:=l) (p:=p) hR.out hor hE.out _ rfl rfl rfl
   ·have g8 : ¬ (8 < (k : Int)):=by omega
    go_wp2
    exact one_end (t:=((k : Int),[])) (l:=l) (p:=p) hR.out hor hE.out _ rfl rfl rfl


theorem rtype_result {w : World} {b : Nat} {x : Value} {t : Ty} (h : TyAt w b t) (tmps : Array Value) (h2 : tmps.getD 2 undef = .pointer (some ⟨b,0,none⟩)) (h3 : tmps.getD 3 undef = x) :
  (results Tryz.f199 tmps).run Tryz.prog w = .ok (.tuple #[tyV t,x]) w:=by
 obtain ⟨c0,c1,_,_⟩:=h
 rw [results_cell_tmp (p:=2) (u:=3) (ty:=35) Tryz.results199,h2,h3]
 simp [go_sem,c0,c1,tyV]

set_option maxHeartbeats 400000 in
set_option maxRecDepth 100000 in
theorem rtype_any (l : List UInt8) (hl : l.length≤9223372036854775807) (w : World) : Calls Tryz.prog 199 #[.string (str l)] w fun e w'=>e = .returned (.tuple #[tyV (typeR l).1,.int .i64 (typeR l).2])∧Only [] w w':=by
 have hs:=str_size l
 have R0:=hid (tyAt_new w 0 [])
 have o0:=(Only.refl [] w).alloc (.cells #[.int .i64 0,.string ⟨#[]⟩] 35)
 have HO:=hid (one_any l hl 0 (Nat.zero_le _) (w.alloc (.cells #[.int .i64 0,.string ⟨#[]⟩] 35)))
 go_enter Tryz.func199,Tryz.ntmps199
 go_wp2_with fail
 refine HO.out.mono ?_
 rintro e w1 ⟨⟨td,tn⟩,n,rfl,hR,ho1⟩
 simp only [tyV]
 replace R0:=hid (R0.out.only (ho1.alloc (.cells #[.int .i64 td,.string (str tn)] 35)) (by simp))
 obtain ⟨r0,r1,rf0,rf1⟩:=R0.out
 have o1:=(o0.next ho1 (by simp)).alloc (.cells #[.int .i64 td,.string (str tn)] 35)
 unfold OneR at hR
 rw [List.drop_zero] at hR
 by_cases hq : n = (l.length : Int)
 ·subst hq
  have e1 : Hid (typeR l = ((td,tn),0)):=by
   unfold Hid typeR
   cases hf : firstP 0 l with
   | none=>
    rw [hf] at hR
    simp at hR
   | some x=>
    obtain ⟨t',r⟩:=x
    rw [hf] at hR
    simp only [] at hR
    obtain ⟨h1,h2,h3,h4⟩:=hR
    have : r = []:=List.eq_nil_of_length_eq_zero (by omega)
    subst this
    rw [← h1]
  clear hR
  go_wp2
  refine bodyPost_ret (rtype_result (R0.out.put td tn) _ rfl rfl) rfl ⟨by rw [e1.out]; rfl,(o1.setCell (.inr (by simp)) _).setCell (.inr (by simp)) _⟩
 ·have hq2 : (n == (l.length : Int)) = false:=by simpa using hq
  have e1 : Hid (typeR l = ((0,[]),15)):=by
   unfold Hid typeR
   cases hf : firstP 0 l with
   | none=>rfl
   | some x=>
    obtain ⟨t',r⟩:=x
    rw [hf] at hR
    simp only [] at hR
    obtain ⟨h1,h2,h3,h4⟩:=hR
    cases r with
    | nil=>simp at h2; exact absurd h2 hq
    | cons a b=>rfl
  clear hR hq
  go_wp2
  refine bodyPost_ret (rtype_result (R0.out.put 0 []) _ rfl rfl) rfl ⟨by rw [e1.out]; rfl,(o1.setCell (.inr (by simp)) _).setCell (.inr (by simp)) _⟩

set_option maxHeartbeats 400000 in
set_option maxRecDepth 100000 in
theorem rtypeText_any (t : Ty) (hl : t.2.length≤9223372036854775807) (w : World) : Calls Tryz.prog 92 #[tyV t] w fun e w'=>e = .returned (.tuple #[.string (str (ttR t)),.int .i64 (tyCheck t)])∧Only [] w w':=by
 obtain ⟨d,n⟩:=t
 have ho:=(Only.refl [] w).alloc (.cells #[.int .i64 d,.string (str n)] 35)
 have HC:=rcheck_any (d,n) hl (w.alloc (.cells #[.int .i64 d,.string (str n)] 35))
 have ht:=str_toList n
 by_cases h : tyCheck (d,n) = 0
 ·have hf:=check_fit h
  obtain ⟨f1,f2,f3⟩:=hf
  have e1 : ttR (d,n) = tyText (d,n):=by simp [ttR,h]
  rw [e1,h]
  rw [h] at HC
  obtain ⟨dn,rfl⟩ : ∃ dn : Nat,d = (dn : Int):=⟨d.toNat,by simp at f1; omega⟩
  simp only [] at f1 f2 f3
  have e2 : Hid (∀ b,b = (if n = [] then [73] else 76 :: (n ++ [59]))→tyText ((dn : Int),n) = List.replicate dn 91 ++ b):=by
   intro b hb
   rw [hb]
   simp [tyText]
  simp only [tyV] at HC ⊢
  replace HC:=hid HC
  clear h e1
  go_enter Tryz.func92,Tryz.ntmps92
  go_wp2_with fail
  refine HC.out.mono ?_
  rintro e w1 ⟨rfl,ho1⟩
  have c0 : w1.cell? ⟨w.heap.size,0,none⟩ = some (.int .i64 (dn : Int)):=by rw [ho1.cell (by simp) (by simp),cell_new]; rfl
  have c1 : w1.cell? ⟨w.heap.size,1,none⟩ = some (.string (str n)):=by rw [ho1.cell (by simp) (by simp),cell_new]; rfl
  have o1:=ho.next ho1 (by simp)
  have hk : ∀ (x : List UInt8),x.length≤100→∀ w,(Op.stringOp .add ⟨#[91]⟩ (str x)).run Tryz.prog w = .ok (.string (str (91 :: x))) w:=fun x hx w=>run_cat [91] x (by simp; omega) w
  by_cases hz : n = []
  ·subst hz
   have e3:=e2.out [73] rfl
   replace e3:=hid e3
   go_wp2
   go_loopw [5,6] (fun s i wr=>∃ k : Nat,k≤dn∧i = .int .i64 (k : Int)∧s = .string (str (List.replicate k 91 ++ [73]))∧wr = w1) (fun _ i _=>dn - (intOf i).toNat)
   case atStart=>exact ⟨0,by omega,rfl,rfl,rfl⟩
   case round=>
    obtain ⟨k,hkd,rfl,rfl,rfl⟩:=hrel
    by_cases hlt : k < dn
    ·have g1 : ((k : Int) < (dn : Int)):=by omega
     have hk1:=hk (List.replicate k 91 ++ [73]) (by simp; omega)
     have hk2 : (91 : UInt8) :: (List.replicate k 91 ++ [73]) = List.replicate (k + 1) 91 ++ [73]:=by rw [List.replicate_succ]; rfl
     rw [hk2] at hk1
     clear hk hk2
     generalize List.replicate k (91 : UInt8) ++ [73] = u at *
     generalize hv : List.replicate (k + 1) (91 : UInt8) ++ [73] = u2 at *
     replace hv:=hid hv
     go_wp2
     refine ⟨⟨k + 1,by omega,by go_num,by rw [hv.out],trivial⟩,by simp [intOf]; omega⟩
    ·have g1 : ¬ ((k : Int) < (dn : Int)):=by omega
     obtain rfl : k = dn:=by omega
     rw [← e3.out]
     go_wp2
     go_ret2
     exact ⟨rfl,o1⟩
  ·have hzi : n.isEmpty = false:=by simpa using hz
   have e3:=e2.out (76 :: (n ++ [59])) (by rw [if_neg hz])
   replace e3:=hid e3
   have k1 : ∀ w,(Op.stringOp .add ⟨#[76]⟩ (str n)).run Tryz.prog w = .ok (.string (str (76 :: n))) w:=fun w=>run_cat [76] n (by simp; omega) w
   have k2 : ∀ w,(Op.stringOp .add (str (76 :: n)) ⟨#[59]⟩).run Tryz.prog w = .ok (.string (str (76 :: (n ++ [59])))) w:=fun w=>run_cat (76 :: n) [59] (by simp; omega) w
   go_wp2
   go_loopw [5,6] (fun s i wr=>∃ k : Nat,k≤dn∧i = .int .i64 (k : Int)∧s = .string (str (List.replicate k 91 ++ 76 :: (n ++ [59])))∧wr = w1) (fun _ i _=>dn - (intOf i).toNat)
   case atStart=>exact ⟨0,by omega,rfl,rfl,rfl⟩
   case round=>
    obtain ⟨k,hkd,rfl,rfl,rfl⟩:=hrel
    by_cases hlt : k < dn
    ·have g1 : ((k : Int) < (dn : Int)):=by omega
     have hk1:=hk (List.replicate k 91 ++ 76 :: (n ++ [59])) (by simp; omega)
     have hk2 : (91 : UInt8) :: (List.replicate k 91 ++ 76 :: (n ++ [59])) = List.replicate (k + 1) 91 ++ 76 :: (n ++ [59]):=by rw [List.replicate_succ]; rfl
     rw [hk2] at hk1
     clear hk hk2 k1 k2
     generalize List.replicate k (91 : UInt8) ++ 76 :: (n ++ [59]) = u at *
     generalize hv : List.replicate (k + 1) (91 : UInt8) ++ 76 :: (n ++ [59]) = u2 at *
     replace hv:=hid hv
     go_wp2
     refine ⟨⟨k + 1,by omega,by go_num,by rw [hv.out],trivial⟩,by simp [intOf]; omega⟩
    ·have g1 : ¬ ((k : Int) < (dn : Int)):=by omega
     obtain rfl : k = dn:=by omega
     rw [← e3.out]
     go_wp2
     go_ret2
     exact ⟨rfl,o1⟩
 ·have e1 : ttR (d,n) = []:=by simp [ttR,h]
  rw [e1]
  generalize tyCheck (d,n) = c at *
  simp only [tyV] at HC ⊢
  replace HC:=hid HC
  go_enter Tryz.func92,Tryz.ntmps92
  go_wp2_with fail
  refine HC.out.mono ?_
  rintro e w1 ⟨rfl,ho1⟩
  go_wp2
  go_ret2
  exact ⟨rfl,ho.next ho1 (by simp)⟩

end Go.Proofs.YtildemmkhndhjaaGreatDoor
