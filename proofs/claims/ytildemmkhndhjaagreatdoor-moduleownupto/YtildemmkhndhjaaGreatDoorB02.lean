/-
  What the proof leans on, part 2 of 48. The conditions stand in each theorem.
-/
import Derived.Test.YtildemmkhndhjaaGreatDoorB01
namespace Go.Proofs.YtildemmkhndhjaaGreatDoor
open Go.RowKit

/-- Types one behind the other up to the closing bracket, and what stands behind it. -/
def paramsP : Nat→List UInt8→Option (List Ty × List UInt8)
 | 0,_=>none
 | f + 1,l=>if hasOne l 41 then some ([],l.drop 1) else match firstP 0 l with
  | none=>none
  | some (t,r)=>(paramsP f r).map fun x=>(t :: x.1,x.2)

/-- A result: nothing (void), or a type. -/
def resultP (r : List UInt8) : Option (Option Ty):=if r = [86] then some none else match firstP 0 r with
 | some (t,[])=>some (some t)
 | _=>none

def sigP (l : List UInt8) : Option (List Ty × Option Ty):=if hasOne l 40 then (paramsP l.length (l.drop 1)).bind (fun x=>(resultP x.2).map fun r=>(x.1,r)) else none

def sigR (l : List UInt8) : (List Ty × Bool × Ty) × Int:=match sigP l with
 | none=>(([],false,(0,[])),15)
 | some (ps,r)=>if 16 < ps.length then (([],false,(0,[])),4) else ((ps,r.isNone,r.getD (0,[])),0)

theorem firstP_lt : ∀ (l : List UInt8) (n : Nat) (t : Ty) (r : List UInt8),firstP n l = some (t,r)→r.length < l.length:=by
 intro l
 induction l with
 | nil=>intro n t r h; simp [firstP] at h
 | cons c l ih=>
  intro n t r h
  unfold firstP at h
  split at h
  ·cases h
  ·split at h
   ·have:=ih _ _ _ h
    simp
    omega
   ·split at h
    ·simp at h
     rw [h.2]
     simp
    ·split at h
     ·unfold classP at h
      split at h
      ·cases h
      ·simp at h
       have:=while_le l
       rw [← h.2]
       simp
       omega
     ·cases h

theorem sigP_of {l : List UInt8} {all : List Ty} {rest : List UInt8} (hh : hasOne l 40 = true) (hP : paramsP l.length (l.drop 1) = some (all,rest)) : sigP l = (resultP rest).map fun r=>(all,r):=by
 unfold sigP
 rw [if_pos hh,hP]
 rfl

/-- A signature in block b. -/
structure SigAt (w : World) (b : Nat) (v : Value) (void : Bool) (t : Ty) : Prop where
 c0 : w.cell? ⟨b,0,none⟩ = some v
 c1 : w.cell? ⟨b,1,none⟩ = some (.bool void)
 c2 : w.cell? ⟨b,2,none⟩ = some (.int .i64 t.1)
 c3 : w.cell? ⟨b,3,none⟩ = some (.string (str t.2))
 f0 : w.frozen? ⟨b,0,none⟩ = false
 f1 : w.frozen? ⟨b,1,none⟩ = false
 f2 : w.frozen? ⟨b,2,none⟩ = false
 f3 : w.frozen? ⟨b,3,none⟩ = false

theorem SigAt.only {w w' : World} {S : List Nat} {b : Nat} {v : Value} {void : Bool} {t : Ty} (h : SigAt w b v void t) (ho : Only S w w') (hb : b ∉ S) : SigAt w' b v void t:=by
 have hl:=World.block_lt_of_cell? w _ h.c0
 exact ⟨(ho.cell (p:=⟨b,0,none⟩) hl hb).trans h.c0,(ho.cell (p:=⟨b,1,none⟩) hl hb).trans h.c1,(ho.cell (p:=⟨b,2,none⟩) hl hb).trans h.c2,(ho.cell (p:=⟨b,3,none⟩) hl hb).trans h.c3,
  (ho.frozen (p:=⟨b,0,none⟩) hl hb).trans h.f0,(ho.frozen (p:=⟨b,1,none⟩) hl hb).trans h.f1,(ho.frozen (p:=⟨b,2,none⟩) hl hb).trans h.f2,(ho.frozen (p:=⟨b,3,none⟩) hl hb).trans h.f3⟩

theorem TyAt.only {w w' : World} {S : List Nat} {b : Nat} {t : Ty} (h : TyAt w b t) (ho : Only S w w') (hb : b ∉ S) : TyAt w' b t:=by
 have hl:=World.block_lt_of_cell? w _ h.c0
 exact ⟨(ho.cell (p:=⟨b,0,none⟩) hl hb).trans h.c0,(ho.cell (p:=⟨b,1,none⟩) hl hb).trans h.c1,(ho.frozen (p:=⟨b,0,none⟩) hl hb).trans h.f0,(ho.frozen (p:=⟨b,1,none⟩) hl hb).trans h.f1⟩

def sigV (v : Value) (void : Bool) (t : Ty) : Value:=.agg #[v,.bool void,.int .i64 t.1,.string (str t.2)]

theorem SigAt.put0 {w : World} {b : Nat} {v : Value} {void : Bool} {t : Ty} (h : SigAt w b v void t) (v' : Value) : SigAt (w.setCell ⟨b,0,none⟩ v') b v' void t:=
 ⟨cell_setCell_same _ _ h.c0,by rw [cell_setCell_ne _ _ (by simp)]; exact h.c1,by rw [cell_setCell_ne _ _ (by simp)]; exact h.c2,by rw [cell_setCell_ne _ _ (by simp)]; exact h.c3,
  by rw [frozen_setCell]; exact h.f0,by rw [frozen_setCell]; exact h.f1,by rw [frozen_setCell]; exact h.f2,by rw [frozen_setCell]; exact h.f3⟩

theorem SigAt.put1 {w : World} {b : Nat} {v : Value} {void : Bool} {t : Ty} (h : SigAt w b v void t) (x : Bool) : SigAt (w.setCell ⟨b,1,none⟩ (.bool x)) b v x t:=
 ⟨by rw [cell_setCell_ne _ _ (by simp)]; exact h.c0,cell_setCell_same _ _ h.c1,by rw [cell_setCell_ne _ _ (by simp)]; exact h.c2,by rw [cell_setCell_ne _ _ (by simp)]; exact h.c3,
  by rw [frozen_setCell]; exact h.f0,by rw [frozen_setCell]; exact h.f1,by rw [frozen_setCell]; exact h.f2,by rw [frozen_setCell]; exact h.f3⟩

theorem SigAt.put2 {w : World} {b : Nat} {v : Value} {void : Bool} {t : Ty} (h : SigAt w b v void t) (x : Int) : SigAt (w.setCell ⟨b,2,none⟩ (.int .i64 x)) b v void (x,t.2):=
 ⟨by rw [cell_setCell_ne _ _ (by simp)]; exact h.c0,by rw [cell_setCell_ne _ _ (by simp)]; exact h.c1,cell_setCell_same _ _ h.c2,by rw [cell_setCell_ne _ _ (by simp)]; exact h.c3,
  by rw [frozen_setCell]; exact h.f0,by rw [frozen_setCell]; exact h.f1,by rw [frozen_setCell]; exact h.f2,by rw [frozen_setCell]; exact h.f3⟩

theorem SigAt.put3 {w : World} {b : Nat} {v : Value} {void : Bool} {t : Ty} (h : SigAt w b v void t) (x : List UInt8) : SigAt (w.setCell ⟨b,3,none⟩ (.string (str x))) b v void (t.1,x):=
 ⟨by rw [cell_setCell_ne _ _ (by simp)]; exact h.c0,by rw [cell_setCell_ne _ _ (by simp)]; exact h.c1,by rw [cell_setCell_ne _ _ (by simp)]; exact h.c2,cell_setCell_same _ _ h.c3,
  by rw [frozen_setCell]; exact h.f0,by rw [frozen_setCell]; exact h.f1,by rw [frozen_setCell]; exact h.f2,by rw [frozen_setCell]; exact h.f3⟩

theorem TyAt.put {w : World} {b : Nat} {t : Ty} (h : TyAt w b t) (d : Int) (n : List UInt8) : TyAt ((w.setCell ⟨b,0,none⟩ (.int .i64 d)).setCell ⟨b,1,none⟩ (.string (str n))) b (d,n):=by
 obtain ⟨h0,h1⟩:=@Go.Proofs.YtildemmkhndhjaaGreatDoor.put2 w b 0 1 _ _ (.int .i64 d) (.string (str n)) h.c0 h.c1 (by omega)
 exact ⟨h0,h1,by rw [frozen_setCell,frozen_setCell]; exact h.f0,by rw [frozen_setCell,frozen_setCell]; exact h.f1⟩

theorem own_set {w : World} {B : Nat} {v : Value} {l : List Ty} (h : Own w B v l) (p : Addr) (hp : p.block < B) (u : Value) : Own (w.setCell p u) B v l:=by
 refine own_only h ((Only.refl [p.block] w).setCell (.inl (by simp)) u) fun k hk=>?_
 have:=(h.lt k hk).1
 simp
 omega

theorem sig_result {w : World} {b : Nat} {v x : Value} {void : Bool} {t : Ty} (h : SigAt w b v void t) (tmps : Array Value) (h2 : tmps.getD 2 undef = .pointer (some ⟨b,0,none⟩)) (h3 : tmps.getD 3 undef = x) :
  (results Tryz.f162 tmps).run Tryz.prog w = .ok (.tuple #[sigV v void t,x]) w:=by
 obtain ⟨c0,c1,c2,c3,_,_,_,_⟩:=h
 rw [results_cell_tmp (p:=2) (u:=3) (ty:=37) Tryz.results162,h2,h3]
 simp [go_sem,c0,c1,c2,c3,sigV]

theorem own_nil (w : World) (B : Nat) : Own w B (.slice none 0 0) []:=World.ownsRow_nil _ _ _ _

/-- What holds at the labels: the memory. -/
structure SM (w : World) (w' : World) (v : Value) (void : Bool) (r : Ty) (ps : List Ty) : Prop where
 res : SigAt w' w.heap.size (.slice none 0 0) false (0,[])
 sig : SigAt w' (w.heap.size + 1) v void r
 ty : ∃ t,TyAt w' (w.heap.size + 2) t
 own : Own w' (w.heap.size + 3) v ps
 only : Only [] w w'
 size : w.heap.size + 3≤w'.heap.size

theorem SM.move {w w' w2 : World} {v v2 : Value} {void void2 : Bool} {r r2 : Ty} {ps ps2 : List Ty} (h : SM w w' v void r ps) {S : List Nat} (ho : Only S w' w2) (hS : ∀ x∈S,w.heap.size < x) (hsig : SigAt w2 (w.heap.size + 1) v2 void2 r2) (hty : ∃ t,TyAt w2 (w.heap.size + 2) t) (hown : Own w2 (w.heap.size + 3) v2 ps2) :
  SM w w2 v2 void2 r2 ps2:=
 ⟨h.res.only ho (fun hm=>by have:=hS _ hm; omega),hsig,hty,hown,h.only.trans ho (fun x hx=>.inr (by have:=hS x hx; omega)),Nat.le_trans h.size ho.size⟩

theorem SM.ty_only {w w' w2 : World} {v : Value} {void : Bool} {r : Ty} {ps : List Ty} (h : SM w w' v void r ps) {S : List Nat} (ho : Only S w' w2) (hS : w.heap.size + 2 ∉ S) : ∃ t,TyAt w2 (w.heap.size + 2) t:=by
 obtain ⟨t,ht⟩:=h.ty
 exact ⟨t,ht.only ho hS⟩

theorem sm_new (w : World) : SM w (((w.alloc (.cells #[.slice none 0 0,.bool false,.int .i64 0,.string ⟨#[]⟩] 37)).alloc (.cells #[.slice none 0 0,.bool false,.int .i64 0,.string ⟨#[]⟩] 37)).alloc (.cells #[.int .i64 0,.string ⟨#[]⟩] 35)) (.slice none 0 0) false (0,[]) []:=by
 have hA : ∀ (W : World) (j : Nat) (u : Value),#[Value.slice none 0 0,.bool false,.int .i64 0,.string ⟨#[]⟩][j]? = some u→(W.alloc (.cells #[.slice none 0 0,.bool false,.int .i64 0,.string ⟨#[]⟩] 37)).cell? ⟨W.heap.size,j,none⟩ = some u:=fun W j u h=>by rw [cell_new]; exact h
 generalize hB : (Obj.cells #[.int .i64 0,.string ⟨#[]⟩] 35) = B
 have e1 : (w.alloc (.cells #[.slice none 0 0,.bool false,.int .i64 0,.string ⟨#[]⟩] 37)).heap.size = w.heap.size + 1:=by simp
 have h1:=fun j u h=>hA w j u h
 have h2:=fun j u h=>hA (w.alloc (.cells #[.slice none 0 0,.bool false,.int .i64 0,.string ⟨#[]⟩] 37)) j u h
 rw [e1] at h2
 have g1 : ∀ j,(w.alloc (.cells #[.slice none 0 0,.bool false,.int .i64 0,.string ⟨#[]⟩] 37)).frozen? ⟨w.heap.size,j,none⟩ = false:=fun j=>frozen_new _ _ _ _
 have g2:=fun j=>frozen_new (w.alloc (.cells #[.slice none 0 0,.bool false,.int .i64 0,.string ⟨#[]⟩] 37)) #[.slice none 0 0,.bool false,.int .i64 0,.string ⟨#[]⟩] 37 j
 rw [e1] at g2
 have e2 : ((w.alloc (.cells #[.slice none 0 0,.bool false,.int .i64 0,.string ⟨#[]⟩] 37)).alloc (.cells #[.slice none 0 0,.bool false,.int .i64 0,.string ⟨#[]⟩] 37)).heap.size = w.heap.size + 2:=by simp
 have s1 : SigAt (w.alloc (.cells #[.slice none 0 0,.bool false,.int .i64 0,.string ⟨#[]⟩] 37)) w.heap.size (.slice none 0 0) false (0,[]):=⟨h1 0 _ rfl,h1 1 _ rfl,h1 2 _ rfl,h1 3 _ rfl,g1 _,g1 _,g1 _,g1 _⟩
 have s2 : SigAt ((w.alloc (.cells #[.slice none 0 0,.bool false,.int .i64 0,.string ⟨#[]⟩] 37)).alloc (.cells #[.slice none 0 0,.bool false,.int .i64 0,.string ⟨#[]⟩] 37)) (w.heap.size + 1) (.slice none 0 0) false (0,[]):=⟨h2 0 _ rfl,h2 1 _ rfl,h2 2 _ rfl,h2 3 _ rfl,g2 _,g2 _,g2 _,g2 _⟩
 refine ⟨(s1.only ((Only.refl [] _).alloc _) (by simp)).only ((Only.refl [] _).alloc _) (by simp),s2.only ((Only.refl [] _).alloc _) (by simp),⟨(0,[]),?_,?_,?_,?_⟩,own_nil _ _,(((Only.refl [] w).alloc _).alloc _).alloc _,by simp⟩
 all_goals
  subst hB
  rw [← e2]
  first
   | exact frozen_new _ _ _ _
   | (rw [cell_new]; rfl)

/-- What holds at each label. -/
def SJ (w : World) (l : List UInt8) : Nat→Act→World→Prop
 | 2,a,w'=>∃ (ao : Option Addr) (vn vc : Nat) (all : List Ty) (rest : List UInt8) (f : Nat) (u0 u1 u8 u9 u10 u11 u12 u13 u14 u15 u16 u17 u18 u19 u20 u21 u22 u23 u24 u25 u26 u27 u28 u29 u30 u31 u32 u33 u34 u35 u36 u37 u38 u39 u40 u41 u42 u43 u44 u45 u46 u47 u48 u49 u50 u51 u52 u53 u54 u55 u56 u57 u58 : Value),a = { tmps:=#[u0,u1,.pointer (some ⟨w.heap.size,0,none⟩),.int .i64 0,.pointer (some ⟨w.heap.size + 1,0,none⟩),.pointer (some ⟨w.heap.size + 2,0,none⟩),.int .i64 (all.length : Int),.string (str rest),u8,u9,u10,u11,u12,u13,u14,u15,u16,u17,u18,u19,u20,u21,u22,u23,u24,u25,u26,u27,u28,u29,u30,u31,u32,u33,u34,u35,u36,u37,u38,u39,u40,u41,u42,u43,u44,u45,u46,u47,u48,u49,u50,u51,u52,u53,u54,u55,u56,u57,u58],defers:=[] }∧SM w w' (.slice ao vn vc) false (0,[]) (all.take 16)∧(paramsP f rest).map (fun x=>(all ++ x.1,x.2)) = paramsP l.length (l.drop 1)∧rest.length < f∧hasOne l 40 = true∧all.length + rest.length < l.length
 | 1,a,w'=>∃ (ao : Option Addr) (vn vc : Nat) (all : List Ty) (rest : List UInt8) (u0 u1 u8 u9 u10 u11 u12 u13 u14 u15 u16 u17 u18 u19 u20 u21 u22 u23 u24 u25 u26 u27 u28 u29 u30 u31 u32 u33 u34 u35 u36 u37 u38 u39 u40 u41 u42 u43 u44 u45 u46 u47 u48 u49 u50 u51 u52 u53 u54 u55 u56 u57 u58 : Value),a = { tmps:=#[u0,u1,.pointer (some ⟨w.heap.size,0,none⟩),.int .i64 0,.pointer (some ⟨w.heap.size + 1,0,none⟩),.pointer (some ⟨w.heap.size + 2,0,none⟩),.int .i64 (all.length : Int),.string (str (41 :: rest)),u8,u9,u10,u11,u12,u13,u14,u15,u16,u17,u18,u19,u20,u21,u22,u23,u24,u25,u26,u27,u28,u29,u30,u31,u32,u33,u34,u35,u36,u37,u38,u39,u40,u41,u42,u43,u44,u45,u46,u47,u48,u49,u50,u51,u52,u53,u54,u55,u56,u57,u58],defers:=[] }∧SM w w' (.slice ao vn vc) false (0,[]) (all.take 16)∧paramsP l.length (l.drop 1) = some (all,rest)∧hasOne l 40 = true∧all.length + rest.length < l.length
 | 3,a,w'=>∃ (ao : Option Addr) (vn vc : Nat) (all : List Ty) (r : Option Ty) (u0 u1 u7 u8 u9 u10 u11 u12 u13 u14 u15 u16 u17 u18 u19 u20 u21 u22 u23 u24 u25 u26 u27 u28 u29 u30 u31 u32 u33 u34 u35 u36 u37 u38 u39 u40 u41 u42 u43 u44 u45 u46 u47 u48 u49 u50 u51 u52 u53 u54 u55 u56 u57 u58 : Value),a = { tmps:=#[u0,u1,.pointer (some ⟨w.heap.size,0,none⟩),.int .i64 0,.pointer (some ⟨w.heap.size + 1,0,none⟩),.pointer (some ⟨w.heap.size + 2,0,none⟩),.int .i64 (all.length : Int),u7,u8,u9,u10,u11,u12,u13,u14,u15,u16,u17,u18,u19,u20,u21,u22,u23,u24,u25,u26,u27,u28,u29,u30,u31,u32,u33,u34,u35,u36,u37,u38,u39,u40,u41,u42,u43,u44,u45,u46,u47,u48,u49,u50,u51,u52,u53,u54,u55,u56,u57,u58],defers:=[] }∧SM w w' (.slice ao vn vc) r.isNone (r.getD (0,[])) (all.take 16)∧sigP l = some (all,r)∧all.length < l.length
 | 0,a,w'=>∃ (ao : Option Addr) (vn vc : Nat) (void : Bool) (t : Ty) (ps : List Ty) (u0 u1 u6 u7 u8 u9 u10 u11 u12 u13 u14 u15 u16 u17 u18 u19 u20 u21 u22 u23 u24 u25 u26 u27 u28 u29 u30 u31 u32 u33 u34 u35 u36 u37 u38 u39 u40 u41 u42 u43 u44 u45 u46 u47 u48 u49 u50 u51 u52 u53 u54 u55 u56 u57 u58 : Value),a = { tmps:=#[u0,u1,.pointer (some ⟨w.heap.size,0,none⟩),.int .i64 0,.pointer (some ⟨w.heap.size + 1,0,none⟩),.pointer (some ⟨w.heap.size + 2,0,none⟩),u6,u7,u8,u9,u10,u11,u12,u13,u14,u15,u16,u17,u18,u19,u20,u21,u22,u23,u24,u25,u26,u27,u28,u29,u30,u31,u32,u33,u34,u35,u36,u37,u38,u39,u40,u41,u42,u43,u44,u45,u46,u47,u48,u49,u50,u51,u52,u53,u54,u55,u56,u57,u58],defers:=[] }∧SM w w' (.slice ao vn vc) void t ps∧sigP l = none
 | _,_,_=>False

def Sμ : Nat→Act→World→Nat
 | 2,a,_=>3 + strLen (a.tmps.getD 7 undef)
 | 1,_,_=>2
 | 3,_,_=>1
 | _,_,_=>0

set_option maxHeartbeats 1000000 in
set_option maxRecDepth 100000 in
theorem sig_any (l : List UInt8) (hl : l.length≤9223372036854775807) (w : World) : Calls Tryz.prog 162 #[.string (str l)] w fun e w'=>∃ v,e = .returned (.tuple #[sigV v (sigR l).1.2.1 (sigR l).1.2.2,.int .i64 (sigR l).2])∧Own w' w.heap.size v (sigR l).1.1∧Only [] w w':=by
 go_enter Tryz.func162,Tryz.ntmps162
 go_wp2
 refine wp_scope_multi2 (SJ w l) Sμ ?_ ?_
 ·intro lb a w' hJ hlow
  obtain _ | _ | _ | _ | lb:=lb
  ·obtain ⟨ao,vn,vc,void,t,ps,u0,u1,u6,u7,u8,u9,u10,u11,u12,u13,u14,u15,u16,u17,u18,u19,u20,u21,u22,u23,u24,u25,u26,u27,u28,u29,u30,u31,u32,u33,u34,u35,u36,u37,u38,u39,u40,u41,u42,u43,u44,u45,u46,u47,u48,u49,u50,u51,u52,u53,u54,u55,u56,u57,u58,rfl,hM,hR⟩:=hJ
   refine ⟨_,rfl,?_⟩
   have e1 : sigR l = (([],false,(0,[])),15):=by simp [sigR,hR]
   obtain ⟨c0,c1,c2,c3,f0,f1,f2,f3⟩:=hM.res
   have HM:=hid hM
   clear hlow hM hR
   go_wp2
   simp only [Exit.jumps]
   refine bodyPost_ret (sig_result ((((HM.out.res.put0 (.slice none 0 0)).put1 false).put2 0).put3 []) _ rfl rfl) rfl ⟨.slice none 0 0,by rw [e1]; rfl,?_,?_⟩
   ·rw [e1]
    exact own_nil _ _
   ·exact (((HM.out.only.setCell (.inr (by simp)) _).setCell (.inr (by simp)) _).setCell (.inr (by simp)) _).setCell (.inr (by simp)) _
  ·obtain ⟨ao,vn,vc,all,rest,u0,u1,u8,u9,u10,u11,u12,u13,u14,u15,u16,u17,u18,u19,u20,u21,u22,u23,u24,u25,u26,u27,u28,u29,u30,u31,u32,u33,u34,u35,u36,u37,u38,u39,u40,u41,u42,u43,u44,u45,u46,u47,u48,u49,u50,u51,u52,u53,u54,u55,u56,u57,u58,rfl,hM,hP,hh,hlen⟩:=hJ
   refine ⟨_,rfl,?_⟩
   have hr:=run_from (41 :: rest) 1 (by simp)
   rw [show ((1 : Nat) : Int) = 1 from rfl,List.drop_one,List.tail_cons] at hr
   have ht:=str_toList rest
   have HM:=hid hM
   have HP:=hid hP
   have HL:=hid hlow
   obtain ⟨c0,c1,c2,c3,f0,f1,f2,f3⟩:=hM.sig
   clear hlow hM hP
   by_cases hv : rest = [86]
   ·subst hv
    go_wp2
    apply wp_goto
    refine ⟨⟨_,_,_,all,none,_,_,_,_,_,_,_,_,_,_,_,_,_,_,_,_,_,_,_,_,_,_,_,_,_,_,_,_,_,_,_,_,_,_,_,_,_,_,_,_,_,_,_,_,_,_,_,_,_,_,_,_,_,_,rfl,⟨?_,HM.out.sig.put1 true,?_,own_set HM.out.own _ (by simp) _,HM.out.only.setCell (.inr (by simp)) _,by simpa using HM.out.size⟩,?_,by omega⟩,Nat.lt_succ_self _⟩
    ·exact HM.out.res.only ((Only.refl [w.heap.size + 1] w').setCell (.inl (by simp)) _) (by simp)
    ·obtain ⟨t0,h0⟩:=HM.out.ty
     exact ⟨t0,h0.only ((Only.refl [w.heap.size + 1] w').setCell (.inl (by simp)) _) (by simp)⟩
    ·rw [sigP_of hh HP.out]
     rfl
   ·have hv2 : ¬ (rest = [86]):=hv
    have hv3 : (rest == [86]) = false:=by simpa using hv
    have HF:=hid (first_any rest (by omega) w')
    cases hp : firstP 0 rest with
    | none=>
     have e1 : firstR rest = ((0,[]),[],false):=by simp [firstR,hp]
     rw [e1] at HF
     simp only [tyV] at HF
     have HS : Hid (sigP l = none):=by
      rw [Hid,sigP_of hh HP.out]
      simp [resultP,hv,hp]
     clear hp
     go_wp2_with (go_at_call 184; refine HF.out.mono ?_; rintro e w2 ⟨rfl,ho2⟩; obtain ⟨c0,c1,c2,c3,f0,f1,f2,f3⟩:=HM.out.sig.only ho2 (by simp))
     apply wp_goto
     have ho3:=(((ho2.mono (S':=[w.heap.size + 1]) (by simp)).setCell (p:=⟨w.heap.size + 1,2,none⟩) (.inl (by simp)) (.int .i64 0)).setCell (p:=⟨w.heap.size + 1,3,none⟩) (.inl (by simp)) (.string (str [])))
     exact ⟨⟨_,_,_,_,_,_,_,_,_,_,_,_,_,_,_,_,_,_,_,_,_,_,_,_,_,_,_,_,_,_,_,_,_,_,_,_,_,_,_,_,_,_,_,_,_,_,_,_,_,_,_,_,_,_,_,_,_,_,_,_,_,rfl,HM.out.move ho3 (by simp) (((HM.out.sig.only ho2 (by simp)).put2 0).put3 []) (HM.out.ty_only ho3 (by simp)) (own_set (own_set (own_only HM.out.own ho2 (by simp)) _ (by simp) _) _ (by simp) _),HS.out⟩,Nat.zero_lt_succ _⟩
    | some x=>
     obtain ⟨⟨td,tn⟩,r⟩:=x
     have e1 : firstR rest = ((td,tn),r,true):=by simp [firstR,hp]
     rw [e1] at HF
     simp only [tyV] at HF
     have HS : Hid (sigP l = if r = [] then some (all,some (td,tn)) else none):=by
      rw [Hid,sigP_of hh HP.out]
      simp only [resultP,hv,if_false,hp]
      cases r <;> simp
     clear hp
     have htr:=str_toList r
     by_cases hz : r = []
     ·subst hz
      go_wp2_with (go_at_call 184; refine HF.out.mono ?_; rintro e w2 ⟨rfl,ho2⟩; obtain ⟨c0,c1,c2,c3,f0,f1,f2,f3⟩:=HM.out.sig.only ho2 (by simp))
      apply wp_label
      rename_i hK
      have ho3:=(((ho2.mono (S':=[w.heap.size + 1]) (by simp)).setCell (p:=⟨w.heap.size + 1,2,none⟩) (.inl (by simp)) (.int .i64 td)).setCell (p:=⟨w.heap.size + 1,3,none⟩) (.inl (by simp)) (.string (str tn)))
      exact hK _ _ (HL.out 3 _ _ _ (Nat.lt_succ_self _) rfl ⟨_,_,_,all,some (td,tn),_,_,_,_,_,_,_,_,_,_,_,_,_,_,_,_,_,_,_,_,_,_,_,_,_,_,_,_,_,_,_,_,_,_,_,_,_,_,_,_,_,_,_,_,_,_,_,_,_,_,_,_,_,_,rfl,HM.out.move ho3 (by simp) (((HM.out.sig.only ho2 (by simp)).put2 td).put3 tn) (HM.out.ty_only ho3 (by simp)) (own_set (own_set (own_only HM.out.own ho2 (by simp)) _ (by simp) _) _ (by simp) _),by rw [HS.out]; rfl,by omega⟩)
     ·have hzi : r.isEmpty = false:=by simpa using hz
      rw [if_neg hz] at HS
      go_wp2_with (go_at_call 184; refine HF.out.mono ?_; rintro e w2 ⟨rfl,ho2⟩; obtain ⟨c0,c1,c2,c3,f0,f1,f2,f3⟩:=HM.out.sig.only ho2 (by simp))
      apply wp_goto
      have ho3:=(((ho2.mono (S':=[w.heap.size + 1]) (by simp)).setCell (p:=⟨w.heap.size + 1,2,none⟩) (.inl (by simp)) (.int .i64 td)).setCell (p:=⟨w.heap.size + 1,3,none⟩) (.inl (by simp)) (.string (str tn)))
      exact ⟨⟨_,_,_,_,_,_,_,_,_,_,_,_,_,_,_,_,_,_,_,_,_,_,_,_,_,_,_,_,_,_,_,_,_,_,_,_,_,_,_,_,_,_,_,_,_,_,_,_,_,_,_,_,_,_,_,_,_,_,_,_,_,rfl,HM.out.move ho3 (by simp) (((HM.out.sig.only ho2 (by simp)).put2 td).put3 tn) (HM.out.ty_only ho3 (by simp)) (own_set (own_set (own_only HM.out.own ho2 (by simp)) _ (by simp) _) _ (by simp) _),HS.out⟩,Nat.zero_lt_succ _⟩
  ·obtain ⟨ao,vn,vc,all,rest,f,u0,u1,u8,u9,u10,u11,u12,u13,u14,u15,u16,u17,u18,u19,u20,u21,u22,u23,u24,u25,u26,u27,u28,u29,u30,u31,u32,u33,u34,u35,u36,u37,u38,u39,u40,u41,u42,u43,u44,u45,u46,u47,u48,u49,u50,u51,u52,u53,u54,u55,u56,u57,u58,rfl,hM,hP,hf,hh,hlen⟩:=hJ
   refine ⟨_,rfl,?_⟩
   have HM:=hid hM
   have HP:=hid hP
   have HH:=hid (has_any rest 41 w')
   obtain ⟨f,rfl⟩ : ∃ k,f = k + 1:=⟨f - 1,by omega⟩
   clear hlow hM hP
   cases hc : hasOne rest 41 with
   | true=>
    rw [hc] at HH
    obtain ⟨r,rfl⟩ : ∃ r,rest = 41 :: r:=by
     cases rest with
     | nil=>simp [hasOne] at hc
     | cons x r=>
      have : x = 41:=by simpa [hasOne] using hc
      exact ⟨r,by rw [this]⟩
    go_wp2_with (go_at_call 186; refine HH.out.mono ?_; rintro e w2 ⟨rfl,rfl⟩)
    apply wp_goto
    refine ⟨⟨_,_,_,all,r,_,_,_,_,_,_,_,_,_,_,_,_,_,_,_,_,_,_,_,_,_,_,_,_,_,_,_,_,_,_,_,_,_,_,_,_,_,_,_,_,_,_,_,_,_,_,_,_,_,_,_,_,_,rfl,HM.out,?_,hh,by simp at hlen; omega⟩,?_⟩
    ·rw [← HP.out,paramsP,if_pos hc]
     simp
    ·show 2 < 3 + _
     omega
   | false=>
    rw [hc] at HH
    have HF:=hid (first_any rest (by omega) w')
    obtain ⟨t0,ht0⟩:=HM.out.ty
    have HT:=hid ht0
    obtain ⟨y0,y1,g0,g1⟩:=ht0
    cases hp : firstP 0 rest with
    | none=>
     have e1 : firstR rest = ((0,[]),[],false):=by simp [firstR,hp]
     rw [e1] at HF
     simp only [tyV] at HF
     have HS : Hid (sigP l = none):=by
      have : paramsP l.length (l.drop 1) = none:=by
       rw [← HP.out,paramsP,hc]
       simp [hp]
      simp only [Hid,sigP,hh,this]
      rfl
     clear hp
     go_wp2_with (first | (go_at_call 186; refine HH.out.mono ?_; rintro e w2 ⟨rfl,rfl⟩) | (go_at_call 184; refine HF.out.mono ?_; rintro e w3 ⟨rfl,ho2⟩; obtain ⟨y0,y1,g0,g1⟩:=HT.out.only ho2 (by simp)))
     apply wp_goto
     have ho3:=(((ho2.mono (S':=[w.heap.size + 2]) (by simp)).setCell (p:=⟨w.heap.size + 2,0,none⟩) (.inl (by simp)) (.int .i64 0)).setCell (p:=⟨w.heap.size + 2,1,none⟩) (.inl (by simp)) (.string (str [])))
     refine ⟨⟨_,_,_,_,_,_,_,_,_,_,_,_,_,_,_,_,_,_,_,_,_,_,_,_,_,_,_,_,_,_,_,_,_,_,_,_,_,_,_,_,_,_,_,_,_,_,_,_,_,_,_,_,_,_,_,_,_,_,_,_,_,rfl,HM.out.move ho3 (by simp) (HM.out.sig.only ho3 (by simp)) ⟨_,(HT.out.only ho2 (by simp)).put 0 []⟩ (own_set (own_set (own_only HM.out.own ho2 (by simp)) _ (by simp) _) _ (by simp) _),HS.out⟩,?_⟩
     show 0 < 3 + _
     omega
    | some x=>
     obtain ⟨⟨td,tn⟩,r⟩:=x
     have e1 : firstR rest = ((td,tn),r,true):=by simp [firstR,hp]
     rw [e1] at HF
     simp only [tyV] at HF
     have hrl:=firstP_lt _ _ _ _ hp
     have HS : Hid ((paramsP f r).map (fun x=>((all ++ [(td,tn)]) ++ x.1,x.2)) = paramsP l.length (l.drop 1)):=by
      rw [Hid,← HP.out,paramsP,hc]
      simp only [hp,Bool.false_eq_true,if_false]
      cases paramsP f r <;> simp
     clear hp
     by_cases hm : all.length + 1≤16
     ·have hm2 : ((all.length : Int) + 1≤16):=by omega
      obtain ⟨i0,hi,hz0,hz1,hz2⟩:=info_parts infoT
      have htk : all.take 16 = all:=List.take_of_length_le (by omega)
      have htk2 : (all ++ [(td,tn)]).take 16 = all ++ [(td,tn)]:=List.take_of_length_le (by simp; omega)
      have HM2:=HM
      rw [htk] at HM2
      go_wp2_with (first | (go_at_call 186; refine HH.out.mono ?_; rintro e w2 ⟨rfl,rfl⟩) | (go_at_call 184; refine HF.out.mono ?_; rintro e w3 ⟨rfl,ho2⟩; obtain ⟨y0,y1,g0,g1⟩:=HT.out.only ho2 (by simp); obtain ⟨c0,c1,c2,c3,f0,f1,f2,f3⟩:=HM.out.sig.only ho2 (by simp); have hsz3 : w.heap.size + 3≤w3.heap.size:=Nat.le_trans HM.out.size ho2.size; have hown3:=hid (own_set (own_set (own_only HM2.out.own ho2 (by simp)) ⟨w.heap.size + 2,0,none⟩ (by simp) (.int .i64 td)) ⟨w.heap.size + 2,1,none⟩ (by simp) (.string (str tn)))) | (at_builtin; refine wpList_append_own _ rfl (.tmp 31) (.tmp 33) 33 rfl (w.heap.size + 3) 35 i0 (.agg #[.int .i64 0,.string ⟨#[]⟩]) 2 24 Tryz.underlying33 hi hz0 hz1 hz2 rfl (by decide) (.slice ao vn vc) all.length (tcs all) rfl (hown3.out.alloc _) ⟨w3.heap.size,0,none⟩ 1 1 [.int .i64 td,.string (str tn)] rfl rfl ?c1 ?c2 ?c3 ?c4 ?c5 ?_))
      have hnew : ∀ j,(((w3.setCell ⟨w.heap.size + 2,0,none⟩ (.int .i64 td)).setCell ⟨w.heap.size + 2,1,none⟩ (.string (str tn))).alloc (.cells #[.int .i64 td,.string (str tn)] 35)).cell? ⟨w3.heap.size,j,none⟩ = #[Value.int .i64 td,.string (str tn)][j]?:=by
       intro j
       rw [show w3.heap.size = ((w3.setCell ⟨w.heap.size + 2,0,none⟩ (.int .i64 td)).setCell ⟨w.heap.size + 2,1,none⟩ (.string (str tn))).heap.size by simp [World.setCell]]
       exact cell_new _ _ _ _
      case c1=>
       intro j u hj
       match j,hj with
       | 0,hj=>
        simp at hj
        subst hj
        exact hnew 0
       | 1,hj=>
        simp at hj
        subst hj
        exact hnew 1
      case c2=>intro u hu; simp at hu; rcases hu with rfl | rfl <;> rfl
      case c3=>unfold maxLen; omega
      case c4=>omega
      case c5=>simp; omega
      intro v' w4 hown4 hgrow _
      obtain ⟨ao',cap',rfl⟩ : ∃ ao' cap',v' = .slice ao' (all.length + 1) cap':=by
       rcases hown4.2 with ⟨_,h0⟩ | ⟨g,cap,_,rfl,_⟩
       ·omega
       ·exact ⟨_,_,rfl⟩
      have ho3:=(((ho2.mono (S':=[w.heap.size + 1,w.heap.size + 2]) (by simp)).setCell (p:=⟨w.heap.size + 2,0,none⟩) (.inl (by simp)) (.int .i64 td)).setCell (p:=⟨w.heap.size + 2,1,none⟩) (.inl (by simp)) (.string (str tn))).alloc (.cells #[.int .i64 td,.string (str tn)] 35)
      have hbl : ∀ k,(Value.slice ao vn vc).ownBlock = some k→w.heap.size + 3≤k:=fun k hk=>(hown3.out.lt k hk).1
      have hg4:=Only.of_grown hgrow
      have hno : ∀ x,x < w.heap.size + 3→x ∉ (Value.slice ao vn vc).ownBlock.toList:=by
       intro x hx hm
       have:=hbl x (by simpa using hm)
       omega
      have hs4:=((HM.out.sig.only (ho2.mono (S':=[w.heap.size + 2]) (by simp)) (by simp)).only (((Only.refl [w.heap.size + 2] w3).setCell (p:=⟨w.heap.size + 2,0,none⟩) (.inl (by simp)) (.int .i64 td)).setCell (p:=⟨w.heap.size + 2,1,none⟩) (.inl (by simp)) (.string (str tn))) (by simp)).only ((Only.refl [] _).alloc (.cells #[.int .i64 td,.string (str tn)] 35)) (by simp)
      have hs5:=hs4.only hg4 (hno _ (by omega))
      have ht5:=(((HT.out.only ho2 (by simp)).put td tn).only ((Only.refl [] _).alloc (.cells #[.int .i64 td,.string (str tn)] 35)) (by simp)).only hg4 (hno _ (by omega))
      have HS5:=hid hs5
      obtain ⟨c0,c1,c2,c3,f0,f1,f2,f3⟩:=hs5
      go_wp2
      apply wp_goto
      have hnum : (all.length : Int) + 1 = ((all ++ [(td,tn)]).length : Int):=by simp
      rw [hnum]
      refine ⟨⟨ao',all.length + 1,cap',all ++ [(td,tn)],r,f,_,_,_,_,_,_,_,_,_,_,_,_,_,_,_,_,_,_,_,_,_,_,_,_,_,_,_,_,_,_,_,_,_,_,_,_,_,_,_,_,_,_,_,_,_,_,_,_,_,_,_,_,_,rfl,?_,HS.out,by omega,hh,by simp; omega⟩,?_⟩
      ·rw [htk2]
       have hown5 : Own w4 (w.heap.size + 3) (.slice ao' (all.length + 1) cap') (all ++ [(td,tn)]):=by
        rw [Own,tcs_append,List.length_append]
        exact hown4
       have ho4:=ho3.mono (S':=(w.heap.size + 1) :: (w.heap.size + 2) :: (Value.slice ao vn vc).ownBlock.toList) (fun x hx=>.inl (by simp at hx ⊢; rcases hx with hx | hx <;> simp [hx]))
       have ho5:=(ho4.trans hg4 (fun x hx=>.inl (List.mem_cons_of_mem _ (List.mem_cons_of_mem _ hx)))).setCell (p:=⟨w.heap.size + 1,0,none⟩) (.inl (by simp)) (.slice ao' (all.length + 1) cap')
       refine HM.out.move ho5 (fun x hx=>?_) (HS5.out.put0 _) ?_ (own_set hown5 _ (by simp) _)
       ·rcases List.mem_cons.1 hx with rfl | hx
        ·omega
        ·rcases List.mem_cons.1 hx with rfl | hx
         ·omega
         ·have:=hbl x (by simpa using hx)
          omega
       exact ⟨_,ht5.only ((Only.refl [w.heap.size + 1] w4).setCell (p:=⟨w.heap.size + 1,0,none⟩) (.inl (by simp)) _) (by simp)⟩
      ·show 3 + strLen (.string (str r)) < 3 + strLen (.string (str rest))
       simp only [strLen,str_size]
       omega
     ·have hm2 : ¬ ((all.length : Int) + 1≤16):=by omega
      have htk2 : (all ++ [(td,tn)]).take 16 = all.take 16:=by
       rw [List.take_append_of_le_length (by omega)]
      go_wp2_with (first | (go_at_call 186; refine HH.out.mono ?_; rintro e w2 ⟨rfl,rfl⟩) | (go_at_call 184; refine HF.out.mono ?_; rintro e w3 ⟨rfl,ho2⟩; obtain ⟨y0,y1,g0,g1⟩:=HT.out.only ho2 (by simp)))
      apply wp_goto
      have ho3:=(((ho2.mono (S':=[w.heap.size + 2]) (by simp)).setCell (p:=⟨w.heap.size + 2,0,none⟩) (.inl (by simp)) (.int .i64 td)).setCell (p:=⟨w.heap.size + 2,1,none⟩) (.inl (by simp)) (.string (str tn)))
      have hnum : (all.length : Int) + 1 = ((all ++ [(td,tn)]).length : Int):=by simp
      rw [hnum]
      refine ⟨⟨ao,vn,vc,all ++ [(td,tn)],r,f,_,_,_,_,_,_,_,_,_,_,_,_,_,_,_,_,_,_,_,_,_,_,_,_,_,_,_,_,_,_,_,_,_,_,_,_,_,_,_,_,_,_,_,_,_,_,_,_,_,_,_,_,_,rfl,?_,HS.out,by omega,hh,by simp; omega⟩,?_⟩
      ·rw [htk2]
       exact HM.out.move ho3 (by simp) (HM.out.sig.only ho3 (by simp)) ⟨_,(HT.out.only ho2 (by simp)).put td tn⟩ (own_set (own_set (own_only HM.out.own ho2 (by simp)) _ (by simp) _) _ (by simp) _)
      ·show 3 + strLen (.string (str r)) < 3 + strLen (.string (str rest))
       simp only [strLen,str_size]
       omega
  ·obtain ⟨ao,vn,vc,all,r,u0,u1,u7,u8,u9,u10,u11,u12,u13,u14,u15,u16,u17,u18,u19,u20,u21,u22,u23,u24,u25,u26,u27,u28,u29,u30,u31,u32,u33,u34,u35,u36,u37,u38,u39,u40,u41,u42,u43,u44,u45,u46,u47,u48,u49,u50,u51,u52,u53,u54,u55,u56,u57,u58,rfl,hM,hR,hlen⟩:=hJ
   refine ⟨_,rfl,?_⟩
   obtain ⟨c0,c1,c2,c3,f0,f1,f2,f3⟩:=hM.res
   obtain ⟨b0,b1,b2,b3,_,_,_,_⟩:=hM.sig
   have HM:=hid hM
   clear hlow hM
   by_cases hm : 16 < all.length
   ·have hm2 : (16 < (all.length : Int)):=by omega
    have e1 : sigR l = (([],false,(0,[])),4):=by simp [sigR,hR,hm]
    have E1:=hid e1
    clear hR e1
    go_wp2
    simp only [Exit.jumps]
    refine bodyPost_ret (sig_result ((((HM.out.res.put0 (.slice none 0 0)).put1 false).put2 0).put3 []) _ rfl rfl) rfl ⟨.slice none 0 0,by rw [E1.out]; rfl,?_,?_⟩
    ·rw [E1.out]
     exact own_nil _ _
    ·exact (((HM.out.only.setCell (.inr (by simp)) _).setCell (.inr (by simp)) _).setCell (.inr (by simp)) _).setCell (.inr (by simp)) _
   ·have hm2 : ¬ (16 < (all.length : Int)):=by omega
    have e1 : sigR l = ((all,r.isNone,r.getD (0,[])),0):=by simp [sigR,hR,hm]
    have E1:=hid e1
    clear hR e1
    have htk : all.take 16 = all:=List.take_of_length_le (by omega)
    generalize hx : r.isNone = xn at *
    generalize hy : r.getD (0,[]) = xt at *
    obtain ⟨xd,xl⟩:=xt
    clear hx hy
    go_wp2
    simp only [Exit.jumps]
    refine bodyPost_ret (sig_result ((((HM.out.res.put0 (.slice ao vn vc)).put1 xn).put2 xd).put3 xl) _ rfl rfl) rfl ⟨.slice ao vn vc,by rw [E1.out]; rfl,?_,?_⟩
    ·rw [E1.out]
     have:=HM.out.own
     rw [htk] at this
     exact own_mono (own_set (own_set (own_set (own_set this _ (by simp) _) _ (by simp) _) _ (by simp) _) _ (by simp) _) (by omega)
    ·exact (((HM.out.only.setCell (.inr (by simp)) _).setCell (.inr (by simp)) _).setCell (.inr (by simp)) _).setCell (.inr (by simp)) _
  ·exact hJ.elim
 ·intro hj
  have HC:=hid (cut_any l 40 (((w.alloc (.cells #[.slice none 0 0,.bool false,.int .i64 0,.string ⟨#[]⟩] 37)).alloc (.cells #[.slice none 0 0,.bool false,.int .i64 0,.string ⟨#[]⟩] 37)).alloc (.cells #[.int .i64 0,.string ⟨#[]⟩] 35)))
  have hM : SM w (((w.alloc (.cells #[.slice none 0 0,.bool false,.int .i64 0,.string ⟨#[]⟩] 37)).alloc (.cells #[.slice none 0 0,.bool false,.int .i64 0,.string ⟨#[]⟩] 37)).alloc (.cells #[.int .i64 0,.string ⟨#[]⟩] 35)) (.slice none 0 0) false (0,[]) []:=by
   exact sm_new w
  cases hh : hasOne l 40 with
  | false=>
   rw [hh] at HC
   go_wp2_with (go_at_call 185; refine HC.out.mono ?_; rintro e w2 ⟨rfl,rfl⟩)
   apply wp_goto
   refine ⟨_,_,_,_,_,_,_,_,_,_,_,_,_,_,_,_,_,_,_,_,_,_,_,_,_,_,_,_,_,_,_,_,_,_,_,_,_,_,_,_,_,_,_,_,_,_,_,_,_,_,_,_,_,_,_,_,_,_,_,_,_,rfl,hM,?_⟩
   simp [sigP,hh]
  | true=>
   rw [hh] at HC
   go_wp2_with (go_at_call 185; refine HC.out.mono ?_; rintro e w2 ⟨rfl,rfl⟩)
   apply wp_label
   rename_i hK
   have hcut : cutOne l 40 = l.drop 1:=by simp [cutOne,hh]
   have hpos : 0 < l.length:=by cases l <;> simp_all [hasOne]
   rw [hcut]
   refine hK _ _ (hj 2 _ _ _ rfl ⟨none,0,0,[],l.drop 1,l.length,_,_,_,_,_,_,_,_,_,_,_,_,_,_,_,_,_,_,_,_,_,_,_,_,_,_,_,_,_,_,_,_,_,_,_,_,_,_,_,_,_,_,_,_,_,_,_,_,_,_,_,_,_,rfl,hM,?_,by simp; omega,hh,by simp; omega⟩)
   cases paramsP l.length (l.drop 1) <;> rfl

end Go.Proofs.YtildemmkhndhjaaGreatDoor
