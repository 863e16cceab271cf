/-
  What the proof leans on, part 13 of 48. The conditions stand in each theorem.
-/
import Derived.Test.YtildemmkhndhjaaGreatDoorB12
import Derived.Test.YtildemmkhndhjaaGreatDoorB11
import Derived.Deep.RegionHeld3
namespace Go.Proofs.YtildemmkhndhjaaGreatDoor
open Go.RowKit

theorem neq_hd (a b : Hd) (w : World) : (binOp .neq 46 (hdV a) (hdV b)).run Tryz.prog w = .ok (.bool (!decide (a = b))) w:=by
 obtain ⟨k,t,n,x⟩:=a
 obtain ⟨k',t',n',x'⟩:=b
 have hS : Tryz.prog.underlying 46 = some (.struct (Tryz.prog.fieldsOf 46)):=by kernel_rfl
 have hp : Tryz.prog.stoodInHeld 46 = false:=by kernel_rfl
 simp only [hdV]
 rw [run_neq_struct,show (10000 : Nat) = 9999 + 1 from rfl,run_equalIn_agg w 9999 46 _ _ hS hp]
 simp only [Program.fieldsOf,Tryz.underlying46]
 go_simp
 simp only [str_toList]
 by_cases h1 : k = k' <;> by_cases h2 : t = t' <;> by_cases h3 : n = n' <;> by_cases h4 : x = x' <;> simp [h1,h2,h3,h4]

theorem equalIn_type (m : Nat) (d d' : Int) (n n' : List UInt8) (w : World) : (Op.equalIn (m + 2) 35 (.agg #[.int .i64 d,.string (str n)]) (.agg #[.int .i64 d',.string (str n')])).run Tryz.prog w = .ok (decide (((d,n) : Ty) = (d',n'))) w:=by
 have hS : Tryz.prog.underlying 35 = some (.struct (Tryz.prog.fieldsOf 35)):=by kernel_rfl
 have hp : Tryz.prog.stoodInHeld 35 = false:=by kernel_rfl
 rw [run_equalIn_agg w (m + 1) 35 _ _ hS hp]
 simp only [Program.fieldsOf,Tryz.underlying35]
 go_simp
 simp only [str_toList]
 by_cases h1 : d = d' <;> by_cases h2 : n = n' <;> simp [h1,h2]

theorem equalIn_fd (m : Nat) (a b : Fd) (w : World) : (Op.equalIn (m + 3) 44 (fdV a) (fdV b)).run Tryz.prog w = .ok (decide (a = b)) w:=by
 obtain ⟨k,t,n,x⟩:=a
 obtain ⟨k',t',n',x'⟩:=b
 have hS : Tryz.prog.underlying 44 = some (.struct (Tryz.prog.fieldsOf 44)):=by kernel_rfl
 have hp : Tryz.prog.stoodInHeld 44 = false:=by kernel_rfl
 have hT:=equalIn_type m n n' x x'
 simp only [fdV]
 rw [run_equalIn_agg w (m + 2) 44 _ _ hS hp]
 simp only [Program.fieldsOf,Tryz.underlying44]
 go_simp
 simp only [str_toList]
 by_cases h1 : k = k' <;> by_cases h2 : t = t' <;> by_cases h3 : n = n' <;> by_cases h4 : x = x' <;> simp [h1,h2,h3,h4]

theorem neq_fd (a b : Fd) (w : World) : (binOp .neq 44 (fdV a) (fdV b)).run Tryz.prog w = .ok (.bool (!decide (a = b))) w:=by
 have h:=equalIn_fd 9997 a b w
 unfold fdV at h ⊢
 rw [run_neq_struct,h]
 rfl

/-- Bytes as a text. -/
theorem RS.conv {w : World} {ao : Option Addr} {bs : List UInt8} {d : Nat} (h : RS w ao (bcs bs) d) (cap : Nat) : (convert 38 9 (.slice ao bs.length cap)).run Tryz.prog w = .ok (.string (Go.Proofs.YtildemmkhndhjaaGreatDoor.str bs)) w:=by
 cases ao with
 | none=>
  have h0:=h.none_nil
  have : bs = []:=by simpa [bcs] using h0
  subst this
  simp [convert,run_underlying Tryz.underlying38,run_underlying Tryz.underlying9,go_sem,Go.Proofs.YtildemmkhndhjaaGreatDoor.str,Conv.bytesToString]
  rfl
 | some a=>
  exact run_convert_bytes_back w 38 9 5 a cap bs Tryz.underlying38 Tryz.underlying5 Tryz.underlying9 (fun j hj=>h.cells j _ (bcs_get bs j hj))


/-- An error that says b: none, or a Bad in a block from B on. -/
inductive EB (w : World) (B : Nat) : Value→Bp→Prop where
 | no {b : Bp} (h : b.2.2.2 = 0) : EB w B .nilIface b
 | bad {b : Bp} {p : Nat} (h : b.2.2.2≠0) (hp : B≤p) (hb : BadAt w p b) : EB w B (badV p) b

theorem EB.ev {w : World} {B : Nat} {v : Value} {b : Bp} (h : EB w B v b) : EV w B v b:=by
 cases h with
 | no h=>exact .no h
 | bad h hp hb=>exact .bad h hp hb

theorem EB.down {w : World} {B C : Nat} {v : Value} {b : Bp} (h : EB w B v b) (hC : C≤B) : EB w C v b:=by
 cases h with
 | no h=>exact .no h
 | bad h hp hb=>exact .bad h (by omega) hb

theorem EB.cases_nil {w : World} {B : Nat} {v : Value} {b : Bp} (h : EB w B v b) : (b.2.2.2 = 0∧v = .nilIface)∨(b.2.2.2≠0∧∃ p,v = badV p∧B≤p∧BadAt w p b):=by
 cases h with
 | no h=>exact .inl ⟨h,rfl⟩
 | bad h hp hb=>exact .inr ⟨h,_,rfl,hp,hb⟩


/-- The bytes that are left, and how many were read. -/
abbrev Rs:=List UInt8 × Nat
/-- What reads: the place and the error, or what was read and what is left. -/
abbrev Pr (α : Type):=Rs→Sum (Int × Int) (α × Rs)

def pDone {α : Type} (x : α) : Pr α:=fun r=>.inr (x,r)
def pFail {α : Type} (n : Nat) (e : Int) : Pr α:=fun _=>.inl ((n : Int),e)
def pBind {α β : Type} (p : Pr α) (f : α→Pr β) : Pr β:=fun r=>match p r with
 | .inl e=>.inl e
 | .inr (x,r')=>f x r'
def pTake (n : Nat) : Pr (List UInt8):=fun r=>if r.1.length < n then .inl ((r.2 : Int),11) else .inr (r.1.take n,r.1.drop n,r.2 + n)
def pU (k : Nat) : Pr Nat:=pBind (pTake k) fun l=>pDone (be l)
def pN8 : Pr Int:=pBind (pTake 8) fun l=>pDone (wrap64 (be l : Int))
def pText : Pr (List UInt8):=fun r=>pBind (pTake (textLen r.1)) (fun l=>pDone l.tail) r
def pList {α : Type} (p : Pr α) : Nat→Pr (List α)
 | 0=>pDone []
 | n + 1=>pBind p fun x=>pBind (pList p n) fun l=>pDone (x :: l)
def pRows {α : Type} (k most : Nat) (p : Pr α) : Pr (List α):=fun r=>pBind (pU k) (fun n=>if most < n then pFail r.2 4 else pList p n) r
def pSpell {α : Type} (f : List UInt8→α × Int) : Pr α:=fun r=>pBind pText (fun s=>if (f s).2 = 0 then pDone (f s).1 else pFail r.2 (f s).2) r

def pEntry : Pr En:=fun r=>pBind (pU 1) (fun k=>
 if k = 1 then pBind pText fun s=>pDone (1,s,0,0,0,0)
 else if k = 2 then pBind pN8 fun n=>pDone (2,[],n,0,0,0)
 else if k = 3∨k = 4 then pBind (pU 2) fun a=>pDone ((k : Int),[],0,(a : Int),0,0)
 else if k = 5∨k = 6 then pBind (pU 2) fun a=>pBind (pU 2) fun b=>pBind (pU 2) fun c=>pDone ((k : Int),[],0,(a : Int),(b : Int),(c : Int))
 else pFail r.2 3) r
def pField : Pr Fd:=pBind (pU 1) fun k=>pBind pText fun s=>pBind (pSpell typeR) fun t=>pDone ((k : Int),s,t)
def pHand : Pr Hd:=pBind (pU 2) fun a=>pBind (pU 2) fun b=>pBind (pU 2) fun c=>pBind pText fun s=>pDone ((a : Int),(b : Int),(c : Int),s)
def pMethod : Pr Me:=pBind (pU 1) fun k=>pBind pText fun s=>pBind (pSpell sigR) fun g=>
 if k = 2 then pDone ⟨(k : Int),s,g,0,0,[],[]⟩
 else pBind (pU 1) fun a=>pBind (pU 1) fun b=>pBind (pU 2) fun n=>pBind (pTake n) fun code=>pBind (pRows 1 32 pHand) fun hs=>pDone ⟨(k : Int),s,g,(a : Int),(b : Int),code,hs⟩
def pClass : Pr Cl:=pBind (pU 1) fun k=>pBind pText fun s=>pBind pText fun u=>pBind (pRows 1 16 pText) fun fa=>pBind (pRows 1 64 pField) fun fi=>pBind (pRows 1 64 pMethod) fun me=>pDone ⟨(k : Int),s,u,fa,fi,me⟩

def magicL : List UInt8:=[75,69,89,49]
def pMagic : Pr Unit:=pBind (pTake 4) fun l=>if l = magicL then pDone () else pFail 0 13
def pEnd (m : Mo) : Pr Mo:=fun r=>if r.1 = [] then .inr (m,r) else .inl ((r.2 : Int),12)
def pModule : Pr Mo:=pBind pMagic fun _=>pBind (pRows 2 4096 pEntry) fun l=>pBind (pRows 1 64 pClass) fun cs=>pEnd ⟨l,cs⟩

def mo0 : Mo:=⟨[],[]⟩
def readM (b : List UInt8) : Mo × Bp:=
 if 262144 < b.length then (mo0,0,0,0,5) else match pModule (b,0) with
 | .inl e=>(mo0,0,0,e.1,e.2)
 | .inr (m,_)=>if (checkM m).2.2.2 = 0 then (m,ok4) else (mo0,checkM m)

def e1 (n : Int) : List UInt8:=[UInt8.ofNat n.toNat]
def e2 (n : Int) : List UInt8:=toBE n.toNat 2
def e8 (n : Int) : List UInt8:=toBE (toU64 n) 8
def eT (s : List UInt8) : List UInt8:=UInt8.ofNat s.length :: s
def encEn (e : En) : List UInt8:=e1 e.1 ++ (if e.1 = 1 then eT e.2.1 else if e.1 = 2 then e8 e.2.2.1 else if e.1 = 3∨e.1 = 4 then e2 e.2.2.2.1 else e2 e.2.2.2.1 ++ (e2 e.2.2.2.2.1 ++ e2 e.2.2.2.2.2))
def encFd (f : Fd) : List UInt8:=e1 f.1 ++ (eT f.2.1 ++ eT (tyText f.2.2))
def encHd (h : Hd) : List UInt8:=e2 h.1 ++ (e2 h.2.1 ++ (e2 h.2.2.1 ++ eT h.2.2.2))
def sgText (g : Sg) : List UInt8:=sigText g.1 g.2.1 g.2.2
def encMe (m : Me) : List UInt8:=e1 m.flags ++ (eT m.name ++ (eT (sgText m.sig) ++ (if m.flags = 2 then [] else e1 m.stack ++ (e1 m.locals ++ (e2 (m.code.length : Int) ++ (m.code ++ (e1 (m.hands.length : Int) ++ m.hands.flatMap encHd)))))))
def encCl (c : Cl) : List UInt8:=e1 c.flags ++ (eT c.name ++ (eT c.super ++ (e1 (c.faces.length : Int) ++ (c.faces.flatMap eT ++ (e1 (c.fields.length : Int) ++ (c.fields.flatMap encFd ++ (e1 (c.methods.length : Int) ++ c.methods.flatMap encMe)))))))
def encM (m : Mo) : List UInt8:=magicL ++ (e2 (m.pool.length : Int) ++ (m.pool.flatMap encEn ++ (e1 (m.classes.length : Int) ++ m.classes.flatMap encCl)))
def writeM (m : Mo) : List UInt8 × Bp:=if (checkM m).2.2.2 = 0 then (if 262144 < (encM m).length then ([],0,0,0,5) else (encM m,ok4)) else ([],checkM m)


/-- What was wrong first, or what is left and how much was read. -/
abbrev St:=Sum (Int × Int) Rs

/-- A source in block sb over a reader in block r. -/
structure Sc0 (w : World) (sb r d : Nat) (bp : Option Addr) (s : List UInt8 × Nat × Int) : Prop where
 c0 : w.cell? ⟨sb,0,none⟩ = some (.pointer (some ⟨r,0,none⟩))
 c1 : w.cell? ⟨sb,1,none⟩ = some (.pointer bp)
 f1 : w.frozen? ⟨sb,1,none⟩ = false
 rd : RdE w r d s
 ne : sb≠r
 nd : d≠sb
 nr : d≠r
 dl : d < w.heap.size
 few : s.1.length≤262144

inductive Sc (w : World) (sb r d : Nat) : St→Prop where
 | fine {l : List UInt8} {n : Nat} (h : Sc0 w sb r d none (l,n,0)) : Sc w sb r d (.inr (l,n))
 | cut {l : List UInt8} {n : Nat} {e : Int} (he : e≠0) (h : Sc0 w sb r d none (l,n,e)) : Sc w sb r d (.inl ((n : Int),e))
 | bad {s : List UInt8 × Nat × Int} {q : Nat} {a e : Int} (he : e≠0) (h : Sc0 w sb r d (some ⟨q,0,none⟩) s) (hq : BadAt w q (0,0,a,e)) (hn : sb < q∧q≠r) : Sc w sb r d (.inl (a,e))

theorem Sc0.only {w w' : World} {S : List Nat} {sb r d : Nat} {bp : Option Addr} {s : List UInt8 × Nat × Int} (h : Sc0 w sb r d bp s) (ho : Only S w w') (h1 : sb ∉ S) (h2 : r ∉ S) (h3 : d ∉ S) : Sc0 w' sb r d bp s:=by
 have hl : sb < w.heap.size:=World.block_lt_of_cell? w _ h.c0
 exact ⟨(ho.cell (p:=⟨sb,0,none⟩) hl h1).trans h.c0,(ho.cell (p:=⟨sb,1,none⟩) hl h1).trans h.c1,(ho.frozen (p:=⟨sb,1,none⟩) hl h1).trans h.f1,h.rd.only ho h2 h3,h.ne,h.nd,h.nr,Nat.lt_of_lt_of_le h.dl ho.size,h.few⟩

theorem Sc.lt {w : World} {sb r d : Nat} {t : St} (h : Sc w sb r d t) : sb < w.heap.size∧r < w.heap.size∧d < w.heap.size∧sb≠r∧d≠sb∧d≠r:=by
 cases h with
 | fine h=>exact ⟨World.block_lt_of_cell? w _ h.c0,h.rd.lt,h.dl,h.ne,h.nd,h.nr⟩
 | cut he h=>exact ⟨World.block_lt_of_cell? w _ h.c0,h.rd.lt,h.dl,h.ne,h.nd,h.nr⟩
 | bad he h hq hn=>exact ⟨World.block_lt_of_cell? w _ h.c0,h.rd.lt,h.dl,h.ne,h.nd,h.nr⟩

theorem Sc.c0 {w : World} {sb r d : Nat} {t : St} (h : Sc w sb r d t) : w.cell? ⟨sb,0,none⟩ = some (.pointer (some ⟨r,0,none⟩)):=by
 cases h with
 | fine h=>exact h.c0
 | cut he h=>exact h.c0
 | bad he h hq hn=>exact h.c0

/-- What turns only new blocks leaves a source as it is. -/
theorem Sc.only0 {w w' : World} {sb r d : Nat} {t : St} (h : Sc w sb r d t) (ho : Only [] w w') : Sc w' sb r d t:=by
 cases h with
 | fine h=>exact .fine (h.only ho (by simp) (by simp) (by simp))
 | cut he h=>exact .cut he (h.only ho (by simp) (by simp) (by simp))
 | bad he h hq hn=>exact .bad he (h.only ho (by simp) (by simp) (by simp)) (hq.only ho (by simp)) hn

/-- What turns blocks from B on, all of the source lying below B but for what was wrong: only where nothing is wrong yet. -/
theorem Sc.drew {w : World} {sb r d : Nat} {t : St} (h : Sc w sb r d t) : Sc w.drew sb r d t:=h.only0 ((Only.refl [] w).drew)
/-- Where a source stands when m bytes were asked for. -/
def tAfter (m : Nat) (t : St) : St:=match t with
 | .inl f=>.inl f
 | .inr x=>match pTake m x with
  | .inl f=>.inl f
  | .inr (_,y)=>.inr y

/-- What a piece that reads by p came to. -/
def Out {α : Type} (p : Pr α) (t : St) (x : α) (t' : St) : Prop:=match t with
 | .inl f=>t' = .inl f
 | .inr u=>match p u with
  | .inl f=>t' = .inl f
  | .inr (y,u')=>x = y∧t' = .inr u'

theorem Sc.reader {w : World} {sb r d : Nat} {t : St} (h : Sc w sb r d t) : ∃ s,RdE w r d s∧s.1.length≤262144∧(∀ u,t = .inr u→s = (u.1,u.2,0))∧∀ m w',RdE w' r d (rTake s m).2→Only [r] w w'→Sc w' sb r d (tAfter m t):=by
 have key : ∀ {bp : Option Addr} {s : List UInt8 × Nat × Int} (h : Sc0 w sb r d bp s) (m : Nat) (w' : World),RdE w' r d (rTake s m).2→Only [r] w w'→Sc0 w' sb r d bp (rTake s m).2:=by
  intro bp s h m w' hr ho
  have hl : sb < w.heap.size:=World.block_lt_of_cell? w _ h.c0
  have hne:=h.ne
  refine ⟨(ho.cell (p:=⟨sb,0,none⟩) hl (by simpa using hne)).trans h.c0,(ho.cell (p:=⟨sb,1,none⟩) hl (by simpa using hne)).trans h.c1,(ho.frozen (p:=⟨sb,1,none⟩) hl (by simpa using hne)).trans h.f1,hr,h.ne,h.nd,h.nr,Nat.lt_of_lt_of_le h.dl ho.size,?_⟩
  have hf:=h.few
  unfold rTake
  split
  ·split
   ·exact hf
   ·simp only [List.length_drop]
    omega
  ·exact hf
 cases h with
 | fine h=>
  rename_i l n
  refine ⟨(l,n,0),h.rd,h.few,fun u hu=>by cases hu; rfl,fun m w' hr ho=>?_⟩
  have k:=key h m w' hr ho
  unfold tAfter pTake
  simp only [rTake] at k ⊢
  by_cases hm : l.length < m
  ·rw [if_pos hm]
   rw [if_pos trivial,if_pos hm] at k
   exact .cut (by decide) k
  ·rw [if_neg hm]
   rw [if_pos trivial,if_neg hm] at k
   exact .fine k
 | cut he h=>
  rename_i l n e
  refine ⟨(l,n,e),h.rd,h.few,(fun u hu=>by cases hu),fun m w' hr ho=>?_⟩
  have k:=key h m w' hr ho
  have e1 : rTake (l,n,e) m = ([],l,n,e):=by unfold rTake; rw [if_neg he]
  rw [e1] at k
  exact .cut he k
 | bad he h hq hn=>
  rename_i s q a e
  refine ⟨s,h.rd,h.few,(fun u hu=>by cases hu),fun m w' hr ho=>?_⟩
  exact .bad he (key h m w' hr ho) (hq.only ho (by simpa using hn.2)) hn

/-- What Out says of one take. -/
theorem out_take {α : Type} {m : Nat} {t : St} {s : List UInt8 × Nat × Int} (hs : ∀ u,t = .inr u→s = (u.1,u.2,0)) (f : List UInt8→α) : Out (pBind (pTake m) fun l=>pDone (f l)) t (f (rTake s m).1) (tAfter m t):=by
 unfold Out tAfter
 cases t with
 | inl g=>rfl
 | inr u=>
  obtain rfl:=hs u rfl
  obtain ⟨l,n⟩:=u
  simp only [pBind,pTake,rTake,pDone]
  by_cases hm : l.length < m
  ·simp [hm]
  ·simp [hm]

theorem sc_u1 {w : World} {sb r d : Nat} {t : St} (h : Sc w sb r d t) :
  Calls Tryz.prog 80 #[.pointer (some ⟨r,0,none⟩)] w fun e w'=>∃ (n : Nat) (t' : St),e = .returned (.int .i64 (n : Int))∧n < 256∧Sc w' sb r d t'∧Out (pU 1) t n t'∧Only [r] w w':=by
 obtain ⟨s,hr,hl,hs,hk⟩:=h.reader
 refine (u1_any hr).mono ?_
 rintro e w' ⟨rfl,hr',ho⟩
 exact ⟨_,_,rfl,by have:=be_lt_of (rTake s 1).1 1 (rTake_le s 1); omega,hk 1 w' hr' ho,out_take hs be,ho⟩

theorem sc_u2 {w : World} {sb r d : Nat} {t : St} (h : Sc w sb r d t) :
  Calls Tryz.prog 77 #[.pointer (some ⟨r,0,none⟩)] w fun e w'=>∃ (n : Nat) (t' : St),e = .returned (.int .i64 (n : Int))∧n < 65536∧Sc w' sb r d t'∧Out (pU 2) t n t'∧Only [r] w w':=by
 obtain ⟨s,hr,hl,hs,hk⟩:=h.reader
 refine (u2_any hr).mono ?_
 rintro e w' ⟨rfl,hr',ho⟩
 exact ⟨_,_,rfl,by have:=be_lt_of (rTake s 2).1 2 (rTake_le s 2); omega,hk 2 w' hr' ho,out_take hs be,ho⟩

theorem sc_n8 {w : World} {sb r d : Nat} {t : St} (h : Sc w sb r d t) :
  Calls Tryz.prog 139 #[.pointer (some ⟨r,0,none⟩)] w fun e w'=>∃ (n : Int) (t' : St),e = .returned (.int .i64 n)∧(-9223372036854775808≤n∧n≤9223372036854775807)∧Sc w' sb r d t'∧Out pN8 t n t'∧Only [r] w w':=by
 obtain ⟨s,hr,hl,hs,hk⟩:=h.reader
 refine (n8_any hr).mono ?_
 rintro e w' ⟨rfl,hr',ho⟩
 exact ⟨_,_,rfl,by simp only [wrap64]; omega,hk 8 w' hr' ho,out_take hs (fun l=>wrap64 (be l : Int)),ho⟩

theorem sc_text {w : World} {sb r d : Nat} {t : St} (h : Sc w sb r d t) :
  Calls Tryz.prog 138 #[.pointer (some ⟨r,0,none⟩)] w fun e w'=>∃ (x : List UInt8) (t' : St),e = .returned (.string (str x))∧x.length≤262144∧Sc w' sb r d t'∧Out pText t x t'∧Only [r] w w':=by
 obtain ⟨s,hr,hl,hs,hk⟩:=h.reader
 refine (text_any hr).mono ?_
 rintro e w' ⟨rfl,hr',ho⟩
 refine ⟨_,_,rfl,?_,hk (textLen s.1) w' hr' ho,?_,ho⟩
 ·have:=rTake_fst_le s (textLen s.1)
  simp only [rText,List.length_tail]
  omega
 ·have:=out_take (m:=textLen s.1) hs (fun l=>l.tail)
  unfold Out at this ⊢
  cases t with
  | inl f=>exact this
  | inr u=>
   obtain rfl:=hs u rfl
   exact this

theorem sc_bytes {w : World} {sb r d : Nat} {t : St} (h : Sc w sb r d t) (m : Nat) :
  Calls Tryz.prog 74 #[.pointer (some ⟨r,0,none⟩),.int .i64 (m : Int)] w fun e w'=>∃ (x : List UInt8) (t' : St) (ao : Option Addr) (cap : Nat),e = .returned (.slice ao x.length cap)∧x.length≤262144∧w'.ownsRow w.heap.size 5 1 (.slice ao x.length cap) x.length (bcs x)∧Sc w' sb r d t'∧Out (pTake m) t x t'∧Only [r] w w':=by
 obtain ⟨s,hr,hl,hs,hk⟩:=h.reader
 have e0 : rBytes s (m : Int) = rTake s m:=by unfold rBytes; rw [if_neg (by omega),Int.toNat_natCast]
 have H:=bytes_any hr (m : Int) (by omega)
 rw [e0] at H
 refine H.mono ?_
 rintro e w' ⟨ao,cap,rfl,hown,hr',ho⟩
 refine ⟨_,_,ao,cap,rfl,?_,hown,hk m w' hr' ho,?_,ho⟩
 ·have:=rTake_fst_le s m
  omega
 ·have:=out_take (m:=m) hs (fun l=>l)
  unfold Out at this ⊢
  cases t with
  | inl f=>exact this
  | inr u=>
   simp only [pBind,pDone] at this
   cases hp : pTake m u with
   | inl f=>
    simp only [hp] at this ⊢
    exact this
   | inr z=>
    simp only [hp] at this ⊢
    exact this

/-- How much was read, where nothing is wrong. -/
theorem sc_at {w : World} {sb r d : Nat} {t : St} (h : Sc w sb r d t) :
  Calls Tryz.prog 83 #[.pointer (some ⟨r,0,none⟩)] w fun e w'=>∃ n : Nat,e = .returned (.int .i64 (n : Int))∧(∀ u,t = .inr u→n = u.2)∧w = w':=by
 obtain ⟨s,hr,hl,hs,hk⟩:=h.reader
 refine (at_any hr).mono ?_
 rintro e w' ⟨rfl,rfl⟩
 exact ⟨_,rfl,fun u hu=>by rw [hs u hu],rfl⟩

theorem sc_left {w : World} {sb r d : Nat} {t : St} (h : Sc w sb r d t) :
  Calls Tryz.prog 82 #[.pointer (some ⟨r,0,none⟩)] w fun e w'=>∃ n : Nat,e = .returned (.int .i64 (n : Int))∧n≤262144∧(∀ u,t = .inr u→n = u.1.length)∧w = w':=by
 obtain ⟨s,hr,hl,hs,hk⟩:=h.reader
 refine (left_any hr).mono ?_
 rintro e w' ⟨rfl,rfl⟩
 exact ⟨_,rfl,hl,fun u hu=>by rw [hs u hu],rfl⟩

def isFine (t : St) : Bool:=match t with
 | .inl _=>false
 | .inr _=>true

set_option maxHeartbeats 1000000 in
theorem fine_src {w : World} {sb r d : Nat} {t : St} (h : Sc w sb r d t) :
  Calls Tryz.prog 84 #[.pointer (some ⟨sb,0,none⟩)] w fun e w'=>e = .returned (.bool (isFine t))∧w = w':=by
 cases h with
 | fine h=>
  have HE:=hid (err_any h.rd)
  obtain ⟨c0,c1,_⟩:=h
  go_enter Tryz.func84,Tryz.ntmps84
  go_wp2_with (go_at_call 85; refine HE.out.mono ?_; rintro e w' ⟨rfl,rfl⟩)
  go_ret
  exact ⟨rfl,rfl⟩
 | cut he h=>
  rename_i l n e
  have HE:=hid (err_any h.rd)
  obtain ⟨c0,c1,_⟩:=h
  have he' : (e == 0) = false:=by simpa using he
  go_enter Tryz.func84,Tryz.ntmps84
  go_wp2_with (go_at_call 85; refine HE.out.mono ?_; rintro e w' ⟨rfl,rfl⟩)
  go_ret
  exact ⟨rfl,rfl⟩
 | bad he h hq hn=>
  obtain ⟨c0,c1,_⟩:=h
  go_enter Tryz.func84,Tryz.ntmps84
  go_wp2_with fail
  go_ret
  exact ⟨rfl,rfl⟩

/-- What refuse makes of where a source stands. -/
def tRefuse (a e : Int) (t : St) : St:=match t with
 | .inl f=>.inl f
 | .inr _=>.inl (a,e)

set_option maxHeartbeats 1000000 in
theorem refuse_src {w : World} {sb r d : Nat} {t : St} (h : Sc w sb r d t) (a e : Int) (he : e≠0) :
  Calls Tryz.prog 75 #[.pointer (some ⟨sb,0,none⟩),.int .i64 a,.int .i64 e] w fun ev w'=>ev = .returned (.tuple #[])∧Sc w' sb r d (tRefuse a e t)∧Only [sb] w w':=by
 have HF:=hid (fine_src h)
 have hl:=h.lt
 cases t with
 | inl f=>
  have H:=hid h
  clear h
  go_enter Tryz.func75,Tryz.ntmps75
  go_wp2_with (go_at_call 84; refine HF.out.mono ?_; rintro e w' ⟨rfl,rfl⟩)
  go_end0
  exact ⟨rfl,H.out,Only.refl _ _⟩
 | inr u=>
  cases h with
  | fine h=>
   have H:=hid h
   obtain ⟨c0,c1,f1,_⟩:=h
   have c1':=fun o=>cell_alloc o c1
   have f1' : ∀ o,(w.alloc o).frozen? ⟨sb,1,none⟩ = false:=fun o=>(frozen_alloc o hl.1).trans f1
   go_enter Tryz.func75,Tryz.ntmps75
   go_wp2_with (go_at_call 84; refine HF.out.mono ?_; rintro e w' ⟨rfl,rfl⟩)
   go_end0
   have hne:=H.out.ne
   have hnd:=H.out.nd
   have oS : Only [sb] w (w.setCell ⟨sb,1,none⟩ (.pointer (some ⟨w.heap.size,0,none⟩))):=(Only.refl [sb] w).setCell (.inl (by simp)) _
   have h0 : Sc0 (w.setCell ⟨sb,1,none⟩ (.pointer (some ⟨w.heap.size,0,none⟩))) sb r d (some ⟨w.heap.size,0,none⟩) _:=
    ⟨by rw [cell_setCell_ne _ _ (by simp)]; exact H.out.c0,cell_setCell_same _ _ H.out.c1,(frozen_setCell _ _ _ _).trans H.out.f1,H.out.rd.only oS (by simp; omega) (by simp; omega),hne,hnd,H.out.nr,by simpa [World.setCell] using H.out.dl,H.out.few⟩
   have hb:=bad_new (w.setCell ⟨sb,1,none⟩ (.pointer (some ⟨w.heap.size,0,none⟩))) 0 0 a e
   have hsz : (w.setCell ⟨sb,1,none⟩ (.pointer (some ⟨w.heap.size,0,none⟩))).heap.size = w.heap.size:=by simp [World.setCell]
   rw [hsz] at hb
   exact ⟨rfl,.bad he (h0.only ((Only.refl [] _).alloc _) (by simp) (by simp) (by simp)) hb ⟨by omega,by omega⟩,oS.alloc _⟩


/-- The ten cells of a method's block. -/
structure Me10 (w : World) (b : Nat) (v0 v1 v2 v3 v4 v5 v6 v7 v8 v9 : Value) : Prop where
 c0 : w.cell? ⟨b,0,none⟩ = some v0
 c1 : w.cell? ⟨b,1,none⟩ = some v1
 c2 : w.cell? ⟨b,2,none⟩ = some v2
 c3 : w.cell? ⟨b,3,none⟩ = some v3
 c4 : w.cell? ⟨b,4,none⟩ = some v4
 c5 : w.cell? ⟨b,5,none⟩ = some v5
 c6 : w.cell? ⟨b,6,none⟩ = some v6
 c7 : w.cell? ⟨b,7,none⟩ = some v7
 c8 : w.cell? ⟨b,8,none⟩ = some v8
 c9 : w.cell? ⟨b,9,none⟩ = some v9
 f0 : w.frozen? ⟨b,0,none⟩ = false
 f1 : w.frozen? ⟨b,1,none⟩ = false
 f2 : w.frozen? ⟨b,2,none⟩ = false
 f3 : w.frozen? ⟨b,3,none⟩ = false
 f4 : w.frozen? ⟨b,4,none⟩ = false
 f5 : w.frozen? ⟨b,5,none⟩ = false
 f6 : w.frozen? ⟨b,6,none⟩ = false
 f7 : w.frozen? ⟨b,7,none⟩ = false
 f8 : w.frozen? ⟨b,8,none⟩ = false
 f9 : w.frozen? ⟨b,9,none⟩ = false

theorem Me10.only {w w' : World} {S : List Nat} {b : Nat} {v0 v1 v2 v3 v4 v5 v6 v7 v8 v9 : Value} (h : Me10 w b v0 v1 v2 v3 v4 v5 v6 v7 v8 v9) (ho : Only S w w') (hb : b ∉ S) : Me10 w' b v0 v1 v2 v3 v4 v5 v6 v7 v8 v9:=by
 have hl:=World.block_lt_of_cell? w _ h.c0
 exact ⟨(ho.cell (p:=⟨b,0,none⟩) hl hb).trans h.c0,(ho.cell (p:=⟨b,1,none⟩) hl hb).trans h.c1,(ho.cell (p:=⟨b,2,none⟩) hl hb).trans h.c2,(ho.cell (p:=⟨b,3,none⟩) hl hb).trans h.c3,(ho.cell (p:=⟨b,4,none⟩) hl hb).trans h.c4,(ho.cell (p:=⟨b,5,none⟩) hl hb).trans h.c5,(ho.cell (p:=⟨b,6,none⟩) hl hb).trans h.c6,(ho.cell (p:=⟨b,7,none⟩) hl hb).trans h.c7,(ho.cell (p:=⟨b,8,none⟩) hl hb).trans h.c8,(ho.cell (p:=⟨b,9,none⟩) hl hb).trans h.c9,
  (ho.frozen (p:=⟨b,0,none⟩) hl hb).trans h.f0,(ho.frozen (p:=⟨b,1,none⟩) hl hb).trans h.f1,(ho.frozen (p:=⟨b,2,none⟩) hl hb).trans h.f2,(ho.frozen (p:=⟨b,3,none⟩) hl hb).trans h.f3,(ho.frozen (p:=⟨b,4,none⟩) hl hb).trans h.f4,(ho.frozen (p:=⟨b,5,none⟩) hl hb).trans h.f5,(ho.frozen (p:=⟨b,6,none⟩) hl hb).trans h.f6,(ho.frozen (p:=⟨b,7,none⟩) hl hb).trans h.f7,(ho.frozen (p:=⟨b,8,none⟩) hl hb).trans h.f8,(ho.frozen (p:=⟨b,9,none⟩) hl hb).trans h.f9⟩

theorem me10_new (w : World) (v0 v1 v2 v3 v4 v5 v6 v7 v8 v9 : Value) (t : TypeId) : Me10 (w.alloc (.cells #[v0,v1,v2,v3,v4,v5,v6,v7,v8,v9] t)) w.heap.size v0 v1 v2 v3 v4 v5 v6 v7 v8 v9:=
 ⟨by rw [cell_new]; rfl,by rw [cell_new]; rfl,by rw [cell_new]; rfl,by rw [cell_new]; rfl,by rw [cell_new]; rfl,by rw [cell_new]; rfl,by rw [cell_new]; rfl,by rw [cell_new]; rfl,by rw [cell_new]; rfl,by rw [cell_new]; rfl,frozen_new _ _ _ _,frozen_new _ _ _ _,frozen_new _ _ _ _,frozen_new _ _ _ _,frozen_new _ _ _ _,frozen_new _ _ _ _,frozen_new _ _ _ _,frozen_new _ _ _ _,frozen_new _ _ _ _,frozen_new _ _ _ _⟩

theorem Me10.put0 {w : World} {b : Nat} {v0 v1 v2 v3 v4 v5 v6 v7 v8 v9 : Value} (h : Me10 w b v0 v1 v2 v3 v4 v5 v6 v7 v8 v9) (u : Value) : Me10 (w.setCell ⟨b,0,none⟩ u) b u v1 v2 v3 v4 v5 v6 v7 v8 v9:=
 ⟨cell_setCell_same _ _ h.c0,(cell_setCell_ne _ _ (by simp)).trans h.c1,(cell_setCell_ne _ _ (by simp)).trans h.c2,(cell_setCell_ne _ _ (by simp)).trans h.c3,(cell_setCell_ne _ _ (by simp)).trans h.c4,(cell_setCell_ne _ _ (by simp)).trans h.c5,(cell_setCell_ne _ _ (by simp)).trans h.c6,(cell_setCell_ne _ _ (by simp)).trans h.c7,(cell_setCell_ne _ _ (by simp)).trans h.c8,(cell_setCell_ne _ _ (by simp)).trans h.c9,(frozen_setCell _ _ _ _).trans h.f0,(frozen_setCell _ _ _ _).trans h.f1,(frozen_setCell _ _ _ _).trans h.f2,(frozen_setCell _ _ _ _).trans h.f3,(frozen_setCell _ _ _ _).trans h.f4,(frozen_setCell _ _ _ _).trans h.f5,(frozen_setCell _ _ _ _).trans h.f6,(frozen_setCell _ _ _ _).trans h.f7,(frozen_setCell _ _ _ _).trans h.f8,(frozen_setCell _ _ _ _).trans h.f9⟩

theorem Me10.put1 {w : World} {b : Nat} {v0 v1 v2 v3 v4 v5 v6 v7 v8 v9 : Value} (h : Me10 w b v0 v1 v2 v3 v4 v5 v6 v7 v8 v9) (u : Value) : Me10 (w.setCell ⟨b,1,none⟩ u) b v0 u v2 v3 v4 v5 v6 v7 v8 v9:=
 ⟨(cell_setCell_ne _ _ (by simp)).trans h.c0,cell_setCell_same _ _ h.c1,(cell_setCell_ne _ _ (by simp)).trans h.c2,(cell_setCell_ne _ _ (by simp)).trans h.c3,(cell_setCell_ne _ _ (by simp)).trans h.c4,(cell_setCell_ne _ _ (by simp)).trans h.c5,(cell_setCell_ne _ _ (by simp)).trans h.c6,(cell_setCell_ne _ _ (by simp)).trans h.c7,(cell_setCell_ne _ _ (by simp)).trans h.c8,(cell_setCell_ne _ _ (by simp)).trans h.c9,(frozen_setCell _ _ _ _).trans h.f0,(frozen_setCell _ _ _ _).trans h.f1,(frozen_setCell _ _ _ _).trans h.f2,(frozen_setCell _ _ _ _).trans h.f3,(frozen_setCell _ _ _ _).trans h.f4,(frozen_setCell _ _ _ _).trans h.f5,(frozen_setCell _ _ _ _).trans h.f6,(frozen_setCell _ _ _ _).trans h.f7,(frozen_setCell _ _ _ _).trans h.f8,(frozen_setCell _ _ _ _).trans h.f9⟩

theorem Me10.put2 {w : World} {b : Nat} {v0 v1 v2 v3 v4 v5 v6 v7 v8 v9 : Value} (h : Me10 w b v0 v1 v2 v3 v4 v5 v6 v7 v8 v9) (u : Value) : Me10 (w.setCell ⟨b,2,none⟩ u) b v0 v1 u v3 v4 v5 v6 v7 v8 v9:=
 ⟨(cell_setCell_ne _ _ (by simp)).trans h.c0,(cell_setCell_ne _ _ (by simp)).trans h.c1,cell_setCell_same _ _ h.c2,(cell_setCell_ne _ _ (by simp)).trans h.c3,(cell_setCell_ne _ _ (by simp)).trans h.c4,(cell_setCell_ne _ _ (by simp)).trans h.c5,(cell_setCell_ne _ _ (by simp)).trans h.c6,(cell_setCell_ne _ _ (by simp)).trans h.c7,(cell_setCell_ne _ _ (by simp)).trans h.c8,(cell_setCell_ne _ _ (by simp)).trans h.c9,(frozen_setCell _ _ _ _).trans h.f0,(frozen_setCell _ _ _ _).trans h.f1,(frozen_setCell _ _ _ _).trans h.f2,(frozen_setCell _ _ _ _).trans h.f3,(frozen_setCell _ _ _ _).trans h.f4,(frozen_setCell _ _ _ _).trans h.f5,(frozen_setCell _ _ _ _).trans h.f6,(frozen_setCell _ _ _ _).trans h.f7,(frozen_setCell _ _ _ _).trans h.f8,(frozen_setCell _ _ _ _).trans h.f9⟩

theorem Me10.put3 {w : World} {b : Nat} {v0 v1 v2 v3 v4 v5 v6 v7 v8 v9 : Value} (h : Me10 w b v0 v1 v2 v3 v4 v5 v6 v7 v8 v9) (u : Value) : Me10 (w.setCell ⟨b,3,none⟩ u) b v0 v1 v2 u v4 v5 v6 v7 v8 v9:=
 ⟨(cell_setCell_ne _ _ (by simp)).trans h.c0,(cell_setCell_ne _ _ (by simp)).trans h.c1,(cell_setCell_ne _ _ (by simp)).trans h.c2,cell_setCell_same _ _ h.c3,(cell_setCell_ne _ _ (by simp)).trans h.c4,(cell_setCell_ne _ _ (by simp)).trans h.c5,(cell_setCell_ne _ _ (by simp)).trans h.c6,(cell_setCell_ne _ _ (by simp)).trans h.c7,(cell_setCell_ne _ _ (by simp)).trans h.c8,(cell_setCell_ne _ _ (by simp)).trans h.c9,(frozen_setCell _ _ _ _).trans h.f0,(frozen_setCell _ _ _ _).trans h.f1,(frozen_setCell _ _ _ _).trans h.f2,(frozen_setCell _ _ _ _).trans h.f3,(frozen_setCell _ _ _ _).trans h.f4,(frozen_setCell _ _ _ _).trans h.f5,(frozen_setCell _ _ _ _).trans h.f6,(frozen_setCell _ _ _ _).trans h.f7,(frozen_setCell _ _ _ _).trans h.f8,(frozen_setCell _ _ _ _).trans h.f9⟩

theorem Me10.put4 {w : World} {b : Nat} {v0 v1 v2 v3 v4 v5 v6 v7 v8 v9 : Value} (h : Me10 w b v0 v1 v2 v3 v4 v5 v6 v7 v8 v9) (u : Value) : Me10 (w.setCell ⟨b,4,none⟩ u) b v0 v1 v2 v3 u v5 v6 v7 v8 v9:=
 ⟨(cell_setCell_ne _ _ (by simp)).trans h.c0,(cell_setCell_ne _ _ (by simp)).trans h.c1,(cell_setCell_ne _ _ (by simp)).trans h.c2,(cell_setCell_ne _ _ (by simp)).trans h.c3,cell_setCell_same _ _ h.c4,(cell_setCell_ne _ _ (by simp)).trans h.c5,(cell_setCell_ne _ _ (by simp)).trans h.c6,(cell_setCell_ne _ _ (by simp)).trans h.c7,(cell_setCell_ne _ _ (by simp)).trans h.c8,(cell_setCell_ne _ _ (by simp)).trans h.c9,(frozen_setCell _ _ _ _).trans h.f0,(frozen_setCell _ _ _ _).trans h.f1,(frozen_setCell _ _ _ _).trans h.f2,(frozen_setCell _ _ _ _).trans h.f3,(frozen_setCell _ _ _ _).trans h.f4,(frozen_setCell _ _ _ _).trans h.f5,(frozen_setCell _ _ _ _).trans h.f6,(frozen_setCell _ _ _ _).trans h.f7,(frozen_setCell _ _ _ _).trans h.f8,(frozen_setCell _ _ _ _).trans h.f9⟩

theorem Me10.put5 {w : World} {b : Nat} {v0 v1 v2 v3 v4 v5 v6 v7 v8 v9 : Value} (h : Me10 w b v0 v1 v2 v3 v4 v5 v6 v7 v8 v9) (u : Value) : Me10 (w.setCell ⟨b,5,none⟩ u) b v0 v1 v2 v3 v4 u v6 v7 v8 v9:=
 ⟨(cell_setCell_ne _ _ (by simp)).trans h.c0,(cell_setCell_ne _ _ (by simp)).trans h.c1,(cell_setCell_ne _ _ (by simp)).trans h.c2,(cell_setCell_ne _ _ (by simp)).trans h.c3,(cell_setCell_ne _ _ (by simp)).trans h.c4,cell_setCell_same _ _ h.c5,(cell_setCell_ne _ _ (by simp)).trans h.c6,(cell_setCell_ne _ _ (by simp)).trans h.c7,(cell_setCell_ne _ _ (by simp)).trans h.c8,(cell_setCell_ne _ _ (by simp)).trans h.c9,(frozen_setCell _ _ _ _).trans h.f0,(frozen_setCell _ _ _ _).trans h.f1,(frozen_setCell _ _ _ _).trans h.f2,(frozen_setCell _ _ _ _).trans h.f3,(frozen_setCell _ _ _ _).trans h.f4,(frozen_setCell _ _ _ _).trans h.f5,(frozen_setCell _ _ _ _).trans h.f6,(frozen_setCell _ _ _ _).trans h.f7,(frozen_setCell _ _ _ _).trans h.f8,(frozen_setCell _ _ _ _).trans h.f9⟩

theorem Me10.put6 {w : World} {b : Nat} {v0 v1 v2 v3 v4 v5 v6 v7 v8 v9 : Value} (h : Me10 w b v0 v1 v2 v3 v4 v5 v6 v7 v8 v9) (u : Value) : Me10 (w.setCell ⟨b,6,none⟩ u) b v0 v1 v2 v3 v4 v5 u v7 v8 v9:=
 ⟨(cell_setCell_ne _ _ (by simp)).trans h.c0,(cell_setCell_ne _ _ (by simp)).trans h.c1,(cell_setCell_ne _ _ (by simp)).trans h.c2,(cell_setCell_ne _ _ (by simp)).trans h.c3,(cell_setCell_ne _ _ (by simp)).trans h.c4,(cell_setCell_ne _ _ (by simp)).trans h.c5,cell_setCell_same _ _ h.c6,(cell_setCell_ne _ _ (by simp)).trans h.c7,(cell_setCell_ne _ _ (by simp)).trans h.c8,(cell_setCell_ne _ _ (by simp)).trans h.c9,(frozen_setCell _ _ _ _).trans h.f0,(frozen_setCell _ _ _ _).trans h.f1,(frozen_setCell _ _ _ _).trans h.f2,(frozen_setCell _ _ _ _).trans h.f3,(frozen_setCell _ _ _ _).trans h.f4,(frozen_setCell _ _ _ _).trans h.f5,(frozen_setCell _ _ _ _).trans h.f6,(frozen_setCell _ _ _ _).trans h.f7,(frozen_setCell _ _ _ _).trans h.f8,(frozen_setCell _ _ _ _).trans h.f9⟩

theorem Me10.put7 {w : World} {b : Nat} {v0 v1 v2 v3 v4 v5 v6 v7 v8 v9 : Value} (h : Me10 w b v0 v1 v2 v3 v4 v5 v6 v7 v8 v9) (u : Value) : Me10 (w.setCell ⟨b,7,none⟩ u) b v0 v1 v2 v3 v4 v5 v6 u v8 v9:=
 ⟨(cell_setCell_ne _ _ (by simp)).trans h.c0,(cell_setCell_ne _ _ (by simp)).trans h.c1,(cell_setCell_ne _ _ (by simp)).trans h.c2,(cell_setCell_ne _ _ (by simp)).trans h.c3,(cell_setCell_ne _ _ (by simp)).trans h.c4,(cell_setCell_ne _ _ (by simp)).trans h.c5,(cell_setCell_ne _ _ (by simp)).trans h.c6,cell_setCell_same _ _ h.c7,(cell_setCell_ne _ _ (by simp)).trans h.c8,(cell_setCell_ne _ _ (by simp)).trans h.c9,(frozen_setCell _ _ _ _).trans h.f0,(frozen_setCell _ _ _ _).trans h.f1,(frozen_setCell _ _ _ _).trans h.f2,(frozen_setCell _ _ _ _).trans h.f3,(frozen_setCell _ _ _ _).trans h.f4,(frozen_setCell _ _ _ _).trans h.f5,(frozen_setCell _ _ _ _).trans h.f6,(frozen_setCell _ _ _ _).trans h.f7,(frozen_setCell _ _ _ _).trans h.f8,(frozen_setCell _ _ _ _).trans h.f9⟩

theorem Me10.put8 {w : World} {b : Nat} {v0 v1 v2 v3 v4 v5 v6 v7 v8 v9 : Value} (h : Me10 w b v0 v1 v2 v3 v4 v5 v6 v7 v8 v9) (u : Value) : Me10 (w.setCell ⟨b,8,none⟩ u) b v0 v1 v2 v3 v4 v5 v6 v7 u v9:=
 ⟨(cell_setCell_ne _ _ (by simp)).trans h.c0,(cell_setCell_ne _ _ (by simp)).trans h.c1,(cell_setCell_ne _ _ (by simp)).trans h.c2,(cell_setCell_ne _ _ (by simp)).trans h.c3,(cell_setCell_ne _ _ (by simp)).trans h.c4,(cell_setCell_ne _ _ (by simp)).trans h.c5,(cell_setCell_ne _ _ (by simp)).trans h.c6,(cell_setCell_ne _ _ (by simp)).trans h.c7,cell_setCell_same _ _ h.c8,(cell_setCell_ne _ _ (by simp)).trans h.c9,(frozen_setCell _ _ _ _).trans h.f0,(frozen_setCell _ _ _ _).trans h.f1,(frozen_setCell _ _ _ _).trans h.f2,(frozen_setCell _ _ _ _).trans h.f3,(frozen_setCell _ _ _ _).trans h.f4,(frozen_setCell _ _ _ _).trans h.f5,(frozen_setCell _ _ _ _).trans h.f6,(frozen_setCell _ _ _ _).trans h.f7,(frozen_setCell _ _ _ _).trans h.f8,(frozen_setCell _ _ _ _).trans h.f9⟩

theorem Me10.put9 {w : World} {b : Nat} {v0 v1 v2 v3 v4 v5 v6 v7 v8 v9 : Value} (h : Me10 w b v0 v1 v2 v3 v4 v5 v6 v7 v8 v9) (u : Value) : Me10 (w.setCell ⟨b,9,none⟩ u) b v0 v1 v2 v3 v4 v5 v6 v7 v8 u:=
 ⟨(cell_setCell_ne _ _ (by simp)).trans h.c0,(cell_setCell_ne _ _ (by simp)).trans h.c1,(cell_setCell_ne _ _ (by simp)).trans h.c2,(cell_setCell_ne _ _ (by simp)).trans h.c3,(cell_setCell_ne _ _ (by simp)).trans h.c4,(cell_setCell_ne _ _ (by simp)).trans h.c5,(cell_setCell_ne _ _ (by simp)).trans h.c6,(cell_setCell_ne _ _ (by simp)).trans h.c7,(cell_setCell_ne _ _ (by simp)).trans h.c8,cell_setCell_same _ _ h.c9,(frozen_setCell _ _ _ _).trans h.f0,(frozen_setCell _ _ _ _).trans h.f1,(frozen_setCell _ _ _ _).trans h.f2,(frozen_setCell _ _ _ _).trans h.f3,(frozen_setCell _ _ _ _).trans h.f4,(frozen_setCell _ _ _ _).trans h.f5,(frozen_setCell _ _ _ _).trans h.f6,(frozen_setCell _ _ _ _).trans h.f7,(frozen_setCell _ _ _ _).trans h.f8,(frozen_setCell _ _ _ _).trans h.f9⟩

theorem Me10.put {w : World} {b : Nat} {v0 v1 v2 v3 v4 v5 v6 v7 v8 v9 : Value} (h : Me10 w b v0 v1 v2 v3 v4 v5 v6 v7 v8 v9) (u0 u1 u2 u3 u4 u5 u6 u7 u8 u9 : Value) : Me10 ((((((((((w.setCell ⟨b,0,none⟩ u0).setCell ⟨b,1,none⟩ u1).setCell ⟨b,2,none⟩ u2).setCell ⟨b,3,none⟩ u3).setCell ⟨b,4,none⟩ u4).setCell ⟨b,5,none⟩ u5).setCell ⟨b,6,none⟩ u6).setCell ⟨b,7,none⟩ u7).setCell ⟨b,8,none⟩ u8).setCell ⟨b,9,none⟩ u9) b u0 u1 u2 u3 u4 u5 u6 u7 u8 u9∧Only [b] w ((((((((((w.setCell ⟨b,0,none⟩ u0).setCell ⟨b,1,none⟩ u1).setCell ⟨b,2,none⟩ u2).setCell ⟨b,3,none⟩ u3).setCell ⟨b,4,none⟩ u4).setCell ⟨b,5,none⟩ u5).setCell ⟨b,6,none⟩ u6).setCell ⟨b,7,none⟩ u7).setCell ⟨b,8,none⟩ u8).setCell ⟨b,9,none⟩ u9):=
 ⟨((((((((((h.put0 _).put1 _).put2 _).put3 _).put4 _).put5 _).put6 _).put7 _).put8 _).put9 _),(((((((((((Only.refl [b] w).setCell (.inl (by simp)) _).setCell (.inl (by simp)) _).setCell (.inl (by simp)) _).setCell (.inl (by simp)) _).setCell (.inl (by simp)) _).setCell (.inl (by simp)) _).setCell (.inl (by simp)) _).setCell (.inl (by simp)) _).setCell (.inl (by simp)) _).setCell (.inl (by simp)) _)⟩


theorem out_bind {α β : Type} {p : Pr α} {f : α→Pr β} {t t1 t2 : St} {x : α} {y : β} (h1 : Out p t x t1) (h2 : Out (f x) t1 y t2) : Out (pBind p f) t y t2:=by
 unfold Out at h1 h2 ⊢
 cases t with
 | inl g=>
  simp only at h1
  subst h1
  exact h2
 | inr u=>
  simp only [pBind] at h1 ⊢
  cases hp : p u with
  | inl g=>
   simp only [hp] at h1 ⊢
   subst h1
   exact h2
  | inr z=>
   obtain ⟨x',u'⟩:=z
   simp only [hp] at h1 ⊢
   obtain ⟨rfl,rfl⟩:=h1
   exact h2

theorem out_done {α : Type} (x : α) (t : St) : Out (pDone x) t x t:=by
 unfold Out pDone
 cases t with
 | inl g=>rfl
 | inr u=>exact ⟨rfl,rfl⟩

/-- What is written into a block in which something else than a number lies is not what was wrong. -/
theorem Sc.other {w w' : World} {sb r d rv : Nat} {t : St} (h : Sc w sb r d t) {u : Value} (hu : ∀ x,u≠.int .i64 x) (hc : (w.cell? ⟨rv,0,none⟩ = some u)∨(w.cell? ⟨rv,1,none⟩ = some u)∨(w.cell? ⟨rv,3,none⟩ = some u)) (hne : rv≠sb∧rv≠r∧rv≠d) (ho : Only [rv] w w') : Sc w' sb r d t:=by
 have h1 : sb ∉ [rv]:=by simp; omega
 have h2 : r ∉ [rv]:=by simp; omega
 have h3 : d ∉ [rv]:=by simp; omega
 cases h with
 | fine h=>exact .fine (h.only ho h1 h2 h3)
 | cut he h=>exact .cut he (h.only ho h1 h2 h3)
 | bad he h hq hn=>
  refine .bad he (h.only ho h1 h2 h3) (hq.only ho (fun hm=>?_)) hn
  simp at hm
  subst hm
  rcases hc with hc | hc | hc
  ·rw [hq.c0] at hc
   exact hu _ (Option.some.inj hc).symm
  ·rw [hq.c1] at hc
   exact hu _ (Option.some.inj hc).symm
  ·rw [hq.c3] at hc
   exact hu _ (Option.some.inj hc).symm

theorem sc_textO {w : World} {sb r d : Nat} {t : St} (h : Sc w sb r d t) :
  Calls Tryz.prog 138 #[.pointer (some ⟨r,0,none⟩)] w fun e w'=>∃ (x : List UInt8) (t' : St),e = .returned (.string (str x))∧x.length≤262144∧Sc w' sb r d t'∧Out pText t x t'∧Only [sb,r] w w':=
 (sc_text h).mono fun _ _ h=>by
  obtain ⟨x,t',h1,h2,h3,h4,h5⟩:=h
  exact ⟨x,t',h1,h2,h3,h4,h5.mono (by simp)⟩

/-- Whatever lies in a cell. -/
def Gv (rv : Nat) (gv : Nat→World→Value) : Prop:=∀ i w,gv i w = (w.cell? ⟨rv,i,none⟩).getD undef

theorem gv_ex (rv : Nat) : ∃ gv,Gv rv gv:=⟨fun i w=>(w.cell? ⟨rv,i,none⟩).getD undef,fun _ _=>rfl⟩

theorem Gv.of {rv : Nat} {gv : Nat→World→Value} (h : Gv rv gv) {w : World} {i : Nat} {v : Value} (hc : w.cell? ⟨rv,i,none⟩ = some v) : w.cell? ⟨rv,i,none⟩ = some (gv i w):=by
 rw [h i w,hc]
 rfl

theorem Gv.set {rv : Nat} {gv : Nat→World→Value} (h : Gv rv gv) {w : World} {i j : Nat} {u v : Value} (hc : w.cell? ⟨rv,i,none⟩ = some v) : (w.setCell ⟨rv,j,none⟩ u).cell? ⟨rv,i,none⟩ = some (gv i (w.setCell ⟨rv,j,none⟩ u)):=by
 by_cases e : j = i
 ·subst e
  exact h.of (cell_setCell_same _ _ hc)
 ·exact h.of ((cell_setCell_ne _ _ (by simp)).trans hc)

theorem kcall4 {w z z' : World} {sb r d rv : Nat} {t : St} {gv : Nat→World→Value} {X : List Nat} (hg : Gv rv gv) (hr : rv≠sb∧rv≠r) (h : z.cell? ⟨sb,0,none⟩ = some (.pointer (some ⟨r,0,none⟩))∧Only [sb,r] w z∧z.cell? ⟨rv,0,none⟩ = some (gv 0 z)∧z.cell? ⟨rv,1,none⟩ = some (gv 1 z)∧z.cell? ⟨rv,2,none⟩ = some (gv 2 z)∧z.cell? ⟨rv,3,none⟩ = some (gv 3 z)∧z.frozen? ⟨rv,0,none⟩ = false∧z.frozen? ⟨rv,1,none⟩ = false∧z.frozen? ⟨rv,2,none⟩ = false∧z.frozen? ⟨rv,3,none⟩ = false) (hs : Sc z' sb r d t) (hX : Only X z z') (hx : ∀ x∈X,x = sb∨x = r) : z'.cell? ⟨sb,0,none⟩ = some (.pointer (some ⟨r,0,none⟩))∧Only [sb,r] w z'∧z'.cell? ⟨rv,0,none⟩ = some (gv 0 z')∧z'.cell? ⟨rv,1,none⟩ = some (gv 1 z')∧z'.cell? ⟨rv,2,none⟩ = some (gv 2 z')∧z'.cell? ⟨rv,3,none⟩ = some (gv 3 z')∧z'.frozen? ⟨rv,0,none⟩ = false∧z'.frozen? ⟨rv,1,none⟩ = false∧z'.frozen? ⟨rv,2,none⟩ = false∧z'.frozen? ⟨rv,3,none⟩ = false:=by
 obtain ⟨hc,ho,c0,c1,c2,c3,f0,f1,f2,f3⟩:=h
 have hl:=World.block_lt_of_cell? z _ c0
 have hm : rv ∉ X:=fun hm=>by rcases hx rv hm with h | h <;> omega
 exact ⟨hs.c0,ho.trans hX (fun x hm=>by rcases hx x hm with h | h <;> simp [h]),hg.of ((hX.cell (p:=⟨rv,0,none⟩) hl hm).trans c0),hg.of ((hX.cell (p:=⟨rv,1,none⟩) hl hm).trans c1),hg.of ((hX.cell (p:=⟨rv,2,none⟩) hl hm).trans c2),hg.of ((hX.cell (p:=⟨rv,3,none⟩) hl hm).trans c3),(hX.frozen (p:=⟨rv,0,none⟩) hl hm).trans f0,(hX.frozen (p:=⟨rv,1,none⟩) hl hm).trans f1,(hX.frozen (p:=⟨rv,2,none⟩) hl hm).trans f2,(hX.frozen (p:=⟨rv,3,none⟩) hl hm).trans f3⟩

theorem kset4 {w z : World} {sb r rv : Nat} {gv : Nat→World→Value} (hg : Gv rv gv) (hr : rv≠sb∧rv≠r) (hw : w.heap.size≤rv) (j : Nat) (u : Value) (h : z.cell? ⟨sb,0,none⟩ = some (.pointer (some ⟨r,0,none⟩))∧Only [sb,r] w z∧z.cell? ⟨rv,0,none⟩ = some (gv 0 z)∧z.cell? ⟨rv,1,none⟩ = some (gv 1 z)∧z.cell? ⟨rv,2,none⟩ = some (gv 2 z)∧z.cell? ⟨rv,3,none⟩ = some (gv 3 z)∧z.frozen? ⟨rv,0,none⟩ = false∧z.frozen? ⟨rv,1,none⟩ = false∧z.frozen? ⟨rv,2,none⟩ = false∧z.frozen? ⟨rv,3,none⟩ = false) : (z.setCell ⟨rv,j,none⟩ u).cell? ⟨sb,0,none⟩ = some (.pointer (some ⟨r,0,none⟩))∧Only [sb,r] w (z.setCell ⟨rv,j,none⟩ u)∧(z.setCell ⟨rv,j,none⟩ u).cell? ⟨rv,0,none⟩ = some (gv 0 (z.setCell ⟨rv,j,none⟩ u))∧(z.setCell ⟨rv,j,none⟩ u).cell? ⟨rv,1,none⟩ = some (gv 1 (z.setCell ⟨rv,j,none⟩ u))∧(z.setCell ⟨rv,j,none⟩ u).cell? ⟨rv,2,none⟩ = some (gv 2 (z.setCell ⟨rv,j,none⟩ u))∧(z.setCell ⟨rv,j,none⟩ u).cell? ⟨rv,3,none⟩ = some (gv 3 (z.setCell ⟨rv,j,none⟩ u))∧(z.setCell ⟨rv,j,none⟩ u).frozen? ⟨rv,0,none⟩ = false∧(z.setCell ⟨rv,j,none⟩ u).frozen? ⟨rv,1,none⟩ = false∧(z.setCell ⟨rv,j,none⟩ u).frozen? ⟨rv,2,none⟩ = false∧(z.setCell ⟨rv,j,none⟩ u).frozen? ⟨rv,3,none⟩ = false:=by
 obtain ⟨hc,ho,c0,c1,c2,c3,f0,f1,f2,f3⟩:=h
 exact ⟨(cell_setCell_ne _ _ (by simp)).trans hc,ho.setCell (.inr hw) _,hg.set c0,hg.set c1,hg.set c2,hg.set c3,(frozen_setCell _ _ _ _).trans f0,(frozen_setCell _ _ _ _).trans f1,(frozen_setCell _ _ _ _).trans f2,(frozen_setCell _ _ _ _).trans f3⟩

theorem knew4 {w z : World} {sb r rv : Nat} {gv : Nat→World→Value} (hg : Gv rv gv) (hc : z.cell? ⟨sb,0,none⟩ = some (.pointer (some ⟨r,0,none⟩))) (ho : Only [sb,r] w z) {v0 : Value} (c0 : z.cell? ⟨rv,0,none⟩ = some v0) {v1 : Value} (c1 : z.cell? ⟨rv,1,none⟩ = some v1) {v2 : Value} (c2 : z.cell? ⟨rv,2,none⟩ = some v2) {v3 : Value} (c3 : z.cell? ⟨rv,3,none⟩ = some v3) (f0 : z.frozen? ⟨rv,0,none⟩ = false) (f1 : z.frozen? ⟨rv,1,none⟩ = false) (f2 : z.frozen? ⟨rv,2,none⟩ = false) (f3 : z.frozen? ⟨rv,3,none⟩ = false) : z.cell? ⟨sb,0,none⟩ = some (.pointer (some ⟨r,0,none⟩))∧Only [sb,r] w z∧z.cell? ⟨rv,0,none⟩ = some (gv 0 z)∧z.cell? ⟨rv,1,none⟩ = some (gv 1 z)∧z.cell? ⟨rv,2,none⟩ = some (gv 2 z)∧z.cell? ⟨rv,3,none⟩ = some (gv 3 z)∧z.frozen? ⟨rv,0,none⟩ = false∧z.frozen? ⟨rv,1,none⟩ = false∧z.frozen? ⟨rv,2,none⟩ = false∧z.frozen? ⟨rv,3,none⟩ = false:=⟨hc,ho,hg.of c0,hg.of c1,hg.of c2,hg.of c3,f0,f1,f2,f3⟩

theorem kdrew4 {w z : World} {sb r rv : Nat} {gv : Nat→World→Value} (hg : Gv rv gv) (h : z.cell? ⟨sb,0,none⟩ = some (.pointer (some ⟨r,0,none⟩))∧Only [sb,r] w z∧z.cell? ⟨rv,0,none⟩ = some (gv 0 z)∧z.cell? ⟨rv,1,none⟩ = some (gv 1 z)∧z.cell? ⟨rv,2,none⟩ = some (gv 2 z)∧z.cell? ⟨rv,3,none⟩ = some (gv 3 z)∧z.frozen? ⟨rv,0,none⟩ = false∧z.frozen? ⟨rv,1,none⟩ = false∧z.frozen? ⟨rv,2,none⟩ = false∧z.frozen? ⟨rv,3,none⟩ = false) : z.drew.cell? ⟨sb,0,none⟩ = some (.pointer (some ⟨r,0,none⟩))∧Only [sb,r] w z.drew∧z.drew.cell? ⟨rv,0,none⟩ = some (gv 0 z.drew)∧z.drew.cell? ⟨rv,1,none⟩ = some (gv 1 z.drew)∧z.drew.cell? ⟨rv,2,none⟩ = some (gv 2 z.drew)∧z.drew.cell? ⟨rv,3,none⟩ = some (gv 3 z.drew)∧z.drew.frozen? ⟨rv,0,none⟩ = false∧z.drew.frozen? ⟨rv,1,none⟩ = false∧z.drew.frozen? ⟨rv,2,none⟩ = false∧z.drew.frozen? ⟨rv,3,none⟩ = false:=by
 obtain ⟨hc,ho,c0,c1,c2,c3,f0,f1,f2,f3⟩:=h
 exact ⟨hc,ho.drew,hg.of (w:=z.drew) c0,hg.of (w:=z.drew) c1,hg.of (w:=z.drew) c2,hg.of (w:=z.drew) c3,f0,f1,f2,f3⟩

theorem kcall6 {w z z' : World} {sb r d rv : Nat} {t : St} {gv : Nat→World→Value} {X : List Nat} (hg : Gv rv gv) (hr : rv≠sb∧rv≠r) (h : z.cell? ⟨sb,0,none⟩ = some (.pointer (some ⟨r,0,none⟩))∧Only [sb,r] w z∧z.cell? ⟨rv,0,none⟩ = some (gv 0 z)∧z.cell? ⟨rv,1,none⟩ = some (gv 1 z)∧z.cell? ⟨rv,2,none⟩ = some (gv 2 z)∧z.cell? ⟨rv,3,none⟩ = some (gv 3 z)∧z.cell? ⟨rv,4,none⟩ = some (gv 4 z)∧z.cell? ⟨rv,5,none⟩ = some (gv 5 z)∧z.frozen? ⟨rv,0,none⟩ = false∧z.frozen? ⟨rv,1,none⟩ = false∧z.frozen? ⟨rv,2,none⟩ = false∧z.frozen? ⟨rv,3,none⟩ = false∧z.frozen? ⟨rv,4,none⟩ = false∧z.frozen? ⟨rv,5,none⟩ = false) (hs : Sc z' sb r d t) (hX : Only X z z') (hx : ∀ x∈X,x = sb∨x = r) : z'.cell? ⟨sb,0,none⟩ = some (.pointer (some ⟨r,0,none⟩))∧Only [sb,r] w z'∧z'.cell? ⟨rv,0,none⟩ = some (gv 0 z')∧z'.cell? ⟨rv,1,none⟩ = some (gv 1 z')∧z'.cell? ⟨rv,2,none⟩ = some (gv 2 z')∧z'.cell? ⟨rv,3,none⟩ = some (gv 3 z')∧z'.cell? ⟨rv,4,none⟩ = some (gv 4 z')∧z'.cell? ⟨rv,5,none⟩ = some (gv 5 z')∧z'.frozen? ⟨rv,0,none⟩ = false∧z'.frozen? ⟨rv,1,none⟩ = false∧z'.frozen? ⟨rv,2,none⟩ = false∧z'.frozen? ⟨rv,3,none⟩ = false∧z'.frozen? ⟨rv,4,none⟩ = false∧z'.frozen? ⟨rv,5,none⟩ = false:=by
 obtain ⟨hc,ho,c0,c1,c2,c3,c4,c5,f0,f1,f2,f3,f4,f5⟩:=h
 have hl:=World.block_lt_of_cell? z _ c0
 have hm : rv ∉ X:=fun hm=>by rcases hx rv hm with h | h <;> omega
 exact ⟨hs.c0,ho.trans hX (fun x hm=>by rcases hx x hm with h | h <;> simp [h]),hg.of ((hX.cell (p:=⟨rv,0,none⟩) hl hm).trans c0),hg.of ((hX.cell (p:=⟨rv,1,none⟩) hl hm).trans c1),hg.of ((hX.cell (p:=⟨rv,2,none⟩) hl hm).trans c2),hg.of ((hX.cell (p:=⟨rv,3,none⟩) hl hm).trans c3),hg.of ((hX.cell (p:=⟨rv,4,none⟩) hl hm).trans c4),hg.of ((hX.cell (p:=⟨rv,5,none⟩) hl hm).trans c5),(hX.frozen (p:=⟨rv,0,none⟩) hl hm).trans f0,(hX.frozen (p:=⟨rv,1,none⟩) hl hm).trans f1,(hX.frozen (p:=⟨rv,2,none⟩) hl hm).trans f2,(hX.frozen (p:=⟨rv,3,none⟩) hl hm).trans f3,(hX.frozen (p:=⟨rv,4,none⟩) hl hm).trans f4,(hX.frozen (p:=⟨rv,5,none⟩) hl hm).trans f5⟩

theorem kset6 {w z : World} {sb r rv : Nat} {gv : Nat→World→Value} (hg : Gv rv gv) (hr : rv≠sb∧rv≠r) (hw : w.heap.size≤rv) (j : Nat) (u : Value) (h : z.cell? ⟨sb,0,none⟩ = some (.pointer (some ⟨r,0,none⟩))∧Only [sb,r] w z∧z.cell? ⟨rv,0,none⟩ = some (gv 0 z)∧z.cell? ⟨rv,1,none⟩ = some (gv 1 z)∧z.cell? ⟨rv,2,none⟩ = some (gv 2 z)∧z.cell? ⟨rv,3,none⟩ = some (gv 3 z)∧z.cell? ⟨rv,4,none⟩ = some (gv 4 z)∧z.cell? ⟨rv,5,none⟩ = some (gv 5 z)∧z.frozen? ⟨rv,0,none⟩ = false∧z.frozen? ⟨rv,1,none⟩ = false∧z.frozen? ⟨rv,2,none⟩ = false∧z.frozen? ⟨rv,3,none⟩ = false∧z.frozen? ⟨rv,4,none⟩ = false∧z.frozen? ⟨rv,5,none⟩ = false) : (z.setCell ⟨rv,j,none⟩ u).cell? ⟨sb,0,none⟩ = some (.pointer (some ⟨r,0,none⟩))∧Only [sb,r] w (z.setCell ⟨rv,j,none⟩ u)∧(z.setCell ⟨rv,j,none⟩ u).cell? ⟨rv,0,none⟩ = some (gv 0 (z.setCell ⟨rv,j,none⟩ u))∧(z.setCell ⟨rv,j,none⟩ u).cell? ⟨rv,1,none⟩ = some (gv 1 (z.setCell ⟨rv,j,none⟩ u))∧(z.setCell ⟨rv,j,none⟩ u).cell? ⟨rv,2,none⟩ = some (gv 2 (z.setCell ⟨rv,j,none⟩ u))∧(z.setCell ⟨rv,j,none⟩ u).cell? ⟨rv,3,none⟩ = some (gv 3 (z.setCell ⟨rv,j,none⟩ u))∧(z.setCell ⟨rv,j,none⟩ u).cell? ⟨rv,4,none⟩ = some (gv 4 (z.setCell ⟨rv,j,none⟩ u))∧(z.setCell ⟨rv,j,none⟩ u).cell? ⟨rv,5,none⟩ = some (gv 5 (z.setCell ⟨rv,j,none⟩ u))∧(z.setCell ⟨rv,j,none⟩ u).frozen? ⟨rv,0,none⟩ = false∧(z.setCell ⟨rv,j,none⟩ u).frozen? ⟨rv,1,none⟩ = false∧(z.setCell ⟨rv,j,none⟩ u).frozen? ⟨rv,2,none⟩ = false∧(z.setCell ⟨rv,j,none⟩ u).frozen? ⟨rv,3,none⟩ = false∧(z.setCell ⟨rv,j,none⟩ u).frozen? ⟨rv,4,none⟩ = false∧(z.setCell ⟨rv,j,none⟩ u).frozen? ⟨rv,5,none⟩ = false:=by
 obtain ⟨hc,ho,c0,c1,c2,c3,c4,c5,f0,f1,f2,f3,f4,f5⟩:=h
 exact ⟨(cell_setCell_ne _ _ (by simp)).trans hc,ho.setCell (.inr hw) _,hg.set c0,hg.set c1,hg.set c2,hg.set c3,hg.set c4,hg.set c5,(frozen_setCell _ _ _ _).trans f0,(frozen_setCell _ _ _ _).trans f1,(frozen_setCell _ _ _ _).trans f2,(frozen_setCell _ _ _ _).trans f3,(frozen_setCell _ _ _ _).trans f4,(frozen_setCell _ _ _ _).trans f5⟩

theorem knew6 {w z : World} {sb r rv : Nat} {gv : Nat→World→Value} (hg : Gv rv gv) (hc : z.cell? ⟨sb,0,none⟩ = some (.pointer (some ⟨r,0,none⟩))) (ho : Only [sb,r] w z) {v0 : Value} (c0 : z.cell? ⟨rv,0,none⟩ = some v0) {v1 : Value} (c1 : z.cell? ⟨rv,1,none⟩ = some v1) {v2 : Value} (c2 : z.cell? ⟨rv,2,none⟩ = some v2) {v3 : Value} (c3 : z.cell? ⟨rv,3,none⟩ = some v3) {v4 : Value} (c4 : z.cell? ⟨rv,4,none⟩ = some v4) {v5 : Value} (c5 : z.cell? ⟨rv,5,none⟩ = some v5) (f0 : z.frozen? ⟨rv,0,none⟩ = false) (f1 : z.frozen? ⟨rv,1,none⟩ = false) (f2 : z.frozen? ⟨rv,2,none⟩ = false) (f3 : z.frozen? ⟨rv,3,none⟩ = false) (f4 : z.frozen? ⟨rv,4,none⟩ = false) (f5 : z.frozen? ⟨rv,5,none⟩ = false) : z.cell? ⟨sb,0,none⟩ = some (.pointer (some ⟨r,0,none⟩))∧Only [sb,r] w z∧z.cell? ⟨rv,0,none⟩ = some (gv 0 z)∧z.cell? ⟨rv,1,none⟩ = some (gv 1 z)∧z.cell? ⟨rv,2,none⟩ = some (gv 2 z)∧z.cell? ⟨rv,3,none⟩ = some (gv 3 z)∧z.cell? ⟨rv,4,none⟩ = some (gv 4 z)∧z.cell? ⟨rv,5,none⟩ = some (gv 5 z)∧z.frozen? ⟨rv,0,none⟩ = false∧z.frozen? ⟨rv,1,none⟩ = false∧z.frozen? ⟨rv,2,none⟩ = false∧z.frozen? ⟨rv,3,none⟩ = false∧z.frozen? ⟨rv,4,none⟩ = false∧z.frozen? ⟨rv,5,none⟩ = false:=⟨hc,ho,hg.of c0,hg.of c1,hg.of c2,hg.of c3,hg.of c4,hg.of c5,f0,f1,f2,f3,f4,f5⟩

theorem kdrew6 {w z : World} {sb r rv : Nat} {gv : Nat→World→Value} (hg : Gv rv gv) (h : z.cell? ⟨sb,0,none⟩ = some (.pointer (some ⟨r,0,none⟩))∧Only [sb,r] w z∧z.cell? ⟨rv,0,none⟩ = some (gv 0 z)∧z.cell? ⟨rv,1,none⟩ = some (gv 1 z)∧z.cell? ⟨rv,2,none⟩ = some (gv 2 z)∧z.cell? ⟨rv,3,none⟩ = some (gv 3 z)∧z.cell? ⟨rv,4,none⟩ = some (gv 4 z)∧z.cell? ⟨rv,5,none⟩ = some (gv 5 z)∧z.frozen? ⟨rv,0,none⟩ = false∧z.frozen? ⟨rv,1,none⟩ = false∧z.frozen? ⟨rv,2,none⟩ = false∧z.frozen? ⟨rv,3,none⟩ = false∧z.frozen? ⟨rv,4,none⟩ = false∧z.frozen? ⟨rv,5,none⟩ = false) : z.drew.cell? ⟨sb,0,none⟩ = some (.pointer (some ⟨r,0,none⟩))∧Only [sb,r] w z.drew∧z.drew.cell? ⟨rv,0,none⟩ = some (gv 0 z.drew)∧z.drew.cell? ⟨rv,1,none⟩ = some (gv 1 z.drew)∧z.drew.cell? ⟨rv,2,none⟩ = some (gv 2 z.drew)∧z.drew.cell? ⟨rv,3,none⟩ = some (gv 3 z.drew)∧z.drew.cell? ⟨rv,4,none⟩ = some (gv 4 z.drew)∧z.drew.cell? ⟨rv,5,none⟩ = some (gv 5 z.drew)∧z.drew.frozen? ⟨rv,0,none⟩ = false∧z.drew.frozen? ⟨rv,1,none⟩ = false∧z.drew.frozen? ⟨rv,2,none⟩ = false∧z.drew.frozen? ⟨rv,3,none⟩ = false∧z.drew.frozen? ⟨rv,4,none⟩ = false∧z.drew.frozen? ⟨rv,5,none⟩ = false:=by
 obtain ⟨hc,ho,c0,c1,c2,c3,c4,c5,f0,f1,f2,f3,f4,f5⟩:=h
 exact ⟨hc,ho.drew,hg.of (w:=z.drew) c0,hg.of (w:=z.drew) c1,hg.of (w:=z.drew) c2,hg.of (w:=z.drew) c3,hg.of (w:=z.drew) c4,hg.of (w:=z.drew) c5,f0,f1,f2,f3,f4,f5⟩

theorem kcall10 {w z z' : World} {sb r d rv : Nat} {t : St} {gv : Nat→World→Value} {X : List Nat} (hg : Gv rv gv) (hr : rv≠sb∧rv≠r) (h : z.cell? ⟨sb,0,none⟩ = some (.pointer (some ⟨r,0,none⟩))∧Only [sb,r] w z∧z.cell? ⟨rv,0,none⟩ = some (gv 0 z)∧z.cell? ⟨rv,1,none⟩ = some (gv 1 z)∧z.cell? ⟨rv,2,none⟩ = some (gv 2 z)∧z.cell? ⟨rv,3,none⟩ = some (gv 3 z)∧z.cell? ⟨rv,4,none⟩ = some (gv 4 z)∧z.cell? ⟨rv,5,none⟩ = some (gv 5 z)∧z.cell? ⟨rv,6,none⟩ = some (gv 6 z)∧z.cell? ⟨rv,7,none⟩ = some (gv 7 z)∧z.cell? ⟨rv,8,none⟩ = some (gv 8 z)∧z.cell? ⟨rv,9,none⟩ = some (gv 9 z)∧z.frozen? ⟨rv,0,none⟩ = false∧z.frozen? ⟨rv,1,none⟩ = false∧z.frozen? ⟨rv,2,none⟩ = false∧z.frozen? ⟨rv,3,none⟩ = false∧z.frozen? ⟨rv,4,none⟩ = false∧z.frozen? ⟨rv,5,none⟩ = false∧z.frozen? ⟨rv,6,none⟩ = false∧z.frozen? ⟨rv,7,none⟩ = false∧z.frozen? ⟨rv,8,none⟩ = false∧z.frozen? ⟨rv,9,none⟩ = false) (hs : Sc z' sb r d t) (hX : Only X z z') (hx : ∀ x∈X,x = sb∨x = r) : z'.cell? ⟨sb,0,none⟩ = some (.pointer (some ⟨r,0,none⟩))∧Only [sb,r] w z'∧z'.cell? ⟨rv,0,none⟩ = some (gv 0 z')∧z'.cell? ⟨rv,1,none⟩ = some (gv 1 z')∧z'.cell? ⟨rv,2,none⟩ = some (gv 2 z')∧z'.cell? ⟨rv,3,none⟩ = some (gv 3 z')∧z'.cell? ⟨rv,4,none⟩ = some (gv 4 z')∧z'.cell? ⟨rv,5,none⟩ = some (gv 5 z')∧z'.cell? ⟨rv,6,none⟩ = some (gv 6 z')∧z'.cell? ⟨rv,7,none⟩ = some (gv 7 z')∧z'.cell? ⟨rv,8,none⟩ = some (gv 8 z')∧z'.cell? ⟨rv,9,none⟩ = some (gv 9 z')∧z'.frozen? ⟨rv,0,none⟩ = false∧z'.frozen? ⟨rv,1,none⟩ = false∧z'.frozen? ⟨rv,2,none⟩ = false∧z'.frozen? ⟨rv,3,none⟩ = false∧z'.frozen? ⟨rv,4,none⟩ = false∧z'.frozen? ⟨rv,5,none⟩ = false∧z'.frozen? ⟨rv,6,none⟩ = false∧z'.frozen? ⟨rv,7,none⟩ = false∧z'.frozen? ⟨rv,8,none⟩ = false∧z'.frozen? ⟨rv,9,none⟩ = false:=by
 obtain ⟨hc,ho,c0,c1,c2,c3,c4,c5,c6,c7,c8,c9,f0,f1,f2,f3,f4,f5,f6,f7,f8,f9⟩:=h
 have hl:=World.block_lt_of_cell? z _ c0
 have hm : rv ∉ X:=fun hm=>by rcases hx rv hm with h | h <;> omega
 exact ⟨hs.c0,ho.trans hX (fun x hm=>by rcases hx x hm with h | h <;> simp [h]),hg.of ((hX.cell (p:=⟨rv,0,none⟩) hl hm).trans c0),hg.of ((hX.cell (p:=⟨rv,1,none⟩) hl hm).trans c1),hg.of ((hX.cell (p:=⟨rv,2,none⟩) hl hm).trans c2),hg.of ((hX.cell (p:=⟨rv,3,none⟩) hl hm).trans c3),hg.of ((hX.cell (p:=⟨rv,4,none⟩) hl hm).trans c4),hg.of ((hX.cell (p:=⟨rv,5,none⟩) hl hm).trans c5),hg.of ((hX.cell (p:=⟨rv,6,none⟩) hl hm).trans c6),hg.of ((hX.cell (p:=⟨rv,7,none⟩) hl hm).trans c7),hg.of ((hX.cell (p:=⟨rv,8,none⟩) hl hm).trans c8),hg.of ((hX.cell (p:=⟨rv,9,none⟩) hl hm).trans c9),(hX.frozen (p:=⟨rv,0,none⟩) hl hm).trans f0,(hX.frozen (p:=⟨rv,1,none⟩) hl hm).trans f1,(hX.frozen (p:=⟨rv,2,none⟩) hl hm).trans f2,(hX.frozen (p:=⟨rv,3,none⟩) hl hm).trans f3,(hX.frozen (p:=⟨rv,4,none⟩) hl hm).trans f4,(hX.frozen (p:=⟨rv,5,none⟩) hl hm).trans f5,(hX.frozen (p:=⟨rv,6,none⟩) hl hm).trans f6,(hX.frozen (p:=⟨rv,7,none⟩) hl hm).trans f7,(hX.frozen (p:=⟨rv,8,none⟩) hl hm).trans f8,(hX.frozen (p:=⟨rv,9,none⟩) hl hm).trans f9⟩

theorem kset10 {w z : World} {sb r rv : Nat} {gv : Nat→World→Value} (hg : Gv rv gv) (hr : rv≠sb∧rv≠r) (hw : w.heap.size≤rv) (j : Nat) (u : Value) (h : z.cell? ⟨sb,0,none⟩ = some (.pointer (some ⟨r,0,none⟩))∧Only [sb,r] w z∧z.cell? ⟨rv,0,none⟩ = some (gv 0 z)∧z.cell? ⟨rv,1,none⟩ = some (gv 1 z)∧z.cell? ⟨rv,2,none⟩ = some (gv 2 z)∧z.cell? ⟨rv,3,none⟩ = some (gv 3 z)∧z.cell? ⟨rv,4,none⟩ = some (gv 4 z)∧z.cell? ⟨rv,5,none⟩ = some (gv 5 z)∧z.cell? ⟨rv,6,none⟩ = some (gv 6 z)∧z.cell? ⟨rv,7,none⟩ = some (gv 7 z)∧z.cell? ⟨rv,8,none⟩ = some (gv 8 z)∧z.cell? ⟨rv,9,none⟩ = some (gv 9 z)∧z.frozen? ⟨rv,0,none⟩ = false∧z.frozen? ⟨rv,1,none⟩ = false∧z.frozen? ⟨rv,2,none⟩ = false∧z.frozen? ⟨rv,3,none⟩ = false∧z.frozen? ⟨rv,4,none⟩ = false∧z.frozen? ⟨rv,5,none⟩ = false∧z.frozen? ⟨rv,6,none⟩ = false∧z.frozen? ⟨rv,7,none⟩ = false∧z.frozen? ⟨rv,8,none⟩ = false∧z.frozen? ⟨rv,9,none⟩ = false) : (z.setCell ⟨rv,j,none⟩ u).cell? ⟨sb,0,none⟩ = some (.pointer (some ⟨r,0,none⟩))∧Only [sb,r] w (z.setCell ⟨rv,j,none⟩ u)∧(z.setCell ⟨rv,j,none⟩ u).cell? ⟨rv,0,none⟩ = some (gv 0 (z.setCell ⟨rv,j,none⟩ u))∧(z.setCell ⟨rv,j,none⟩ u).cell? ⟨rv,1,none⟩ = some (gv 1 (z.setCell ⟨rv,j,none⟩ u))∧(z.setCell ⟨rv,j,none⟩ u).cell? ⟨rv,2,none⟩ = some (gv 2 (z.setCell ⟨rv,j,none⟩ u))∧(z.setCell ⟨rv,j,none⟩ u).cell? ⟨rv,3,none⟩ = some (gv 3 (z.setCell ⟨rv,j,none⟩ u))∧(z.setCell ⟨rv,j,none⟩ u).cell? ⟨rv,4,none⟩ = some (gv 4 (z.setCell ⟨rv,j,none⟩ u))∧(z.setCell ⟨rv,j,none⟩ u).cell? ⟨rv,5,none⟩ = some (gv 5 (z.setCell ⟨rv,j,none⟩ u))∧(z.setCell ⟨rv,j,none⟩ u).cell? ⟨rv,6,none⟩ = some (gv 6 (z.setCell ⟨rv,j,none⟩ u))∧(z.setCell ⟨rv,j,none⟩ u).cell? ⟨rv,7,none⟩ = some (gv 7 (z.setCell ⟨rv,j,none⟩ u))∧(z.setCell ⟨rv,j,none⟩ u).cell? ⟨rv,8,none⟩ = some (gv 8 (z.setCell ⟨rv,j,none⟩ u))∧(z.setCell ⟨rv,j,none⟩ u).cell? ⟨rv,9,none⟩ = some (gv 9 (z.setCell ⟨rv,j,none⟩ u))∧(z.setCell ⟨rv,j,none⟩ u).frozen? ⟨rv,0,none⟩ = false∧(z.setCell ⟨rv,j,none⟩ u).frozen? ⟨rv,1,none⟩ = false∧(z.setCell ⟨rv,j,none⟩ u).frozen? ⟨rv,2,none⟩ = false∧(z.setCell ⟨rv,j,none⟩ u).frozen? ⟨rv,3,none⟩ = false∧(z.setCell ⟨rv,j,none⟩ u).frozen? ⟨rv,4,none⟩ = false∧(z.setCell ⟨rv,j,none⟩ u).frozen? ⟨rv,5,none⟩ = false∧(z.setCell ⟨rv,j,none⟩ u).frozen? ⟨rv,6,none⟩ = false∧(z.setCell ⟨rv,j,none⟩ u).frozen? ⟨rv,7,none⟩ = false∧(z.setCell ⟨rv,j,none⟩ u).frozen? ⟨rv,8,none⟩ = false∧(z.setCell ⟨rv,j,none⟩ u).frozen? ⟨rv,9,none⟩ = false:=by
 obtain ⟨hc,ho,c0,c1,c2,c3,c4,c5,c6,c7,c8,c9,f0,f1,f2,f3,f4,f5,f6,f7,f8,f9⟩:=h
 exact ⟨(cell_setCell_ne _ _ (by simp)).trans hc,ho.setCell (.inr hw) _,hg.set c0,hg.set c1,hg.set c2,hg.set c3,hg.set c4,hg.set c5,hg.set c6,hg.set c7,hg.set c8,hg.set c9,(frozen_setCell _ _ _ _).trans f0,(frozen_setCell _ _ _ _).trans f1,(frozen_setCell _ _ _ _).trans f2,(frozen_setCell _ _ _ _).trans f3,(frozen_setCell _ _ _ _).trans f4,(frozen_setCell _ _ _ _).trans f5,(frozen_setCell _ _ _ _).trans f6,(frozen_setCell _ _ _ _).trans f7,(frozen_setCell _ _ _ _).trans f8,(frozen_setCell _ _ _ _).trans f9⟩

theorem knew10 {w z : World} {sb r rv : Nat} {gv : Nat→World→Value} (hg : Gv rv gv) (hc : z.cell? ⟨sb,0,none⟩ = some (.pointer (some ⟨r,0,none⟩))) (ho : Only [sb,r] w z) {v0 : Value} (c0 : z.cell? ⟨rv,0,none⟩ = some v0) {v1 : Value} (c1 : z.cell? ⟨rv,1,none⟩ = some v1) {v2 : Value} (c2 : z.cell? ⟨rv,2,none⟩ = some v2) {v3 : Value} (c3 : z.cell? ⟨rv,3,none⟩ = some v3) {v4 : Value} (c4 : z.cell? ⟨rv,4,none⟩ = some v4) {v5 : Value} (c5 : z.cell? ⟨rv,5,none⟩ = some v5) {v6 : Value} (c6 : z.cell? ⟨rv,6,none⟩ = some v6) {v7 : Value} (c7 : z.cell? ⟨rv,7,none⟩ = some v7) {v8 : Value} (c8 : z.cell? ⟨rv,8,none⟩ = some v8) {v9 : Value} (c9 : z.cell? ⟨rv,9,none⟩ = some v9) (f0 : z.frozen? ⟨rv,0,none⟩ = false) (f1 : z.frozen? ⟨rv,1,none⟩ = false) (f2 : z.frozen? ⟨rv,2,none⟩ = false) (f3 : z.frozen? ⟨rv,3,none⟩ = false) (f4 : z.frozen? ⟨rv,4,none⟩ = false) (f5 : z.frozen? ⟨rv,5,none⟩ = false) (f6 : z.frozen? ⟨rv,6,none⟩ = false) (f7 : z.frozen? ⟨rv,7,none⟩ = false) (f8 : z.frozen? ⟨rv,8,none⟩ = false) (f9 : z.frozen? ⟨rv,9,none⟩ = false) : z.cell? ⟨sb,0,none⟩ = some (.pointer (some ⟨r,0,none⟩))∧Only [sb,r] w z∧z.cell? ⟨rv,0,none⟩ = some (gv 0 z)∧z.cell? ⟨rv,1,none⟩ = some (gv 1 z)∧z.cell? ⟨rv,2,none⟩ = some (gv 2 z)∧z.cell? ⟨rv,3,none⟩ = some (gv 3 z)∧z.cell? ⟨rv,4,none⟩ = some (gv 4 z)∧z.cell? ⟨rv,5,none⟩ = some (gv 5 z)∧z.cell? ⟨rv,6,none⟩ = some (gv 6 z)∧z.cell? ⟨rv,7,none⟩ = some (gv 7 z)∧z.cell? ⟨rv,8,none⟩ = some (gv 8 z)∧z.cell? ⟨rv,9,none⟩ = some (gv 9 z)∧z.frozen? ⟨rv,0,none⟩ = false∧z.frozen? ⟨rv,1,none⟩ = false∧z.frozen? ⟨rv,2,none⟩ = false∧z.frozen? ⟨rv,3,none⟩ = false∧z.frozen? ⟨rv,4,none⟩ = false∧z.frozen? ⟨rv,5,none⟩ = false∧z.frozen? ⟨rv,6,none⟩ = false∧z.frozen? ⟨rv,7,none⟩ = false∧z.frozen? ⟨rv,8,none⟩ = false∧z.frozen? ⟨rv,9,none⟩ = false:=⟨hc,ho,hg.of c0,hg.of c1,hg.of c2,hg.of c3,hg.of c4,hg.of c5,hg.of c6,hg.of c7,hg.of c8,hg.of c9,f0,f1,f2,f3,f4,f5,f6,f7,f8,f9⟩

theorem kdrew10 {w z : World} {sb r rv : Nat} {gv : Nat→World→Value} (hg : Gv rv gv) (h : z.cell? ⟨sb,0,none⟩ = some (.pointer (some ⟨r,0,none⟩))∧Only [sb,r] w z∧z.cell? ⟨rv,0,none⟩ = some (gv 0 z)∧z.cell? ⟨rv,1,none⟩ = some (gv 1 z)∧z.cell? ⟨rv,2,none⟩ = some (gv 2 z)∧z.cell? ⟨rv,3,none⟩ = some (gv 3 z)∧z.cell? ⟨rv,4,none⟩ = some (gv 4 z)∧z.cell? ⟨rv,5,none⟩ = some (gv 5 z)∧z.cell? ⟨rv,6,none⟩ = some (gv 6 z)∧z.cell? ⟨rv,7,none⟩ = some (gv 7 z)∧z.cell? ⟨rv,8,none⟩ = some (gv 8 z)∧z.cell? ⟨rv,9,none⟩ = some (gv 9 z)∧z.frozen? ⟨rv,0,none⟩ = false∧z.frozen? ⟨rv,1,none⟩ = false∧z.frozen? ⟨rv,2,none⟩ = false∧z.frozen? ⟨rv,3,none⟩ = false∧z.frozen? ⟨rv,4,none⟩ = false∧z.frozen? ⟨rv,5,none⟩ = false∧z.frozen? ⟨rv,6,none⟩ = false∧z.frozen? ⟨rv,7,none⟩ = false∧z.frozen? ⟨rv,8,none⟩ = false∧z.frozen? ⟨rv,9,none⟩ = false) : z.drew.cell? ⟨sb,0,none⟩ = some (.pointer (some ⟨r,0,none⟩))∧Only [sb,r] w z.drew∧z.drew.cell? ⟨rv,0,none⟩ = some (gv 0 z.drew)∧z.drew.cell? ⟨rv,1,none⟩ = some (gv 1 z.drew)∧z.drew.cell? ⟨rv,2,none⟩ = some (gv 2 z.drew)∧z.drew.cell? ⟨rv,3,none⟩ = some (gv 3 z.drew)∧z.drew.cell? ⟨rv,4,none⟩ = some (gv 4 z.drew)∧z.drew.cell? ⟨rv,5,none⟩ = some (gv 5 z.drew)∧z.drew.cell? ⟨rv,6,none⟩ = some (gv 6 z.drew)∧z.drew.cell? ⟨rv,7,none⟩ = some (gv 7 z.drew)∧z.drew.cell? ⟨rv,8,none⟩ = some (gv 8 z.drew)∧z.drew.cell? ⟨rv,9,none⟩ = some (gv 9 z.drew)∧z.drew.frozen? ⟨rv,0,none⟩ = false∧z.drew.frozen? ⟨rv,1,none⟩ = false∧z.drew.frozen? ⟨rv,2,none⟩ = false∧z.drew.frozen? ⟨rv,3,none⟩ = false∧z.drew.frozen? ⟨rv,4,none⟩ = false∧z.drew.frozen? ⟨rv,5,none⟩ = false∧z.drew.frozen? ⟨rv,6,none⟩ = false∧z.drew.frozen? ⟨rv,7,none⟩ = false∧z.drew.frozen? ⟨rv,8,none⟩ = false∧z.drew.frozen? ⟨rv,9,none⟩ = false:=by
 obtain ⟨hc,ho,c0,c1,c2,c3,c4,c5,c6,c7,c8,c9,f0,f1,f2,f3,f4,f5,f6,f7,f8,f9⟩:=h
 exact ⟨hc,ho.drew,hg.of (w:=z.drew) c0,hg.of (w:=z.drew) c1,hg.of (w:=z.drew) c2,hg.of (w:=z.drew) c3,hg.of (w:=z.drew) c4,hg.of (w:=z.drew) c5,hg.of (w:=z.drew) c6,hg.of (w:=z.drew) c7,hg.of (w:=z.drew) c8,hg.of (w:=z.drew) c9,f0,f1,f2,f3,f4,f5,f6,f7,f8,f9⟩


theorem out_at {α : Type} {P : Nat→Pr α} {t t' : St} {x : α} {a : Nat} (ha : ∀ u,t = .inr u→a = u.2) (h : Out (P a) t x t') : Out (fun r=>P r.2 r) t x t':=by
 unfold Out at h ⊢
 cases t with
 | inl f=>exact h
 | inr u=>
  have:=ha u rfl
  subst this
  exact h

theorem out_fail {α : Type} (a : Nat) (e : Int) (t : St) (x : α) : Out (pFail a e) t x (tRefuse (a : Int) e t):=by
 unfold Out
 cases t with
 | inl f=>rfl
 | inr u=>rfl

/-- What is read behind an entry's kind. -/
def entryF (a k : Nat) : Pr En:=
 if k = 1 then pBind pText fun s=>pDone (1,s,0,0,0,0)
 else if k = 2 then pBind pN8 fun n=>pDone (2,[],n,0,0,0)
 else if k = 3∨k = 4 then pBind (pU 2) fun a=>pDone ((k : Int),[],0,(a : Int),0,0)
 else if k = 5∨k = 6 then pBind (pU 2) fun a=>pBind (pU 2) fun b=>pBind (pU 2) fun c=>pDone ((k : Int),[],0,(a : Int),(b : Int),(c : Int))
 else pFail a 3

theorem out_entry {t t1 t2 : St} {x : En} {a n : Nat} (ha : ∀ u,t = .inr u→a = u.2) (h : Out (pU 1) t n t1) (h2 : Out (entryF a n) t1 x t2) : Out pEntry t x t2:=
 out_at (P:=fun a=>pBind (pU 1) (entryF a)) ha (out_bind h h2)

/-- The six cells of an entry's block. -/
structure En6 (w : World) (b : Nat) (v0 v1 v2 v3 v4 v5 : Value) : Prop where
 c0 : w.cell? ⟨b,0,none⟩ = some v0
 c1 : w.cell? ⟨b,1,none⟩ = some v1
 c2 : w.cell? ⟨b,2,none⟩ = some v2
 c3 : w.cell? ⟨b,3,none⟩ = some v3
 c4 : w.cell? ⟨b,4,none⟩ = some v4
 c5 : w.cell? ⟨b,5,none⟩ = some v5
 f0 : w.frozen? ⟨b,0,none⟩ = false
 f1 : w.frozen? ⟨b,1,none⟩ = false
 f2 : w.frozen? ⟨b,2,none⟩ = false
 f3 : w.frozen? ⟨b,3,none⟩ = false
 f4 : w.frozen? ⟨b,4,none⟩ = false
 f5 : w.frozen? ⟨b,5,none⟩ = false

theorem En6.only {w w' : World} {S : List Nat} {b : Nat} {v0 v1 v2 v3 v4 v5 : Value} (h : En6 w b v0 v1 v2 v3 v4 v5) (ho : Only S w w') (hb : b ∉ S) : En6 w' b v0 v1 v2 v3 v4 v5:=by
 have hl:=World.block_lt_of_cell? w _ h.c0
 exact ⟨(ho.cell (p:=⟨b,0,none⟩) hl hb).trans h.c0,(ho.cell (p:=⟨b,1,none⟩) hl hb).trans h.c1,(ho.cell (p:=⟨b,2,none⟩) hl hb).trans h.c2,(ho.cell (p:=⟨b,3,none⟩) hl hb).trans h.c3,(ho.cell (p:=⟨b,4,none⟩) hl hb).trans h.c4,(ho.cell (p:=⟨b,5,none⟩) hl hb).trans h.c5,
  (ho.frozen (p:=⟨b,0,none⟩) hl hb).trans h.f0,(ho.frozen (p:=⟨b,1,none⟩) hl hb).trans h.f1,(ho.frozen (p:=⟨b,2,none⟩) hl hb).trans h.f2,(ho.frozen (p:=⟨b,3,none⟩) hl hb).trans h.f3,(ho.frozen (p:=⟨b,4,none⟩) hl hb).trans h.f4,(ho.frozen (p:=⟨b,5,none⟩) hl hb).trans h.f5⟩

theorem en6_new (w : World) (v0 v1 v2 v3 v4 v5 : Value) (t : TypeId) : En6 (w.alloc (.cells #[v0,v1,v2,v3,v4,v5] t)) w.heap.size v0 v1 v2 v3 v4 v5:=
 ⟨by rw [cell_new]; rfl,by rw [cell_new]; rfl,by rw [cell_new]; rfl,by rw [cell_new]; rfl,by rw [cell_new]; rfl,by rw [cell_new]; rfl,frozen_new _ _ _ _,frozen_new _ _ _ _,frozen_new _ _ _ _,frozen_new _ _ _ _,frozen_new _ _ _ _,frozen_new _ _ _ _⟩

theorem En6.put1 {w : World} {b : Nat} {v0 v1 v2 v3 v4 v5 : Value} (h : En6 w b v0 v1 v2 v3 v4 v5) (u : Value) : En6 (w.setCell ⟨b,1,none⟩ u) b v0 u v2 v3 v4 v5:=
 ⟨(cell_setCell_ne _ _ (by simp)).trans h.c0,cell_setCell_same _ _ h.c1,(cell_setCell_ne _ _ (by simp)).trans h.c2,(cell_setCell_ne _ _ (by simp)).trans h.c3,(cell_setCell_ne _ _ (by simp)).trans h.c4,(cell_setCell_ne _ _ (by simp)).trans h.c5,(frozen_setCell _ _ _ _).trans h.f0,(frozen_setCell _ _ _ _).trans h.f1,(frozen_setCell _ _ _ _).trans h.f2,(frozen_setCell _ _ _ _).trans h.f3,(frozen_setCell _ _ _ _).trans h.f4,(frozen_setCell _ _ _ _).trans h.f5⟩

theorem En6.put2 {w : World} {b : Nat} {v0 v1 v2 v3 v4 v5 : Value} (h : En6 w b v0 v1 v2 v3 v4 v5) (u : Value) : En6 (w.setCell ⟨b,2,none⟩ u) b v0 v1 u v3 v4 v5:=
 ⟨(cell_setCell_ne _ _ (by simp)).trans h.c0,(cell_setCell_ne _ _ (by simp)).trans h.c1,cell_setCell_same _ _ h.c2,(cell_setCell_ne _ _ (by simp)).trans h.c3,(cell_setCell_ne _ _ (by simp)).trans h.c4,(cell_setCell_ne _ _ (by simp)).trans h.c5,(frozen_setCell _ _ _ _).trans h.f0,(frozen_setCell _ _ _ _).trans h.f1,(frozen_setCell _ _ _ _).trans h.f2,(frozen_setCell _ _ _ _).trans h.f3,(frozen_setCell _ _ _ _).trans h.f4,(frozen_setCell _ _ _ _).trans h.f5⟩

theorem En6.put3 {w : World} {b : Nat} {v0 v1 v2 v3 v4 v5 : Value} (h : En6 w b v0 v1 v2 v3 v4 v5) (u : Value) : En6 (w.setCell ⟨b,3,none⟩ u) b v0 v1 v2 u v4 v5:=
 ⟨(cell_setCell_ne _ _ (by simp)).trans h.c0,(cell_setCell_ne _ _ (by simp)).trans h.c1,(cell_setCell_ne _ _ (by simp)).trans h.c2,cell_setCell_same _ _ h.c3,(cell_setCell_ne _ _ (by simp)).trans h.c4,(cell_setCell_ne _ _ (by simp)).trans h.c5,(frozen_setCell _ _ _ _).trans h.f0,(frozen_setCell _ _ _ _).trans h.f1,(frozen_setCell _ _ _ _).trans h.f2,(frozen_setCell _ _ _ _).trans h.f3,(frozen_setCell _ _ _ _).trans h.f4,(frozen_setCell _ _ _ _).trans h.f5⟩

theorem En6.put4 {w : World} {b : Nat} {v0 v1 v2 v3 v4 v5 : Value} (h : En6 w b v0 v1 v2 v3 v4 v5) (u : Value) : En6 (w.setCell ⟨b,4,none⟩ u) b v0 v1 v2 v3 u v5:=
 ⟨(cell_setCell_ne _ _ (by simp)).trans h.c0,(cell_setCell_ne _ _ (by simp)).trans h.c1,(cell_setCell_ne _ _ (by simp)).trans h.c2,(cell_setCell_ne _ _ (by simp)).trans h.c3,cell_setCell_same _ _ h.c4,(cell_setCell_ne _ _ (by simp)).trans h.c5,(frozen_setCell _ _ _ _).trans h.f0,(frozen_setCell _ _ _ _).trans h.f1,(frozen_setCell _ _ _ _).trans h.f2,(frozen_setCell _ _ _ _).trans h.f3,(frozen_setCell _ _ _ _).trans h.f4,(frozen_setCell _ _ _ _).trans h.f5⟩

theorem En6.put5 {w : World} {b : Nat} {v0 v1 v2 v3 v4 v5 : Value} (h : En6 w b v0 v1 v2 v3 v4 v5) (u : Value) : En6 (w.setCell ⟨b,5,none⟩ u) b v0 v1 v2 v3 v4 u:=
 ⟨(cell_setCell_ne _ _ (by simp)).trans h.c0,(cell_setCell_ne _ _ (by simp)).trans h.c1,(cell_setCell_ne _ _ (by simp)).trans h.c2,(cell_setCell_ne _ _ (by simp)).trans h.c3,(cell_setCell_ne _ _ (by simp)).trans h.c4,cell_setCell_same _ _ h.c5,(frozen_setCell _ _ _ _).trans h.f0,(frozen_setCell _ _ _ _).trans h.f1,(frozen_setCell _ _ _ _).trans h.f2,(frozen_setCell _ _ _ _).trans h.f3,(frozen_setCell _ _ _ _).trans h.f4,(frozen_setCell _ _ _ _).trans h.f5⟩

set_option maxHeartbeats 8000000 in
theorem rentry_any {w : World} {sb r d : Nat} {t : St} (h : Sc w sb r d t) :
  Calls Tryz.prog 78 #[.pointer (some ⟨sb,0,none⟩)] w fun e w'=>∃ (x : En) (t' : St),e = .returned (enV x)∧(x.2.1.length≤262144∧-9223372036854775808≤x.2.2.1∧x.2.2.1≤9223372036854775807)∧Sc w' sb r d t'∧Out pEntry t x t'∧Only [sb,r] w w':=by
 have o0:=hid ((Only.refl [sb,r] w).alloc (.cells #[.int .i64 0,.string ⟨#[]⟩,.int .i64 0,.int .i64 0,.int .i64 0,.int .i64 0] 90))
 have h0:=h.only0 ((Only.refl [] w).alloc (.cells #[.int .i64 0,.string ⟨#[]⟩,.int .i64 0,.int .i64 0,.int .i64 0,.int .i64 0] 90))
 have hl:=h.lt
 clear h
 have R0:=hid (en6_new w (.int .i64 0) (.string ⟨#[]⟩) (.int .i64 0) (.int .i64 0) (.int .i64 0) (.int .i64 0) 90)
 have c0:=h0.c0
 have HA:=hid (sc_at h0)
 have HU:=hid (sc_u1 h0)
 go_enter Tryz.func78,Tryz.ntmps78
 go_wp2_with fail
 refine HA.out.mono ?_
 rintro e wx ⟨at_,rfl,hat,rfl⟩
 clear HA
 go_wp2_with fail
 refine HU.out.mono ?_
 rintro e w1 ⟨n,t1,rfl,hn,h1,hO,ho1⟩
 obtain ⟨kk,hkk⟩ : ∃ kk : Int,(n : Int) = kk:=⟨_,rfl⟩
 rw [hkk]
 replace hkk:=hid hkk
 have o1:=hid (o0.out.trans ho1 (by simp))
 have R1a:=R0.out.only ho1 (by simp; omega)
 have hsz : w.heap.size < w1.heap.size:=Nat.lt_of_lt_of_le (by simp) ho1.size
 have oA:=(Only.refl [] w1).alloc (.cells #[.int .i64 kk,.string ⟨#[]⟩,.int .i64 0,.int .i64 0,.int .i64 0,.int .i64 0] 90)
 have hW1:=h1.only0 oA
 have L1:=hid (en6_new w1 (.int .i64 kk) (.string ⟨#[]⟩) (.int .i64 0) (.int .i64 0) (.int .i64 0) (.int .i64 0) 90)
 have R1:=hid (R1a.only oA (by simp))
 have oW1:=hid (o1.out.next oA (by simp))
 have cW:=hW1.c0
 have hl1:=h1.lt
 replace hO:=hid hO
 replace hat:=hid hat
 clear R1a c0
 clear HU R0 h1 o0 ho1
 by_cases k1 : kk = 1
 ·subst k1
  have hk:=hkk.out
  obtain rfl : n = 1:=by omega
  clear hk hkk
  have HV:=hid (sc_text hW1)
  go_wp2_with fail
  refine HV.out.mono ?_
  rintro e w2 ⟨x,t2,rfl,hx,hs2,hO2,ho2⟩
  clear HV
  have hL2:=L1.out.only ho2 (by simp; omega)
  have hR2:=R1.out.only ho2 (by simp; omega)
  have hL2h:=hid hL2
  obtain ⟨j0,j1,j2,j3,j4,j5,y0,y1,y2,y3,y4,y5⟩:=hL2
  have hL3:=hL2h.out.put1 (.string (str x))
  have oL : Only [w1.heap.size] w2 (w2.setCell ⟨w1.heap.size,1,none⟩ (.string (str x))):=(Only.refl [w1.heap.size] w2).setCell (.inl (by simp)) _
  have hR3:=hR2.only oL (by simp; omega)
  have hS3:=hs2.other (rv:=w1.heap.size) (by simp) (.inr (.inl j1)) (by have:=ho2.size; omega) oL
  have on3:=(oW1.out.trans ho2 (by simp)).next oL (by simp; omega)
  have hout : Out pEntry t (1,x,0,0,0,0) t2:=out_entry hat.out hO.out (by unfold entryF; rw [if_pos rfl]; exact out_bind hO2 (out_done _ _))
  replace hL3:=hid hL3
  replace hR3:=hid hR3
  replace hS3:=hid hS3
  replace on3:=hid on3
  replace hout:=hid hout
  clear hL2h hR2
  obtain ⟨l0,l1,l2,l3,l4,l5,_,_,_,_,_,_⟩:=hL3.out
  obtain ⟨e0,e1,e2,e3,e4,e5,z0,z1,z2,z3,z4,z5⟩:=hR3.out
  go_wp2_with fail
  refine bodyPost_ret (v:=enV (1,x,0,0,0,0)) (by simp [results,Tryz.results78,go_sem,e0,e1,e2,e3,e4,e5,enV] <;> rfl) rfl ?_
  refine ⟨(1,x,0,0,0,0),_,rfl,⟨hx,by simp,by simp⟩,(hS3.out).other (rv:=w.heap.size) (by simp) (.inr (.inl e1)) (by omega) ?_,hout.out,(on3.out).next (S':=[w.heap.size]) ?_ (by simp)⟩
  all_goals exact ((((((Only.refl [w.heap.size] _).setCell (.inl (by simp)) _).setCell (.inl (by simp)) _).setCell (.inl (by simp)) _).setCell (.inl (by simp)) _).setCell (.inl (by simp)) _).setCell (.inl (by simp)) _
 have k1' : (kk == 1) = false:=by simpa using k1
 by_cases k2 : kk = 2
 ·subst k2
  have hk:=hkk.out
  obtain rfl : n = 2:=by omega
  clear hk hkk
  have HV:=hid (sc_n8 hW1)
  go_wp2_with fail
  refine HV.out.mono ?_
  rintro e w2 ⟨x,t2,rfl,hx,hs2,hO2,ho2⟩
  clear HV
  have hL2:=L1.out.only ho2 (by simp; omega)
  have hR2:=R1.out.only ho2 (by simp; omega)
  have hL2h:=hid hL2
  obtain ⟨j0,j1,j2,j3,j4,j5,y0,y1,y2,y3,y4,y5⟩:=hL2
  have hL3:=hL2h.out.put2 (.int .i64 x)
  have oL : Only [w1.heap.size] w2 (w2.setCell ⟨w1.heap.size,2,none⟩ (.int .i64 x)):=(Only.refl [w1.heap.size] w2).setCell (.inl (by simp)) _
  have hR3:=hR2.only oL (by simp; omega)
  have hS3:=hs2.other (rv:=w1.heap.size) (by simp) (.inr (.inl j1)) (by have:=ho2.size; omega) oL
  have on3:=(oW1.out.trans ho2 (by simp)).next oL (by simp; omega)
  have hout : Out pEntry t (2,[],x,0,0,0) t2:=out_entry hat.out hO.out (by unfold entryF; rw [if_neg (by decide),if_pos rfl]; exact out_bind hO2 (out_done _ _))
  replace hL3:=hid hL3
  replace hR3:=hid hR3
  replace hS3:=hid hS3
  replace on3:=hid on3
  replace hout:=hid hout
  clear hL2h hR2
  obtain ⟨l0,l1,l2,l3,l4,l5,_,_,_,_,_,_⟩:=hL3.out
  obtain ⟨e0,e1,e2,e3,e4,e5,z0,z1,z2,z3,z4,z5⟩:=hR3.out
  go_wp2_with fail
  refine bodyPost_ret (v:=enV (2,[],x,0,0,0)) (by simp [results,Tryz.results78,go_sem,e0,e1,e2,e3,e4,e5,enV] <;> rfl) rfl ?_
  refine ⟨(2,[],x,0,0,0),_,rfl,⟨by simp,hx.1,hx.2⟩,(hS3.out).other (rv:=w.heap.size) (by simp) (.inr (.inl e1)) (by omega) ?_,hout.out,(on3.out).next (S':=[w.heap.size]) ?_ (by simp)⟩
  all_goals exact ((((((Only.refl [w.heap.size] _).setCell (.inl (by simp)) _).setCell (.inl (by simp)) _).setCell (.inl (by simp)) _).setCell (.inl (by simp)) _).setCell (.inl (by simp)) _).setCell (.inl (by simp)) _
 have k2' : (kk == 2) = false:=by simpa using k2
 by_cases k3 : kk = 3
 ·subst k3
  have hk:=hkk.out
  obtain rfl : n = 3:=by omega
  clear hk hkk
  have HV:=hid (sc_u2 hW1)
  go_wp2_with fail
  refine HV.out.mono ?_
  rintro e w2 ⟨x,t2,rfl,hx,hs2,hO2,ho2⟩
  clear HV
  have hL2:=L1.out.only ho2 (by simp; omega)
  have hR2:=R1.out.only ho2 (by simp; omega)
  have hL2h:=hid hL2
  obtain ⟨j0,j1,j2,j3,j4,j5,y0,y1,y2,y3,y4,y5⟩:=hL2
  have hL3:=hL2h.out.put3 (.int .i64 (x : Int))
  have oL : Only [w1.heap.size] w2 (w2.setCell ⟨w1.heap.size,3,none⟩ (.int .i64 (x : Int))):=(Only.refl [w1.heap.size] w2).setCell (.inl (by simp)) _
  have hR3:=hR2.only oL (by simp; omega)
  have hS3:=hs2.other (rv:=w1.heap.size) (by simp) (.inr (.inl j1)) (by have:=ho2.size; omega) oL
  have on3:=(oW1.out.trans ho2 (by simp)).next oL (by simp; omega)
  have hout : Out pEntry t (3,[],0,(x : Int),0,0) t2:=out_entry hat.out hO.out (by unfold entryF; rw [if_neg (by decide),if_neg (by decide),if_pos (by decide)]; exact out_bind hO2 (out_done _ _))
  replace hL3:=hid hL3
  replace hR3:=hid hR3
  replace hS3:=hid hS3
  replace on3:=hid on3
  replace hout:=hid hout
  clear hL2h hR2
  obtain ⟨l0,l1,l2,l3,l4,l5,_,_,_,_,_,_⟩:=hL3.out
  obtain ⟨e0,e1,e2,e3,e4,e5,z0,z1,z2,z3,z4,z5⟩:=hR3.out
  go_wp2_with fail
  refine bodyPost_ret (v:=enV (3,[],0,(x : Int),0,0)) (by simp [results,Tryz.results78,go_sem,e0,e1,e2,e3,e4,e5,enV] <;> rfl) rfl ?_
  refine ⟨(3,[],0,(x : Int),0,0),_,rfl,⟨by simp,by simp,by simp⟩,(hS3.out).other (rv:=w.heap.size) (by simp) (.inr (.inl e1)) (by omega) ?_,hout.out,(on3.out).next (S':=[w.heap.size]) ?_ (by simp)⟩
  all_goals exact ((((((Only.refl [w.heap.size] _).setCell (.inl (by simp)) _).setCell (.inl (by simp)) _).setCell (.inl (by simp)) _).setCell (.inl (by simp)) _).setCell (.inl (by simp)) _).setCell (.inl (by simp)) _
 have k3' : (kk == 3) = false:=by simpa using k3
 by_cases k4 : kk = 4
 ·subst k4
  have hk:=hkk.out
  obtain rfl : n = 4:=by omega
  clear hk hkk
  have HV:=hid (sc_u2 hW1)
  go_wp2_with fail
  refine HV.out.mono ?_
  rintro e w2 ⟨x,t2,rfl,hx,hs2,hO2,ho2⟩
  clear HV
  have hL2:=L1.out.only ho2 (by simp; omega)
  have hR2:=R1.out.only ho2 (by simp; omega)
  have hL2h:=hid hL2
  obtain ⟨j0,j1,j2,j3,j4,j5,y0,y1,y2,y3,y4,y5⟩:=hL2
  have hL3:=hL2h.out.put3 (.int .i64 (x : Int))
  have oL : Only [w1.heap.size] w2 (w2.setCell ⟨w1.heap.size,3,none⟩ (.int .i64 (x : Int))):=(Only.refl [w1.heap.size] w2).setCell (.inl (by simp)) _
  have hR3:=hR2.only oL (by simp; omega)
  have hS3:=hs2.other (rv:=w1.heap.size) (by simp) (.inr (.inl j1)) (by have:=ho2.size; omega) oL
  have on3:=(oW1.out.trans ho2 (by simp)).next oL (by simp; omega)
  have hout : Out pEntry t (4,[],0,(x : Int),0,0) t2:=out_entry hat.out hO.out (by unfold entryF; rw [if_neg (by decide),if_neg (by decide),if_pos (by decide)]; exact out_bind hO2 (out_done _ _))
  replace hL3:=hid hL3
  replace hR3:=hid hR3
  replace hS3:=hid hS3
  replace on3:=hid on3
  replace hout:=hid hout
  clear hL2h hR2
  obtain ⟨l0,l1,l2,l3,l4,l5,_,_,_,_,_,_⟩:=hL3.out
  obtain ⟨e0,e1,e2,e3,e4,e5,z0,z1,z2,z3,z4,z5⟩:=hR3.out
  go_wp2_with fail
  refine bodyPost_ret (v:=enV (4,[],0,(x : Int),0,0)) (by simp [results,Tryz.results78,go_sem,e0,e1,e2,e3,e4,e5,enV] <;> rfl) rfl ?_
  refine ⟨(4,[],0,(x : Int),0,0),_,rfl,⟨by simp,by simp,by simp⟩,(hS3.out).other (rv:=w.heap.size) (by simp) (.inr (.inl e1)) (by omega) ?_,hout.out,(on3.out).next (S':=[w.heap.size]) ?_ (by simp)⟩
  all_goals exact ((((((Only.refl [w.heap.size] _).setCell (.inl (by simp)) _).setCell (.inl (by simp)) _).setCell (.inl (by simp)) _).setCell (.inl (by simp)) _).setCell (.inl (by simp)) _).setCell (.inl (by simp)) _
 have k4' : (kk == 4) = false:=by simpa using k4
 by_cases k56 : kk = 5∨kk = 6
 ·have hnk : Hid (n = 5∨n = 6):=by
   have:=hkk.out
   rcases k56 with e | e
   ·exact .inl (by omega)
   ·exact .inr (by omega)
  obtain ⟨rv,hrv⟩ : ∃ rv,rv = w1.heap.size:=⟨_,rfl⟩
  have hr : rv≠sb∧rv≠r:=by omega
  have hw : w.heap.size≤rv:=by omega
  obtain ⟨gv,hgv⟩:=gv_ex rv
  replace hgv:=hid hgv
  have hk:=knew6 hgv.out hW1.c0 oW1.out (by subst hrv; exact L1.out.c0) (by subst hrv; exact L1.out.c1) (by subst hrv; exact L1.out.c2) (by subst hrv; exact L1.out.c3) (by subst hrv; exact L1.out.c4) (by subst hrv; exact L1.out.c5) (by subst hrv; exact L1.out.f0) (by subst hrv; exact L1.out.f1) (by subst hrv; exact L1.out.f2) (by subst hrv; exact L1.out.f3) (by subst hrv; exact L1.out.f4) (by subst hrv; exact L1.out.f5)
  replace hk:=hid hk
  replace hrv:=hid hrv
  have L1' : Hid (En6 (w1.alloc (.cells #[.int .i64 kk,.string ⟨#[]⟩,.int .i64 0,.int .i64 0,.int .i64 0,.int .i64 0] 90)) rv (.int .i64 kk) (.string ⟨#[]⟩) (.int .i64 0) (.int .i64 0) (.int .i64 0) (.int .i64 0)):=by
   rw [hrv.out]
   exact L1.out
  have hkv : Hid ((n : Int) = kk):=hkk
  have hrw : Hid (rv≠w.heap.size∧rv≠d):=by
   have:=hrv.out
   exact ⟨by omega,by omega⟩
  clear hkk L1
  have hfin : ∀ (W : World),True:=fun _=>trivial
  rcases k56 with rfl | rfl
  ·have hdum:=trivial
   go_wp2_with fail
   rw [← hrv.out]
   go_region_held3 (fun w'=>w'.cell? ⟨sb,0,none⟩ = some (.pointer (some ⟨r,0,none⟩))∧Only [sb,r] w w'∧w'.cell? ⟨rv,0,none⟩ = some (gv 0 w')∧w'.cell? ⟨rv,1,none⟩ = some (gv 1 w')∧w'.cell? ⟨rv,2,none⟩ = some (gv 2 w')∧w'.cell? ⟨rv,3,none⟩ = some (gv 3 w')∧w'.cell? ⟨rv,4,none⟩ = some (gv 4 w')∧w'.cell? ⟨rv,5,none⟩ = some (gv 5 w')∧w'.frozen? ⟨rv,0,none⟩ = false∧w'.frozen? ⟨rv,1,none⟩ = false∧w'.frozen? ⟨rv,2,none⟩ = false∧w'.frozen? ⟨rv,3,none⟩ = false∧w'.frozen? ⟨rv,4,none⟩ = false∧w'.frozen? ⟨rv,5,none⟩ = false)
    (first | (with_reducible exact hk.out) | (with_reducible exact kdrew6 hgv.out hk.out) | ((with_reducible refine kset6 hgv.out hr hw _ _ ?_); (with_reducible assumption)) | (with_reducible exact kcall6 hgv.out hr (by assumption) (by assumption) (by assumption) (by simp)))
    (first
     | (go_at_call 77; (first | (with_reducible refine (sc_u2 (by assumption)).mono ?_) | (with_reducible refine (sc_u2 (Sc.drew (by assumption))).mono ?_)); rintro e w1 ⟨m,t',rfl,hm,hs,hO2,ho⟩; obtain ⟨_,_,k0,k1,k2,k3,k4,k5,z0,z1,z2,z3,z4,z5⟩:=kcall6 hgv.out hr (by assumption) hs ho (by simp)))
   rename_i wa ma ta hma hsa hOa hoa _ _ _ _ _ _ _ _ _ _ _ _ _ _ wb mb tb hmb hsb hOb hob _ _ _ _ _ _ _ _ _ _ _ _ _ _ _ oc hH
   clear hH k0 k1 k2 k3 k4 k5 z0 z1 z2 z3 z4 z5
   have hall:=(((Only.refl [r] _).drew.trans hoa (by simp)).trans hob (by simp)).trans ho (by simp)
   have hn0:=hrw.out
   have L2:=L1'.out.only hall (by simp [hr.2])
   have R2:=R1.out.only hall (by simp; omega)
   have oS : Only [rv] w1 (((w1.setCell ⟨rv,3,none⟩ (.int .i64 (ma : Int))).setCell ⟨rv,4,none⟩ (.int .i64 (mb : Int))).setCell ⟨rv,5,none⟩ (.int .i64 (m : Int))):=(((Only.refl [rv] w1).setCell (.inl (by simp)) _).setCell (.inl (by simp)) _).setCell (.inl (by simp)) _
   have hL3:=hid (((L2.put3 (.int .i64 (ma : Int))).put4 (.int .i64 (mb : Int))).put5 (.int .i64 (m : Int)))
   have hR3:=hid (R2.only oS (by simp; omega))
   have hS3:=hid (hs.other (rv:=rv) (by simp) (.inr (.inl L2.c1)) ⟨hr.1,hr.2,hn0.2⟩ oS)
   have on3:=hid (oc.next oS (by simp; omega))
   have hout : Hid (Out pEntry t (5,[],0,(ma : Int),(mb : Int),(m : Int)) t'):=out_entry hat.out hO.out (by
    have e1:=hkv.out
    unfold entryF
    rw [if_neg (by omega),if_neg (by omega),if_neg (by omega),if_pos hnk.out,e1]
    exact out_bind hOa (out_bind hOb (out_bind hO2 (out_done _ _))))
   clear L2 R2
   obtain ⟨l0,l1,l2,l3,l4,l5,_,_,_,_,_,_⟩:=hL3.out
   obtain ⟨e0,e1,e2,e3,e4,e5,z0,z1,z2,z3,z4,z5⟩:=hR3.out
   go_wp2_with fail
   refine bodyPost_ret (v:=enV (5,[],0,(ma : Int),(mb : Int),(m : Int))) (by simp [results,Tryz.results78,go_sem,e0,e1,e2,e3,e4,e5,enV] <;> rfl) rfl ?_
   refine ⟨(5,[],0,(ma : Int),(mb : Int),(m : Int)),_,rfl,⟨by simp,by simp,by simp⟩,(hS3.out).other (rv:=w.heap.size) (by simp) (.inr (.inl e1)) (by omega) ?_,hout.out,(on3.out).next (S':=[w.heap.size]) ?_ (by simp)⟩
   all_goals exact ((((((Only.refl [w.heap.size] _).setCell (.inl (by simp)) _).setCell (.inl (by simp)) _).setCell (.inl (by simp)) _).setCell (.inl (by simp)) _).setCell (.inl (by simp)) _).setCell (.inl (by simp)) _
  ·have hdum:=trivial
   go_wp2_with fail
   rw [← hrv.out]
   go_region_held3 (fun w'=>w'.cell? ⟨sb,0,none⟩ = some (.pointer (some ⟨r,0,none⟩))∧Only [sb,r] w w'∧w'.cell? ⟨rv,0,none⟩ = some (gv 0 w')∧w'.cell? ⟨rv,1,none⟩ = some (gv 1 w')∧w'.cell? ⟨rv,2,none⟩ = some (gv 2 w')∧w'.cell? ⟨rv,3,none⟩ = some (gv 3 w')∧w'.cell? ⟨rv,4,none⟩ = some (gv 4 w')∧w'.cell? ⟨rv,5,none⟩ = some (gv 5 w')∧w'.frozen? ⟨rv,0,none⟩ = false∧w'.frozen? ⟨rv,1,none⟩ = false∧w'.frozen? ⟨rv,2,none⟩ = false∧w'.frozen? ⟨rv,3,none⟩ = false∧w'.frozen? ⟨rv,4,none⟩ = false∧w'.frozen? ⟨rv,5,none⟩ = false)
    (first | (with_reducible exact hk.out) | (with_reducible exact kdrew6 hgv.out hk.out) | ((with_reducible refine kset6 hgv.out hr hw _ _ ?_); (with_reducible assumption)) | (with_reducible exact kcall6 hgv.out hr (by assumption) (by assumption) (by assumption) (by simp)))
    (first
     | (go_at_call 77; (first | (with_reducible refine (sc_u2 (by assumption)).mono ?_) | (with_reducible refine (sc_u2 (Sc.drew (by assumption))).mono ?_)); rintro e w1 ⟨m,t',rfl,hm,hs,hO2,ho⟩; obtain ⟨_,_,k0,k1,k2,k3,k4,k5,z0,z1,z2,z3,z4,z5⟩:=kcall6 hgv.out hr (by assumption) hs ho (by simp)))
   rename_i wa ma ta hma hsa hOa hoa _ _ _ _ _ _ _ _ _ _ _ _ _ _ wb mb tb hmb hsb hOb hob _ _ _ _ _ _ _ _ _ _ _ _ _ _ _ oc hH
   clear hH k0 k1 k2 k3 k4 k5 z0 z1 z2 z3 z4 z5
   have hall:=(((Only.refl [r] _).drew.trans hoa (by simp)).trans hob (by simp)).trans ho (by simp)
   have hn0:=hrw.out
   have L2:=L1'.out.only hall (by simp [hr.2])
   have R2:=R1.out.only hall (by simp; omega)
   have oS : Only [rv] w1 (((w1.setCell ⟨rv,3,none⟩ (.int .i64 (ma : Int))).setCell ⟨rv,4,none⟩ (.int .i64 (mb : Int))).setCell ⟨rv,5,none⟩ (.int .i64 (m : Int))):=(((Only.refl [rv] w1).setCell (.inl (by simp)) _).setCell (.inl (by simp)) _).setCell (.inl (by simp)) _
   have hL3:=hid (((L2.put3 (.int .i64 (ma : Int))).put4 (.int .i64 (mb : Int))).put5 (.int .i64 (m : Int)))
   have hR3:=hid (R2.only oS (by simp; omega))
   have hS3:=hid (hs.other (rv:=rv) (by simp) (.inr (.inl L2.c1)) ⟨hr.1,hr.2,hn0.2⟩ oS)
   have on3:=hid (oc.next oS (by simp; omega))
   have hout : Hid (Out pEntry t (6,[],0,(ma : Int),(mb : Int),(m : Int)) t'):=out_entry hat.out hO.out (by
    have e1:=hkv.out
    unfold entryF
    rw [if_neg (by omega),if_neg (by omega),if_neg (by omega),if_pos hnk.out,e1]
    exact out_bind hOa (out_bind hOb (out_bind hO2 (out_done _ _))))
   clear L2 R2
   obtain ⟨l0,l1,l2,l3,l4,l5,_,_,_,_,_,_⟩:=hL3.out
   obtain ⟨e0,e1,e2,e3,e4,e5,z0,z1,z2,z3,z4,z5⟩:=hR3.out
   go_wp2_with fail
   refine bodyPost_ret (v:=enV (6,[],0,(ma : Int),(mb : Int),(m : Int))) (by simp [results,Tryz.results78,go_sem,e0,e1,e2,e3,e4,e5,enV] <;> rfl) rfl ?_
   refine ⟨(6,[],0,(ma : Int),(mb : Int),(m : Int)),_,rfl,⟨by simp,by simp,by simp⟩,(hS3.out).other (rv:=w.heap.size) (by simp) (.inr (.inl e1)) (by omega) ?_,hout.out,(on3.out).next (S':=[w.heap.size]) ?_ (by simp)⟩
   all_goals exact ((((((Only.refl [w.heap.size] _).setCell (.inl (by simp)) _).setCell (.inl (by simp)) _).setCell (.inl (by simp)) _).setCell (.inl (by simp)) _).setCell (.inl (by simp)) _).setCell (.inl (by simp)) _
 ·have k5 : ¬ kk = 5:=fun e=>k56 (.inl e)
  have k6 : ¬ kk = 6:=fun e=>k56 (.inr e)
  have k5' : (kk == 5) = false:=by simpa using k5
  have k6' : (kk == 6) = false:=by simpa using k6
  have HV:=hid (refuse_src hW1 (at_ : Int) 3 (by decide))
  have hnk : Hid (¬ n = 1∧¬ n = 2∧¬ (n = 3∨n = 4)∧¬ (n = 5∨n = 6)):=by
   have:=hkk.out
   exact ⟨by omega,by omega,by omega,by omega⟩
  clear k56
  go_wp2_with fail
  refine HV.out.mono ?_
  rintro e w2 ⟨rfl,hs2,ho2⟩
  clear HV
  have hL3:=hid (L1.out.only ho2 (by simp; omega))
  have hR3:=hid (R1.out.only ho2 (by simp; omega))
  have hS3:=hid hs2
  have on3:=hid (oW1.out.trans ho2 (by simp))
  have hout : Hid (Out pEntry t (kk,[],0,0,0,0) (tRefuse (at_ : Int) 3 t1)):=out_entry hat.out hO.out (by
   unfold entryF
   rw [if_neg hnk.out.1,if_neg hnk.out.2.1,if_neg hnk.out.2.2.1,if_neg hnk.out.2.2.2]
   exact out_fail _ _ _ _)
  clear hs2
  obtain ⟨l0,l1,l2,l3,l4,l5,_,_,_,_,_,_⟩:=hL3.out
  obtain ⟨e0,e1,e2,e3,e4,e5,z0,z1,z2,z3,z4,z5⟩:=hR3.out
  go_wp2_with fail
  refine bodyPost_ret (v:=enV (kk,[],0,0,0,0)) (by simp [results,Tryz.results78,go_sem,e0,e1,e2,e3,e4,e5,enV] <;> rfl) rfl ?_
  refine ⟨(kk,[],0,0,0,0),_,rfl,⟨by simp,by simp,by simp⟩,(hS3.out).other (rv:=w.heap.size) (by simp) (.inr (.inl e1)) (by omega) ?_,hout.out,(on3.out).next (S':=[w.heap.size]) ?_ (by simp)⟩
  all_goals exact ((((((Only.refl [w.heap.size] _).setCell (.inl (by simp)) _).setCell (.inl (by simp)) _).setCell (.inl (by simp)) _).setCell (.inl (by simp)) _).setCell (.inl (by simp)) _).setCell (.inl (by simp)) _

end Go.Proofs.YtildemmkhndhjaaGreatDoor
