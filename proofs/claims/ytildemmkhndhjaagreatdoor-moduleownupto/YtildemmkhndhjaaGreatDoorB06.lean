/-
  What the proof leans on, part 6 of 48. The conditions stand in each theorem.
-/
import Derived.Test.YtildemmkhndhjaaGreatDoorB01
import Derived.Laws.AppendOwnNone
import Derived.Laws.OwnMore
import Derived.Deep.RegionLaw
import Derived.Laws.BitsAllLaws
import Derived.Laws.Bits64
import Derived.Laws.ResultCell
namespace Go.Proofs.YtildemmkhndhjaaGreatDoor
open Go.RowKit

/-- Where the cells of a slice lie that is read: nowhere, if there are none; else in block d, one behind the other. -/
def RS (w : World) (ao : Option Addr) (cs : List Value) (d : Nat) : Prop:=
 cs = []∨∃ off,ao = some ⟨d,off,none⟩∧∀ j u,cs[j]? = some u→w.cell? ⟨d,off + j,none⟩ = some u

theorem RS.nil (w : World) (ao : Option Addr) (d : Nat) : RS w ao [] d:=.inl rfl

theorem RS.lt {w : World} {ao : Option Addr} {cs : List Value} {d : Nat} (h : RS w ao cs d) (hn : cs≠[]) : d < w.heap.size:=by
 rcases h with h | ⟨off,_,hc⟩
 ·exact absurd h hn
 ·have h0 : 0 < cs.length:=List.length_pos_iff.2 hn
  exact World.block_lt_of_cell? w _ (hc 0 cs[0] (by simp [h0]))

theorem RS.only {w w' : World} {S : List Nat} {ao : Option Addr} {cs : List Value} {d : Nat} (h : RS w ao cs d) (ho : Only S w w') (hn : cs≠[]→d ∉ S) : RS w' ao cs d:=by
 rcases h with h | ⟨off,ha,hc⟩
 ·exact .inl h
 ·by_cases hb : cs = []
  ·exact .inl hb
  have hd:=hn hb
  exact .inr ⟨off,ha,fun j u hj=>by rw [ho.cell (World.block_lt_of_cell? w _ (hc j u hj)) hd]; exact hc j u hj⟩

theorem RS.only0 {w w' : World} {ao : Option Addr} {cs : List Value} {d : Nat} (h : RS w ao cs d) (ho : Only [] w w') : RS w' ao cs d:=h.only ho (by simp)

theorem RS.take {w : World} {ao : Option Addr} {cs : List Value} {d : Nat} (h : RS w ao cs d) (n : Nat) : RS w ao (cs.take n) d:=by
 rcases h with h | ⟨off,ha,hc⟩
 ·exact .inl (by simp [h])
 ·refine .inr ⟨off,ha,fun j u hj=>hc j u ?_⟩
  rw [List.getElem?_take] at hj
  split at hj
  ·exact hj
  ·cases hj

theorem RS.none_nil {w : World} {cs : List Value} {d : Nat} (h : RS w none cs d) : cs = []:=by
 rcases h with h | ⟨off,ha,_⟩
 ·exact h
 ·cases ha

theorem RS.cells {w : World} {a : Addr} {cs : List Value} {d : Nat} (h : RS w (some a) cs d) : ∀ j u,cs[j]? = some u→w.cell? (a.add j) = some u:=by
 intro j u hu
 rcases h with h | ⟨off,ha,hc⟩
 ·rw [h] at hu
  simp at hu
 ·cases ha
  rw [Addr.add_lit]
  exact hc j u hu

/-- The cell of a row. -/
theorem RS.at {w : World} {ao : Option Addr} {cs : List Value} {d : Nat} (h : RS w ao cs d) {j : Nat} (hj : j < cs.length) : ∃ off,ao = some ⟨d,off,none⟩∧∀ j u,cs[j]? = some u→w.cell? ⟨d,off + j,none⟩ = some u:=by
 rcases h with h | h
 ·rw [h] at hj
  simp at hj
 ·exact h

section
variable {e : TypeId} {k : Nat}

theorem rows_mono {w : World} {B C n : Nat} {v : Value} {xs : List Value} (h : w.ownsRow B e k v n xs) (hC : C≤B) : w.ownsRow C e k v n xs:=by
 refine ⟨h.1,?_⟩
 rcases h.2 with q | ⟨g,cap,cur,q1,q2,q3⟩
 ·exact .inl q
 ·exact .inr ⟨g,cap,cur,q1,by omega,q3⟩

theorem rows_only {w w' : World} {B n : Nat} {S : List Nat} {v : Value} {xs : List Value} (h : w.ownsRow B e k v n xs) (ho : Only S w w') (hn : ∀ k,v.ownBlock = some k→k ∉ S) : w'.ownsRow B e k v n xs:=by
 refine ⟨h.1,?_⟩
 rcases h.2 with q | ⟨g,cap,cur,q1,q2,q3,q4⟩
 ·exact .inl q
 ·subst q1
  exact .inr ⟨g,cap,cur,rfl,q2,by rw [ho.block g (Array.getElem?_eq_some_iff.1 q3).1 (hn g rfl)]; exact q3,q4⟩

theorem rows_slice {w : World} {B n : Nat} {v : Value} {xs : List Value} (h : w.ownsRow B e k v n xs) : ∃ ao cap,v = .slice ao n cap:=by
 rcases h.2 with ⟨rfl,h0⟩ | ⟨g,cap,_,rfl,_⟩
 ·exact ⟨none,0,by rw [h0]⟩
 ·exact ⟨_,_,rfl⟩

/-- What the call owns is a row that is read. -/
theorem RS.of_owns {w : World} {B n : Nat} {ao : Option Addr} {cap : Nat} {xs : List Value} (h : w.ownsRow B e k (.slice ao n cap) n xs) :
  RS w ao xs ((ao.map (·.block)).getD 0)∧n≤cap∧cap≤maxLen∧(ao = none→cap = 0)∧(∀ a,ao = some a→B≤a.block∧a.block < w.heap.size∧a = ⟨a.block,0,none⟩):=by
 rcases h.2 with ⟨hv,h0⟩ | ⟨g,cap',cur,hv,hb,hg,hn,hm,hs,ht⟩
 ·simp only [Value.slice.injEq] at hv
  obtain ⟨rfl,_,rfl⟩:=hv
  have hx : xs = []:=List.eq_nil_of_length_eq_zero (by rw [h.1,h0]; simp)
  subst hx
  exact ⟨RS.nil _ _ _,by omega,by decide,fun _=>rfl,fun a ha=>by cases ha⟩
 ·simp only [Value.slice.injEq] at hv
  obtain ⟨rfl,_,rfl⟩:=hv
  refine ⟨.inr ⟨0,rfl,fun j u hj=>?_⟩,hn,hm,(fun e=>by cases e),fun a ha=>?_⟩
  ·have:=h.cells (g:=g) rfl j u hj
   rw [Addr.add_lit] at this
   exact this
  ·simp at ha
   subst ha
   exact ⟨hb,(Array.getElem?_eq_some_iff.1 hg).1,rfl⟩

/-- A row cut off behind its first m. -/
theorem rows_take {w : World} {B n : Nat} {ao : Option Addr} {cap : Nat} {xs : List Value} (h : w.ownsRow B e k (.slice ao n cap) n xs) (m : Nat) (hm : m≤n) : w.ownsRow B e k (.slice ao m cap) m (xs.take (m * k)):=by
 have hmk : m * k≤n * k:=Nat.mul_le_mul_right k hm
 refine ⟨by rw [List.length_take,h.1]; omega,?_⟩
 rcases h.2 with ⟨hv,h0⟩ | ⟨g,cap',cur,hv,hb,hg,hc,hx,hs,ht⟩
 ·simp only [Value.slice.injEq] at hv
  obtain ⟨rfl,_,rfl⟩:=hv
  have : m = 0:=by omega
  subst this
  exact .inl ⟨rfl,rfl⟩
 ·simp only [Value.slice.injEq] at hv
  obtain ⟨rfl,_,rfl⟩:=hv
  refine .inr ⟨g,cap,cur,rfl,hb,hg,by omega,hx,hs,?_⟩
  rw [← ht,List.take_take]
  congr 1
  omega
end

/-- How much room an append asks for that grows. -/
theorem growG (need : Nat) : ∀ (k old : Nat),old≤need + need / 4 + 192→Builtin.growBy need k old≤need + need / 4 + 192:=by
 intro k
 induction k with
 | zero=>
  intro old h
  exact h
 | succ k ih=>
  intro old h
  simp only [Builtin.growBy]
  split
  ·exact h
  ·exact ih _ (by omega)

theorem capG {need old n : Nat} (h : old < need) (hn : need≤8000000) (hb : n≤4096) : Builtin.nextslicecap need old * n≤281474976710656:=by
 have:=growG need 4 old (by omega)
 have h2 : Builtin.nextslicecap need old≤16000000:=by
  unfold Builtin.nextslicecap
  split
  ·omega
  ·split
   ·omega
   ·omega
 exact Nat.le_trans (Nat.mul_le_mul h2 hb) (by decide)

/-- What is known of an element's type: its zero, its cells, its bytes. -/
structure ElT (e : TypeId) (z : Value) (k n : Nat) : Prop where
 info : (Tryz.prog.info? e).map (fun i=>(i.zero,i.size,i.bytes)) = some (some z,k,n)
 zero : z.cells.size = k
 pos : 0 < k
 few : n≤4096

theorem ElT.parts {e : TypeId} {z : Value} {k n : Nat} (h : ElT e z k n) : ∃ i0,Tryz.prog.info? e = some i0∧i0.zero = some z∧i0.size = k∧i0.bytes = n:=by
 have h:=h.info
 cases hi : Tryz.prog.info? e with
 | none=>rw [hi] at h; cases h
 | some i=>
  rw [hi] at h
  simp at h
  exact ⟨i,rfl,h.1,h.2.1,h.2.2⟩

/-- A new row that an append has made. -/
theorem rows_fresh {e : TypeId} {z : Value} {k n : Nat} (hE : ElT e z k n) (w : World) (xs : List Value) (m cap : Nat) (hx : xs.length = m * k) (hc : m≤cap) (hm : cap≤maxLen) :
  (w.drew.alloc (.cells (xs.toArray ++ Builtin.zeroCells z.cells (cap - m)) e)).ownsRow w.heap.size e k (.slice (some ⟨w.heap.size,0,none⟩) m cap) m xs ∧
  w.grownBy (w.drew.alloc (.cells (xs.toArray ++ Builtin.zeroCells z.cells (cap - m)) e)) none:=by
 refine ⟨⟨hx,.inr ⟨w.heap.size,cap,_,rfl,Nat.le_refl _,Go.heap_alloc_new w.drew _,hc,hm,?_,?_⟩⟩,⟨rfl,rfl,rfl,by simp,fun k hk _=>Below.heap_alloc w.drew _ k hk⟩⟩
 ·rw [Array.size_append,size_zeroCells,hE.zero]
  have e1 : m * k + (cap - m) * k = cap * k:=by rw [← Nat.add_mul]; congr 1; omega
  simp only [List.size_toArray,hx]
  exact e1
 ·simp only [Array.toList_append]
  rw [← hx]
  exact List.take_left

/-- append(out, l...), out the call's own. -/
theorem append_runG {w : World} {B : Nat} {ao lao : Option Addr} {cap lcap d m l k n : Nat} {e : TypeId} {z : Value} {xs ys : List Value} (hE : ElT e z k n) (ty st : TypeId) (hst : Tryz.prog.underlying st = some (.slice e)) (hown : w.ownsRow B e k (.slice ao m cap) m xs) (hb : RS w lao ys d) (hy : ys.length = l * k) (hone : ∀ u∈ys,u.oneCell' = true) (hl : lao = none→lcap = 0)
  (hsz : m + l≤8000000) (hB : B≤w.heap.size) :
  ∃ ao' cap' w',(Builtin.append_ #[st,st] ty #[.slice ao m cap,.slice lao l lcap]).run Tryz.prog w = .ok (.slice ao' (m + l) cap') w'∧w'.ownsRow B e k (.slice ao' (m + l) cap') (m + l) (xs ++ ys) ∧
   w.grownBy w' (Value.ownBlock (.slice ao m cap))∧(∀ a,ao' = some a→(∃ a',ao = some a'∧a'.block = a.block)∨w.heap.size≤a.block)∧(ao' = none→ao = none)∧w'.ownsRow B e k (.slice ao m cap) m xs:=by
 obtain ⟨i0,hi,hz0,hz1,hz2⟩:=hE.parts
 have hk:=hE.pos
 have hmax : m + l≤maxLen:=by unfold maxLen; omega
 cases lao with
 | none=>
  have:=hb.none_nil
  subst this
  have:=hl rfl
  subst this
  have hl0 : l = 0:=by
   rcases Nat.eq_zero_or_pos l with h | h
   ·exact h
   ·have:=Nat.mul_pos h hk
    simp at hy
    omega
  subst hl0
  refine ⟨ao,cap,w,?_,by simpa using hown,⟨rfl,rfl,rfl,Nat.le_refl _,fun _ _ _=>rfl⟩,fun a ha=>.inl ⟨a,ha,rfl⟩,fun h=>h,hown⟩
  exact run_append_owned_none (P:=Tryz.prog) (w:=w) B st ty e i0 k hst hi _ m xs hown
 | some a=>
  rcases hown.2 with ⟨hv,h0⟩ | ⟨g,cap',cur,hv,hbg,hg,hnc,hcm,hcs,htake⟩
  ·subst h0
   have hx : xs = []:=List.eq_nil_of_length_eq_zero (by rw [hown.1]; simp)
   subst hx
   simp only [Value.slice.injEq,true_and] at hv
   obtain ⟨rfl,rfl⟩:=hv
   by_cases hm : l = 0
   ·obtain ⟨v',w',hr,ho,hgr,hiff⟩:=run_append_own (P:=Tryz.prog) w B st ty e i0 z k n hst hi hz0 hz1 hz2 hE.zero hk _ _ _ hown a l lcap ys hy hb.cells hone (by simpa using hmax) (by
      have:=hE.few
      subst hm
      simp) hB
    have:=hiff.2 ⟨rfl,hm⟩
    subst this
    subst hm
    exact ⟨none,0,w',hr,ho,hgr,(fun a ha=>by cases ha),fun _=>rfl,World.ownsRow_nil _ _ _ _⟩
   ·have hr:=run_append_nil (P:=Tryz.prog) w st ty e i0 z hst hi hz0 a l lcap ys (by rw [hz1]; exact hy) hb.cells (by omega) (by omega) (by
      rw [hz2]
      exact Nat.le_trans (Nat.mul_le_mul (show l≤8000000 by omega) hE.few) (by decide))
    obtain ⟨q1,q2⟩:=rows_fresh hE w ys l (grownCap w l 0 e) hy (grownCap_ge _ _ _ _) (grownCap_le_maxLen _ _ _ _ (by simpa using hmax))
    rw [List.nil_append,Nat.zero_add]
    exact ⟨_,_,_,hr,rows_mono q1 hB,⟨q2.os,q2.tape,q2.output,q2.size,fun k hk _=>q2.block k hk (by simp)⟩,fun b hb'=>.inr (by simp at hb'; rw [← hb']; exact Nat.le_refl _),(fun h=>by cases h),World.ownsRow_nil _ _ _ _⟩
  ·simp only [Value.slice.injEq,true_and] at hv
   obtain ⟨rfl,rfl⟩:=hv
   by_cases hroom : m + l≤cap
   ·obtain ⟨w',hr,ho,hgr⟩:=run_append_fits (P:=Tryz.prog) w B st ty e i0 k hst hi hz1 g m cap xs hown a l lcap ys hy hb.cells hone hroom
    have hold:=rows_take ho m (by omega)
    rw [show (xs ++ ys).take (m * k) = xs by rw [← hown.1]; exact List.take_left] at hold
    exact ⟨some ⟨g,0,none⟩,cap,w',hr,ho,hgr,fun a ha=>.inl ⟨_,rfl,by simp at ha; rw [← ha]⟩,(fun h=>by cases h),hold⟩
   ·have hr:=run_append_grow (P:=Tryz.prog) w st ty e i0 z hst hi hz0 ⟨g,0,none⟩ m cap xs (by rw [hz1]; exact hown.1) (hown.cells (g:=g) rfl) a l lcap ys (by rw [hz1]; exact hy) hb.cells (by omega) (by omega) (by rw [hz2]; exact capG (by omega) hsz hE.few)
    obtain ⟨q1,q2⟩:=rows_fresh hE w (xs ++ ys) (m + l) (grownCap w (m + l) cap e) (by rw [List.length_append,hown.1,hy,Nat.add_mul]) (grownCap_ge _ _ _ _) (grownCap_le_maxLen _ _ _ _ hmax)
    have e1 : (xs ++ ys).toArray = xs.toArray ++ ys.toArray:=by simp
    replace q1:=rows_mono q1 hB
    have hold:=rows_only hown (Only.of_grown q2) (by simp)
    rw [e1] at q2 q1 hold
    exact ⟨_,_,_,hr,q1,⟨q2.os,q2.tape,q2.output,q2.size,fun k hk _=>q2.block k hk (by simp)⟩,fun b hb'=>.inr (by simp at hb'; rw [← hb']; exact Nat.le_refl _),(fun h=>by cases h),hold⟩

/-- What an append did: where the row lies now, and that nothing else has turned. -/
structure Appd (w w' : World) (B : Nat) (e : TypeId) (k : Nat) (ao ao' : Option Addr) (m n' cap' : Nat) (xs : List Value) : Prop where
 own : w'.ownsRow B e k (.slice ao' n' cap') n' xs
 grown : w.grownBy w' (Value.ownBlock (.slice ao m 0))
 place : ∀ a,ao' = some a→(∃ a',ao = some a'∧a'.block = a.block)∨w.heap.size≤a.block
 none : ao' = none→ao = none

theorem Appd.only {w w' : World} {B : Nat} {e : TypeId} {k : Nat} {ao ao' : Option Addr} {m n' cap' : Nat} {xs : List Value} (h : Appd w w' B e k ao ao' m n' cap' xs) : Only (Value.ownBlock (.slice ao m 0)).toList w w':=Only.of_grown h.grown

theorem wpList_append_any {w : World} {ops : Array Oper} {rest : List Oper} {o : Oper} {a : Act} {Q : Exit→Act→World→Prop} (hgd : o.guard = none) (s x : Operand) {st e : TypeId} {z : Value} {k n : Nat} (hE : ElT e z k n) (hst : Tryz.prog.underlying st = some (.slice e))
  (ho : o.op = .call { callee:=.builtin .append,args:=#[s,x],argTypes:=#[st,st] })
  {B : Nat} {ao lao : Option Addr} {cap lcap d m l : Nat} {xs ys : List Value} (hs : a.eval s = .slice ao m cap) (hx : a.eval x = .slice lao l lcap) (hown : w.ownsRow B e k (.slice ao m cap) m xs) (hb : RS w lao ys d) (hy : ys.length = l * k) (hone : ∀ u∈ys,u.oneCell' = true) (hl : lao = none→lcap = 0)
  (hsz : m + l≤8000000) (hB : B≤w.heap.size)
  (h : ∀ ao' cap' w',Appd w w' B e k ao ao' m (m + l) cap' (xs ++ ys)→wpList Tryz.prog ops Q rest (a.put o.dst (.slice ao' (m + l) cap')) w') : wpList Tryz.prog ops Q (o :: rest) a w:=by
 refine wpList_plain hgd fun K hK=>?_
 obtain ⟨ao',cap',w',hr,h1,h2,h3,h4,h5⟩:=append_runG hE o.type st hst hown hb hy hone hl hsz hB
 unfold Oper.wp execOp
 simp only [ho,resolve,invoke,builtin,Sem.run_bind,Sem.run_pure,Result.andThen_ok,List.map_toArray,List.map_cons,List.map_nil,hs,hx,hr]
 exact hK _ _ (h ao' cap' w' ⟨h1,by cases ao <;> exact h2,h3,h4⟩)

/-- A new block is a row that is read. -/
theorem RS.fresh (w : World) (cs : Array Value) (t : TypeId) : RS (w.alloc (.cells cs t)) (some ⟨w.heap.size,0,none⟩) cs.toList w.heap.size:=
 .inr ⟨0,rfl,fun j u hj=>by rw [Nat.zero_add,cell_new]; simpa using hj⟩


/-- Which row of the table: 0 none, 1 no number, 2 a local, 3 a number, 4 a place, 5 a class, 6 a field, 7 a type, 8 a method. -/
def rowI (op : Int) : Int:=if op < 0∨45 < op then 0 else if op = 3∨op = 4 then 2 else if op = 1 then 3 else if 19≤op∧op≤24 then 4 else if op = 25 then 5 else if 26≤op∧op≤29 then 6 else if op = 30∨op = 36∨op = 37 then 7 else if 38≤op∧op≤41 then 8 else 1
/-- How many bytes. -/
def sizeN (op : Int) : Nat:=if op < 0∨45 < op then 0 else if op = 3∨op = 4 then 2 else if op = 1∨(19≤op∧op≤30)∨(36≤op∧op≤41) then 3 else 1

theorem sizeN_le (op : Int) : sizeN op≤3:=by
 unfold sizeN
 repeat' split
 all_goals omega

theorem row_cases (op : Int) : (rowI op = 0∧sizeN op = 0)∨(rowI op = 1∧sizeN op = 1)∨(rowI op = 2∧sizeN op = 2)∨(3≤rowI op∧rowI op≤8∧sizeN op = 3):=by
 unfold rowI sizeN
 repeat' split
 all_goals omega

/-- An instruction: its place, its operation, its number, its size. -/
abbrev In:=Int × Int × Int × Int
def inV (i : In) : Value:=.agg #[.int .i64 i.1,.int .i64 i.2.1,.int .i64 i.2.2.1,.int .i64 i.2.2.2]
def in0 : In:=(0,0,0,0)

/-- A number of bytes, the highest first. -/
def beI (l : List UInt8) : Nat:=l.foldl (fun n b=>n * 256 + b.toNat) 0

theorem beI_append (l : List UInt8) (b : UInt8) : beI (l ++ [b]) = beI l * 256 + b.toNat:=by simp [beI]

theorem beF_lt (l : List UInt8) : ∀ n,l.foldl (fun n b=>n * 256 + b.toNat) n < (n + 1) * 256 ^ l.length:=by
 induction l with
 | nil=>intro n; simp
 | cons b r ih=>
  intro n
  have h1:=ih (n * 256 + b.toNat)
  have h2:=b.toNat_lt
  simp only [List.foldl_cons,List.length_cons]
  refine Nat.lt_of_lt_of_le h1 ?_
  rw [Nat.pow_succ,Nat.mul_comm (256 ^ r.length) 256,← Nat.mul_assoc]
  exact Nat.mul_le_mul_right _ (by omega)

theorem beI_lt (l : List UInt8) : beI l < 256 ^ l.length:=by
 have:=beF_lt l 0
 simpa [beI] using this

theorem beI_take_succ (l : List UInt8) (j : Nat) (h : j < l.length) : beI (l.take (j + 1)) = beI (l.take j) * 256 + l[j].toNat:=by
 rw [List.take_succ_eq_append_getElem h,beI_append]

/-- The instruction that some bytes begin with, its place beside it. -/
def decAt (at_ : Nat) : List UInt8→In × Int
 | []=>(in0,11)
 | c :: r=>if sizeN c.toNat = 0 then (in0,17) else if r.length + 1 < sizeN c.toNat then (in0,11) else (((at_ : Int),(c.toNat : Int),(beI (r.take (sizeN c.toNat - 1)) : Int),(sizeN c.toNat : Int)),0)
def decR (code : List UInt8) (at_ : Int) : In × Int:=if at_ < 0 then (in0,11) else decAt at_.toNat (code.drop at_.toNat)

/-- Instructions ahead of what was read behind them. -/
def joinR (l : List In) (r : List In × Int × Int) : List In × Int × Int:=if r.2.2 = 0 then (l ++ r.1,0,0) else ([],r.2.1,r.2.2)
/-- All instructions of some bytes that begin at a place. -/
def allL : Nat→Nat→List UInt8→List In × Int × Int
 | 0,_,_=>([],0,0)
 | f + 1,at_,bs=>if bs = [] then ([],0,0) else if (decAt at_ bs).2 = 0 then joinR [(decAt at_ bs).1] (allL f (at_ + (decAt at_ bs).1.2.2.2.toNat) (bs.drop (decAt at_ bs).1.2.2.2.toNat)) else ([],(at_ : Int),(decAt at_ bs).2)
def allR (code : List UInt8) : List In × Int × Int:=allL code.length 0 code

theorem joinR_joinR (a b : List In) (r : List In × Int × Int) : joinR a (joinR b r) = joinR (a ++ b) r:=by
 unfold joinR
 split <;> simp_all

theorem joinR_nil (r : List In × Int × Int) (h : r.2.2 = 0→r.2.1 = 0) (h2 : r.2.2≠0→r.1 = []) : joinR [] r = r:=by
 obtain ⟨a,b,c⟩:=r
 unfold joinR
 by_cases hc : c = 0
 ·have:=h hc
  simp at this
  simp [hc,this]
 ·have:=h2 hc
  simp at this
  simp [hc,this]

/-- What a decoded instruction is. -/
theorem decAt_ok {at_ : Nat} {bs : List UInt8} (h : (decAt at_ bs).2 = 0) : ∃ c r,bs = c :: r∧0 < sizeN c.toNat∧sizeN c.toNat≤bs.length∧(decAt at_ bs).1 = ((at_ : Int),(c.toNat : Int),(beI (r.take (sizeN c.toNat - 1)) : Int),(sizeN c.toNat : Int)):=by
 cases bs with
 | nil=>simp [decAt] at h
 | cons c r=>
  simp only [decAt] at h ⊢
  by_cases h1 : sizeN c.toNat = 0
  ·simp [h1] at h
  ·by_cases h2 : r.length + 1 < sizeN c.toNat
   ·simp [h1,h2] at h
   ·rw [if_neg h1,if_neg h2]
    exact ⟨c,r,rfl,by omega,by simp; omega,rfl⟩

theorem decAt_err {at_ : Nat} {bs : List UInt8} (h : (decAt at_ bs).2≠0) : (decAt at_ bs).1 = in0∧((decAt at_ bs).2 = 11∨(decAt at_ bs).2 = 17):=by
 cases bs with
 | nil=>simp [decAt]
 | cons c r=>
  simp only [decAt] at h ⊢
  by_cases h1 : sizeN c.toNat = 0
  ·simp [h1]
  ·by_cases h2 : r.length + 1 < sizeN c.toNat
   ·simp [h1,h2]
   ·rw [if_neg h1,if_neg h2] at h
    simp at h

/-- More fuel than bytes changes nothing. -/
theorem allL_fuel : ∀ (f g at_ : Nat) (bs : List UInt8),bs.length≤f→bs.length≤g→allL f at_ bs = allL g at_ bs:=by
 intro f
 induction f with
 | zero=>
  intro g at_ bs hf _
  have : bs = []:=List.eq_nil_of_length_eq_zero (by omega)
  subst this
  cases g <;> simp [allL]
 | succ f ih=>
  intro g at_ bs hf hg
  cases g with
  | zero=>
   have : bs = []:=List.eq_nil_of_length_eq_zero (by omega)
   subst this
   simp [allL]
  | succ g=>
   unfold allL
   by_cases h0 : bs = []
   ·simp [h0]
   ·rw [if_neg h0,if_neg h0]
    by_cases h1 : (decAt at_ bs).2 = 0
    ·rw [if_pos h1,if_pos h1]
     obtain ⟨c,r,rfl,hp,hl,he⟩:=decAt_ok h1
     rw [he]
     simp only [Int.toNat_natCast]
     rw [ih g _ _ (by simp at hf ⊢; omega) (by simp at hg ⊢; omega)]
    ·rw [if_neg h1,if_neg h1]

theorem allL_nil (f at_ : Nat) : allL f at_ [] = ([],0,0):=by cases f <;> simp [allL]

theorem allL_step {f at_ : Nat} {bs : List UInt8} (h0 : bs≠[]) (hf : bs.length≤f) (h1 : (decAt at_ bs).2 = 0) :
  allL f at_ bs = joinR [(decAt at_ bs).1] (allL f (at_ + (decAt at_ bs).1.2.2.2.toNat) (bs.drop (decAt at_ bs).1.2.2.2.toNat)):=by
 cases f with
 | zero=>exact absurd (List.eq_nil_of_length_eq_zero (by omega)) h0
 | succ f=>
  obtain ⟨c,r,hb,hp,hl,he⟩:=decAt_ok h1
  rw [allL,if_neg h0,if_pos h1]
  rw [allL_fuel f (f + 1) _ _ (by rw [he]; simp; omega) (by rw [he]; simp; omega)]

theorem allL_stop {f at_ : Nat} {bs : List UInt8} (h0 : bs≠[]) (hf : bs.length≤f) (h1 : (decAt at_ bs).2≠0) : allL f at_ bs = ([],(at_ : Int),(decAt at_ bs).2):=by
 cases f with
 | zero=>exact absurd (List.eq_nil_of_length_eq_zero (by omega)) h0
 | succ f=>rw [allL,if_neg h0,if_neg h1]

/-- Instructions as cells. -/
def qcs : List In→List Value
 | []=>[]
 | i :: l=>.int .i64 i.1 :: .int .i64 i.2.1 :: .int .i64 i.2.2.1 :: .int .i64 i.2.2.2 :: qcs l

theorem qcs_length (l : List In) : (qcs l).length = l.length * 4:=by
 induction l with
 | nil=>rfl
 | cons e l ih=>simp [qcs,ih]; omega

theorem qcs_append (a b : List In) : qcs (a ++ b) = qcs a ++ qcs b:=by
 induction a with
 | nil=>rfl
 | cons e l ih=>simp [qcs,ih]

theorem qcs_one (l : List In) : ∀ u∈qcs l,u.oneCell' = true:=by
 induction l with
 | nil=>simp [qcs]
 | cons t l ih=>
  intro u hu
  simp [qcs] at hu
  rcases hu with rfl | rfl | rfl | rfl | hu
  ·rfl
  ·rfl
  ·rfl
  ·rfl
  ·exact ih u hu

theorem qcs_get (l : List In) (j : Nat) (h : j < l.length) : (qcs l)[j * 4]? = some (.int .i64 l[j].1)∧(qcs l)[j * 4 + 1]? = some (.int .i64 l[j].2.1)∧(qcs l)[j * 4 + 2]? = some (.int .i64 l[j].2.2.1)∧(qcs l)[j * 4 + 3]? = some (.int .i64 l[j].2.2.2):=by
 induction l generalizing j with
 | nil=>simp at h
 | cons t l ih=>
  cases j with
  | zero=>exact ⟨rfl,rfl,rfl,rfl⟩
  | succ j=>
   have:=ih j (by simpa using h)
   simp only [qcs,Nat.add_mul,Nat.one_mul,List.getElem_cons_succ]
   exact this

theorem qcs_ne {l : List In} (h : l≠[]) : qcs l≠[]:=by
 cases l with
 | nil=>exact absurd rfl h
 | cons=>simp [qcs]

/-- Bytes as cells; numbers; bools. -/
def bcs (l : List UInt8) : List Value:=l.map fun b=>Value.int .u8 (b.toNat : Int)
def lcs (l : List Bool) : List Value:=l.map fun x=>Value.bool x

theorem bcs_length (l : List UInt8) : (bcs l).length = l.length * 1:=by simp [bcs]
theorem bcs_append (a b : List UInt8) : bcs (a ++ b) = bcs a ++ bcs b:=by simp [bcs]
theorem bcs_one (l : List UInt8) : ∀ u∈bcs l,u.oneCell' = true:=by
 intro u hu
 simp [bcs] at hu
 obtain ⟨b,_,rfl⟩:=hu
 rfl
theorem bcs_get (l : List UInt8) (j : Nat) (h : j < l.length) : (bcs l)[j]? = some (.int .u8 (l[j].toNat : Int)):=by simp [bcs,h]
theorem lcs_length (l : List Bool) : (lcs l).length = l.length * 1:=by simp [lcs]
theorem lcs_get (l : List Bool) (j : Nat) (h : j < l.length) : (lcs l)[j]? = some (.bool l[j]):=by simp [lcs,h]


theorem rowI_plain {op : Int} (h0 : 0≤op) (h1 : op≤45) (h2 : ¬ (op = 3)) (h3 : ¬ (op = 4)) (h4 : ¬ (op = 1)) (h5 : op < 19∨24 < op) (h6 : op < 25∨30 < op) (h7 : op < 36∨41 < op) : rowI op = 1:=by
 unfold rowI
 repeat' split
 all_goals omega

set_option maxHeartbeats 800000 in
set_option maxRecDepth 100000 in
theorem row_any (op : Int) (w : World) : Calls Tryz.prog 192 #[.int .i64 op] w fun e w'=>e = .returned (.int .i64 (rowI op))∧w' = w:=by
 by_cases hs : op = 3∨op = 4∨op = 1∨op = 19∨op = 20∨op = 21∨op = 22∨op = 23∨op = 24∨op = 25∨op = 26∨op = 27∨op = 28∨op = 29∨op = 30∨op = 36∨op = 37∨op = 38∨op = 39∨op = 40∨op = 41
 ·rcases hs with rfl | rfl | rfl | rfl | rfl | rfl | rfl | rfl | rfl | rfl | rfl | rfl | rfl | rfl | rfl | rfl | rfl | rfl | rfl | rfl | rfl
  all_goals
   go_enter Tryz.func192,Tryz.ntmps192
   go_wp2
   go_ret
   exact ⟨rfl,rfl⟩
 ·simp only [not_or] at hs
  obtain ⟨n3,n4,n1,n19,n20,n21,n22,n23,n24,n25,n26,n27,n28,n29,n30,n36,n37,n38,n39,n40,n41⟩:=hs
  by_cases h0 : op < 0
  ·have e1 : rowI op = 0:=by unfold rowI; rw [if_pos (by omega)]
   rw [e1]
   clear e1
   go_enter Tryz.func192,Tryz.ntmps192
   go_wp2
   go_ret
   exact ⟨rfl,rfl⟩
  ·by_cases h1 : 45 < op
   ·have e1 : rowI op = 0:=by unfold rowI; rw [if_pos (by omega)]
    rw [e1]
    clear e1
    go_enter Tryz.func192,Tryz.ntmps192
    go_wp2
    go_ret
    exact ⟨rfl,rfl⟩
   ·have e1 : rowI op = 1:=rowI_plain (by omega) (by omega) n3 n4 n1 (by omega) (by omega) (by omega)
    rw [e1]
    clear e1
    go_enter Tryz.func192,Tryz.ntmps192
    go_wp2
    go_ret
    exact ⟨rfl,rfl⟩

set_option maxHeartbeats 400000 in
set_option maxRecDepth 100000 in
theorem size_any (op : Int) (w : World) : Calls Tryz.prog 210 #[.int .i64 op] w fun e w'=>e = .returned (.int .i64 (sizeN op : Int))∧w' = w:=by
 have HR:=row_any op w
 have hc:=row_cases op
 generalize rowI op = r at *
 generalize sizeN op = s at *
 replace HR:=hid HR
 rcases hc with ⟨rfl,rfl⟩ | ⟨rfl,rfl⟩ | ⟨rfl,rfl⟩ | ⟨h3,h8,rfl⟩
 ·go_enter Tryz.func210,Tryz.ntmps210
  go_wp2_with (go_at_call 192; refine HR.out.mono ?_; rintro e w' ⟨rfl,rfl⟩)
  go_ret
  exact ⟨rfl,rfl⟩
 ·go_enter Tryz.func210,Tryz.ntmps210
  go_wp2_with (go_at_call 192; refine HR.out.mono ?_; rintro e w' ⟨rfl,rfl⟩)
  go_ret
  exact ⟨rfl,rfl⟩
 ·go_enter Tryz.func210,Tryz.ntmps210
  go_wp2_with (go_at_call 192; refine HR.out.mono ?_; rintro e w' ⟨rfl,rfl⟩)
  go_ret
  exact ⟨rfl,rfl⟩
 ·rcases (by omega : r = 3∨r = 4∨r = 5∨r = 6∨r = 7∨r = 8) with rfl | rfl | rfl | rfl | rfl | rfl
  all_goals
   go_enter Tryz.func210,Tryz.ntmps210
   go_wp2_with (go_at_call 192; refine HR.out.mono ?_; rintro e w' ⟨rfl,rfl⟩)
   go_ret
   exact ⟨rfl,rfl⟩

def jumpsI (op : Int) : Bool:=decide (19≤op) && decide (op≤24)

theorem rjumps_any (op : Int) (w : World) : Calls Tryz.prog 218 #[.int .i64 op] w fun e w'=>e = .returned (.bool (jumpsI op))∧w' = w:=by
 by_cases h1 : 19≤op <;> by_cases h2 : op≤24
 all_goals
  go_enter Tryz.func218,Tryz.ntmps218
  go_wp2
  go_ret
  refine ⟨?_,rfl⟩
  simp [jumpsI, *]

set_option maxHeartbeats 400000 in
set_option maxRecDepth 100000 in
theorem rsize_any (op : Int) (w : World) : Calls Tryz.prog 235 #[.int .i64 op] w fun e w'=>e = .returned (.int .i64 (sizeN op : Int))∧w' = w:=by
 have HJ:=rjumps_any op w
 by_cases h0 : op < 0
 ·have e1 : sizeN op = 0:=by unfold sizeN; rw [if_pos (by omega)]
  rw [e1]
  clear e1 HJ
  go_enter Tryz.func235,Tryz.ntmps235
  go_wp2
  go_ret
  exact ⟨rfl,rfl⟩
 by_cases h45 : 45 < op
 ·have e1 : sizeN op = 0:=by unfold sizeN; rw [if_pos (by omega)]
  rw [e1]
  clear e1 HJ
  go_enter Tryz.func235,Tryz.ntmps235
  go_wp2
  go_ret
  exact ⟨rfl,rfl⟩
 by_cases h3 : op = 3
 ·subst h3
  clear HJ
  go_enter Tryz.func235,Tryz.ntmps235
  go_wp2
  go_ret
  exact ⟨rfl,rfl⟩
 by_cases h4 : op = 4
 ·subst h4
  clear HJ
  go_enter Tryz.func235,Tryz.ntmps235
  go_wp2
  go_ret
  exact ⟨rfl,rfl⟩
 by_cases h1 : op = 1
 ·subst h1
  clear HJ
  go_enter Tryz.func235,Tryz.ntmps235
  go_wp2
  go_ret
  exact ⟨rfl,rfl⟩
 have b3 : (op == 3) = false:=by simpa using h3
 have b4 : (op == 4) = false:=by simpa using h4
 have b1 : (op == 1) = false:=by simpa using h1
 by_cases hj : 19≤op∧op≤24
 ·have e1 : sizeN op = 3:=by unfold sizeN; rw [if_neg (by omega),if_neg (by omega),if_pos (by omega)]
  have e2 : jumpsI op = true:=by simp [jumpsI,hj.1,hj.2]
  rw [e1]
  rw [e2] at HJ
  replace HJ:=hid HJ
  clear e1 e2 hj
  go_enter Tryz.func235,Tryz.ntmps235
  go_wp2_with (go_at_call 218; refine HJ.out.mono ?_; rintro e w' ⟨rfl,rfl⟩)
  go_ret
  exact ⟨rfl,rfl⟩
 have e2 : jumpsI op = false:=by
  unfold jumpsI
  by_cases h : 19≤op
  ·have : ¬ (op≤24):=fun q=>hj ⟨h,q⟩
   simp [this]
  ·simp [h]
 rw [e2] at HJ
 replace HJ:=hid HJ
 clear e2
 by_cases h25 : 25≤op
 ·by_cases h30 : op≤30
  ·have e1 : sizeN op = 3:=by unfold sizeN; rw [if_neg (by omega),if_neg (by omega),if_pos (by omega)]
   rw [e1]
   clear e1 hj
   go_enter Tryz.func235,Tryz.ntmps235
   go_wp2_with (go_at_call 218; refine HJ.out.mono ?_; rintro e w' ⟨rfl,rfl⟩)
   go_ret
   exact ⟨rfl,rfl⟩
  ·by_cases h36 : 36≤op
   ·by_cases h41 : op≤41
    ·have e1 : sizeN op = 3:=by unfold sizeN; rw [if_neg (by omega),if_neg (by omega),if_pos (by omega)]
     rw [e1]
     clear e1 hj
     go_enter Tryz.func235,Tryz.ntmps235
     go_wp2_with (go_at_call 218; refine HJ.out.mono ?_; rintro e w' ⟨rfl,rfl⟩)
     go_ret
     exact ⟨rfl,rfl⟩
    ·have e1 : sizeN op = 1:=by unfold sizeN; rw [if_neg (by omega),if_neg (by omega),if_neg (by omega)]
     rw [e1]
     clear e1 hj
     go_enter Tryz.func235,Tryz.ntmps235
     go_wp2_with (go_at_call 218; refine HJ.out.mono ?_; rintro e w' ⟨rfl,rfl⟩)
     go_ret
     exact ⟨rfl,rfl⟩
   ·have e1 : sizeN op = 1:=by unfold sizeN; rw [if_neg (by omega),if_neg (by omega),if_neg (by omega)]
    rw [e1]
    clear e1 hj
    go_enter Tryz.func235,Tryz.ntmps235
    go_wp2_with (go_at_call 218; refine HJ.out.mono ?_; rintro e w' ⟨rfl,rfl⟩)
    go_ret
    exact ⟨rfl,rfl⟩
 ·have e1 : sizeN op = 1:=by unfold sizeN; rw [if_neg (by omega),if_neg (by omega),if_neg (by omega)]
  have h36 : ¬ (36≤op):=by omega
  rw [e1]
  clear e1 hj
  go_enter Tryz.func235,Tryz.ntmps235
  go_wp2_with (go_at_call 218; refine HJ.out.mono ?_; rintro e w' ⟨rfl,rfl⟩)
  go_ret
  exact ⟨rfl,rfl⟩


theorem elByte : ElT 5 (.int .u8 0) 1 1:=⟨by kernel_rfl,rfl,by decide,by decide⟩
theorem elIn : ElT 250 (.agg #[.int .i64 0,.int .i64 0,.int .i64 0,.int .i64 0]) 4 32:=⟨by kernel_rfl,rfl,by decide,by decide⟩

/-- Behind an append to a row of the call's own nothing elder has turned. -/
theorem Appd.next {w0 w w' : World} {e : TypeId} {k : Nat} {ao ao' : Option Addr} {m n' cap cap' : Nat} {xs ys : List Value} (h : Appd w w' w0.heap.size e k ao ao' m n' cap' ys) (hown : w.ownsRow w0.heap.size e k (.slice ao m cap) m xs) (ho : Only [] w0 w) : Only [] w0 w':=by
 refine ho.next h.only fun x hx=>?_
 cases ao with
 | none=>simp [Value.ownBlock] at hx
 | some q=>
  simp [Value.ownBlock] at hx
  subst hx
  exact ((RS.of_owns hown).2.2.2.2 q rfl).1

/-- A block that is not a row's. -/
theorem block_not {ao : Option Addr} {m : Nat} {b : Nat} (hb : ∀ a,ao = some a→b≠a.block) : b ∉ (Value.ownBlock (.slice ao m 0)).toList:=by
 cases ao with
 | none=>simp [Value.ownBlock]
 | some q=>simpa [Value.ownBlock] using hb q rfl

/-- An instruction in memory. -/
structure InAt (w : World) (b off : Nat) (i : In) : Prop where
 c0 : w.cell? ⟨b,off,none⟩ = some (.int .i64 i.1)
 c1 : w.cell? ⟨b,off + 1,none⟩ = some (.int .i64 i.2.1)
 c2 : w.cell? ⟨b,off + 2,none⟩ = some (.int .i64 i.2.2.1)
 c3 : w.cell? ⟨b,off + 3,none⟩ = some (.int .i64 i.2.2.2)

theorem InAt.lt {w : World} {b off : Nat} {i : In} (h : InAt w b off i) : b < w.heap.size:=World.block_lt_of_cell? w _ h.c0

theorem InAt.only {w w' : World} {S : List Nat} {b off : Nat} {i : In} (h : InAt w b off i) (ho : Only S w w') (hb : b ∉ S) : InAt w' b off i:=by
 have hl:=h.lt
 exact ⟨by rw [ho.cell hl hb]; exact h.c0,by rw [ho.cell hl hb]; exact h.c1,by rw [ho.cell hl hb]; exact h.c2,by rw [ho.cell hl hb]; exact h.c3⟩

theorem InAt.alloc {w : World} {b off : Nat} {i : In} (h : InAt w b off i) (o : Obj) : InAt (w.alloc o) b off i:=h.only ((Only.refl [] w).alloc o) (by simp)

theorem inAt_new (w : World) (a op n s : Int) (t : TypeId) : InAt (w.alloc (.cells #[.int .i64 a,.int .i64 op,.int .i64 n,.int .i64 s] t)) w.heap.size 0 (a,op,n,s):=
 ⟨by rw [cell_new]; rfl,by rw [cell_new]; rfl,by rw [cell_new]; rfl,by rw [cell_new]; rfl⟩

/-- One of a row. -/
theorem RS.inAt {w : World} {ao : Option Addr} {l : List In} {d : Nat} (h : RS w ao (qcs l) d) {j : Nat} (hj : j < l.length) : ∃ off,ao = some ⟨d,off,none⟩∧InAt w d (off + j * 4) l[j]:=by
 obtain ⟨off,ha,hc⟩:=h.at (j:=j * 4) (by rw [qcs_length]; omega)
 obtain ⟨g0,g1,g2,g3⟩:=qcs_get l j hj
 exact ⟨off,ha,by simpa [Nat.add_assoc] using hc _ _ g0,by simpa [Nat.add_assoc] using hc _ _ g1,by simpa [Nat.add_assoc] using hc _ _ g2,by simpa [Nat.add_assoc] using hc _ _ g3⟩

/-- One byte of a row. -/
theorem RS.byteAt {w : World} {ao : Option Addr} {l : List UInt8} {d : Nat} (h : RS w ao (bcs l) d) {j : Nat} (hj : j < l.length) : ∃ off,ao = some ⟨d,off,none⟩∧w.cell? ⟨d,off + j,none⟩ = some (.int .u8 (l[j].toNat : Int)):=by
 obtain ⟨off,ha,hc⟩:=h.at (j:=j) (by rw [bcs_length]; omega)
 exact ⟨off,ha,hc j _ (bcs_get l j hj)⟩

theorem rows_in (w : World) (a op n s : Int) {b : Nat} (hb : b = w.heap.size) : RS (w.alloc (.cells #[.int .i64 a,.int .i64 op,.int .i64 n,.int .i64 s] 250)) (some ⟨b,0,none⟩) (qcs [(a,op,n,s)]) b:=by subst hb; exact RS.fresh w _ _


/-- One round of reading. -/
theorem allL_cases {f k : Nat} {bs : List UInt8} (hf : bs.length≤f) :
  (bs = []∧allL f k bs = ([],0,0)) ∨
  (∃ c r,bs = c :: r∧0 < sizeN c.toNat∧sizeN c.toNat≤bs.length∧(decAt k bs).1 = ((k : Int),(c.toNat : Int),(beI (r.take (sizeN c.toNat - 1)) : Int),(sizeN c.toNat : Int))∧(decAt k bs).2 = 0 ∧
   allL f k bs = joinR [((k : Int),(c.toNat : Int),(beI (r.take (sizeN c.toNat - 1)) : Int),(sizeN c.toNat : Int))] (allL f (k + sizeN c.toNat) (bs.drop (sizeN c.toNat)))) ∨
  (bs≠[]∧(decAt k bs).2≠0∧allL f k bs = ([],(k : Int),(decAt k bs).2)):=by
 by_cases h0 : bs = []
 ·exact .inl ⟨h0,by rw [h0,allL_nil]⟩
 right
 by_cases h1 : (decAt k bs).2 = 0
 ·left
  obtain ⟨c,r,hb,hp,hl,he⟩:=decAt_ok h1
  have:=allL_step h0 hf h1
  rw [he] at this
  simp only [Int.toNat_natCast] at this
  exact ⟨c,r,hb,hp,hl,he,h1,this⟩
 ·exact .inr ⟨h0,h1,allL_stop h0 hf h1⟩

theorem joinR_ok {l : List In} {r : List In × Int × Int} (h : r.2.2 = 0) : joinR l r = (l ++ r.1,0,0):=by simp [joinR,h]
theorem joinR_no {l : List In} {r : List In × Int × Int} (h : r.2.2≠0) : joinR l r = ([],r.2.1,r.2.2):=by simp [joinR,h]

/-- Something that holds of each instruction. -/
theorem allL_each {P : In→Prop} (f : Nat) : ∀ (n k : Nat) (bs : List UInt8),bs.length≤n→bs.length≤f →
  (∀ (k' : Nat) (c : UInt8) (r : List UInt8),k≤k'→0 < sizeN c.toNat→k' + sizeN c.toNat≤k + bs.length→P ((k' : Int),(c.toNat : Int),(beI (r.take (sizeN c.toNat - 1)) : Int),(sizeN c.toNat : Int)))→∀ i∈(allL f k bs).1,P i:=by
 intro n
 induction n with
 | zero=>
  intro k bs h1 h2 _ i hi
  have : bs = []:=List.eq_nil_of_length_eq_zero (by omega)
  rw [this,allL_nil] at hi
  simp at hi
 | succ n ih=>
  intro k bs h1 h2 hP i hi
  rcases allL_cases (k:=k) h2 with ⟨_,e⟩ | ⟨c,r,hb,hp,hl,_,_,e⟩ | ⟨_,_,e⟩
  ·rw [e] at hi; simp at hi
  ·rw [e] at hi
   by_cases h0 : (allL f (k + sizeN c.toNat) (bs.drop (sizeN c.toNat))).2.2 = 0
   ·rw [joinR_ok h0] at hi
    simp only [List.singleton_append,List.mem_cons] at hi
    rcases hi with rfl | hi
    ·exact hP k c r (Nat.le_refl _) hp (by omega)
    ·refine ih (k + sizeN c.toNat) (bs.drop (sizeN c.toNat)) (by simp; omega) (by simp; omega) ?_ i hi
     intro k' c' r' hk hp' hl'
     simp only [List.length_drop] at hl'
     exact hP k' c' r' (by omega) hp' (by omega)
   ·rw [joinR_no h0] at hi; simp at hi
  ·rw [e] at hi; simp at hi

theorem allL_len (f : Nat) : ∀ (n k : Nat) (bs : List UInt8),bs.length≤n→bs.length≤f→(allL f k bs).1.length≤bs.length:=by
 intro n
 induction n with
 | zero=>
  intro k bs h1 h2
  have : bs = []:=List.eq_nil_of_length_eq_zero (by omega)
  rw [this,allL_nil]
  simp
 | succ n ih=>
  intro k bs h1 h2
  rcases allL_cases (k:=k) h2 with ⟨_,e⟩ | ⟨c,r,hb,hp,hl,_,_,e⟩ | ⟨_,_,e⟩
  ·rw [e]; simp
  ·rw [e]
   by_cases h0 : (allL f (k + sizeN c.toNat) (bs.drop (sizeN c.toNat))).2.2 = 0
   ·rw [joinR_ok h0]
    have:=ih (k + sizeN c.toNat) (bs.drop (sizeN c.toNat)) (by simp; omega) (by simp; omega)
    simp only [List.length_drop] at this
    simp
    omega
   ·rw [joinR_no h0]; simp
  ·rw [e]; simp

theorem all_len (code : List UInt8) : (allR code).1.length≤code.length:=allL_len _ _ _ _ (Nat.le_refl _) (Nat.le_refl _)

/-- What each instruction of some code is. -/
theorem all_each (code : List UInt8) : ∀ i∈(allR code).1,0≤i.1∧i.1 + i.2.2.2≤code.length∧0≤i.2.1∧i.2.1≤45∧i.2.2.2 = (sizeN i.2.1 : Int)∧0 < i.2.2.2∧0≤i.2.2.1∧i.2.2.1 < ((256 ^ (sizeN i.2.1 - 1) : Nat) : Int):=by
 refine allL_each code.length code.length 0 code (Nat.le_refl _) (Nat.le_refl _) ?_
 intro k c r _ hp hl
 have hb:=beI_lt (r.take (sizeN c.toNat - 1))
 have hr : 256 ^ (r.take (sizeN c.toNat - 1)).length≤256 ^ (sizeN c.toNat - 1):=Nat.pow_le_pow_right (by decide) (by simp; omega)
 have hop : (c.toNat : Int)≤45:=by
  unfold sizeN at hp
  split at hp
  ·omega
  ·omega
 refine ⟨by simp only; omega,by simp only; omega,by simp only; omega,hop,rfl,by simp only; omega,by simp only; omega,?_⟩
 simp only
 omega


theorem i64_or_nat (a b : Nat) (ha : a < 4611686018427387904) (hb : b < 4611686018427387904) : bits .or .i64 (a : Int) (b : Int) = ((a ||| b : Nat) : Int):=by
 have hx : a ||| b < 2 ^ 62:=Nat.or_lt_two_pow (by omega) (by omega)
 show IntKind.i64.wrap ((BitVec.ofInt 64 (a : Int) ||| BitVec.ofInt 64 (b : Int)).toNat : Int) = _
 rw [BitVec.toNat_or,ofInt_u64 a (by omega),ofInt_u64 b (by omega),IntKind.wrap_i64]
 omega

/-- A number moved by a byte, and a byte. -/
theorem or_shl8 (x c : Nat) (hx : x < 65536) (hc : c < 256) : bits .or .i64 ((x : Int) * 256) (c : Int) = ((x * 256 + c : Nat) : Int):=by
 have e1 : (x : Int) * 256 = ((x * 256 : Nat) : Int):=by omega
 rw [e1,i64_or_nat _ _ (by omega) (by omega),nat_join 8 _ _ (by omega) (by omega)]

/-- A slice of a row of bytes. -/
theorem slice_mid (ao : Option Addr) (len cap i j : Nat) (hij : i≤j) (hj : j≤cap) (w : World) :
  ∃ ao',(Instr.slice 38 (.slice ao len cap) (some (.int .i64 (i : Int))) (some (.int .i64 (j : Int))) none).run Tryz.prog w = .ok (.slice ao' (j - i) (cap - i)) w∧(i < cap→ao' = ao.map (·.add i)):=by
 obtain ⟨i0,hi,hz0,hz1,hz2⟩:=elByte.parts
 refine ⟨if cap = i then ao else ao.map (·.add i),?_,fun h=>by rw [if_neg (by omega)]⟩
 simp [Instr.slice,run_underlying Tryz.underlying38,Instr.sliceBounds,run_sliceBound,sizeOf,typeInfo,hi,hz1,hij,hj]

/-- The bytes of a slice of a row. -/
theorem RS.mid {w : World} {off d : Nat} {l : List UInt8} (h : ∀ j u,(bcs l)[j]? = some u→w.cell? ⟨d,off + j,none⟩ = some u) (i k : Nat) (hk : i + k < l.length) : w.cell? ⟨d,off + i + k,none⟩ = some (.int .u8 (l[i + k].toNat : Int)):=by
 have:=h (i + k) _ (bcs_get l (i + k) hk)
 rw [Nat.add_assoc]
 exact this

theorem in_result {w : World} {b : Nat} {i : In} {x : Value} (h : InAt w b 0 i) (tmps : Array Value) (h2 : tmps.getD 4 undef = .pointer (some ⟨b,0,none⟩)) (h3 : tmps.getD 5 undef = x) :
  (results Tryz.f191 tmps).run Tryz.prog w = .ok (.tuple #[inV i,x]) w:=by
 obtain ⟨c0,c1,c2,c3⟩:=h
 rw [results_cell_tmp (p:=4) (u:=5) (ty:=250) Tryz.results191,h2,h3]
 simp only [Nat.zero_add] at c1 c2 c3
 simp [go_sem,c0,c1,c2,c3,inV]

/-- What decode does at a place of the code. -/
theorem decR_at {code : List UInt8} {k : Nat} (h : k < code.length) : decR code (k : Int) = if sizeN code[k].toNat = 0 then (in0,17) else if code.length - k < sizeN code[k].toNat then (in0,11) else (((k : Int),(code[k].toNat : Int),(beI ((code.drop (k + 1)).take (sizeN code[k].toNat - 1)) : Int),(sizeN code[k].toNat : Int)),0):=by
 unfold decR
 rw [if_neg (by omega),Int.toNat_natCast,List.drop_eq_getElem_cons h,decAt]
 have e : (code.drop (k + 1)).length + 1 = code.length - k:=by simp; omega
 rw [e]

theorem decR_out {code : List UInt8} {at_ : Int} (h : at_ < 0∨(code.length : Int)≤at_) : decR code at_ = (in0,11):=by
 unfold decR
 by_cases h0 : at_ < 0
 ·rw [if_pos h0]
 ·rw [if_neg h0,List.drop_eq_nil_of_le (by omega)]
  rfl

set_option maxHeartbeats 1000000 in
set_option maxRecDepth 100000 in
theorem dec_any {w : World} {ao : Option Addr} {code : List UInt8} {d cap : Nat} (hB : RS w ao (bcs code) d) (hc : code.length≤cap) (hl : cap≤9223372036854775807) (at_ : Int) :
  Calls Tryz.prog 191 #[.slice ao code.length cap,.int .i64 at_] w fun e w'=>e = .returned (.tuple #[inV (decR code at_).1,.int .i64 (decR code at_).2])∧Only [] w w':=by
 have o0:=hid ((Only.refl [] w).alloc (.cells #[.int .i64 0,.int .i64 0,.int .i64 0,.int .i64 0] 250))
 by_cases h0 : at_ < 0
 ·rw [decR_out (.inl h0)]
  clear hB
  go_enter Tryz.func191,Tryz.ntmps191
  go_wp2
  exact bodyPost_ret (in_result (inAt_new w 0 0 0 0 250) _ rfl rfl) rfl ⟨rfl,o0.out⟩
 by_cases h1 : (code.length : Int)≤at_
 ·rw [decR_out (.inr h1)]
  clear hB
  go_enter Tryz.func191,Tryz.ntmps191
  go_wp2
  exact bodyPost_ret (in_result (inAt_new w 0 0 0 0 250) _ rfl rfl) rfl ⟨rfl,o0.out⟩
 obtain ⟨k,rfl⟩ : ∃ k : Nat,at_ = (k : Int):=⟨at_.toNat,by omega⟩
 have hk : k < code.length:=by omega
 rw [decR_at hk]
 obtain ⟨off,rfl,hcells⟩:=hB.at (j:=k) (by rw [bcs_length]; omega)
 have y0:=hcells k _ (bcs_get code k hk)
 have y0':=fun o=>cell_alloc o y0
 have hsz:=sizeN_le code[k].toNat
 have HS:=fun W=>size_any (code[k].toNat : Int) W
 have hcn:=code[k].toNat_lt
 have hmid:=hid (RS.mid hcells (k + 1))
 clear hcells hB
 generalize code[k].toNat = c at *
 generalize sizeN (c : Int) = z at *
 replace HS:=hid HS
 by_cases hz : z = 0
 ·subst hz
  rw [if_pos rfl]
  clear hmid
  go_enter Tryz.func191,Tryz.ntmps191
  go_wp2_with (go_at_call 210; refine (HS.out _).mono ?_; rintro e w' ⟨rfl,rfl⟩)
  exact bodyPost_ret (in_result (inAt_new w 0 0 0 0 250) _ rfl rfl) rfl ⟨rfl,o0.out⟩
 rw [if_neg hz]
 have gz : ((z : Int) == 0) = false:=by simp; omega
 have gz' : ¬ ((z : Int) = 0):=by omega
 by_cases hs : code.length - k < z
 ·rw [if_pos hs]
  have g1 : ((code.length : Int) - (k : Int) < (z : Int)):=by omega
  clear hmid
  go_enter Tryz.func191,Tryz.ntmps191
  go_wp2_with (go_at_call 210; refine (HS.out _).mono ?_; rintro e w' ⟨rfl,rfl⟩)
  exact bodyPost_ret (in_result (inAt_new w 0 0 0 0 250) _ rfl rfl) rfl ⟨rfl,o0.out⟩
 rw [if_neg hs]
 have g1 : ¬ ((code.length : Int) - (k : Int) < (z : Int)):=by omega
 obtain ⟨ao',hsl,hao⟩:=slice_mid (some ⟨d,off,none⟩) code.length cap (k + 1) (k + z) (by omega) (by omega) (w.alloc (.cells #[.int .i64 0,.int .i64 0,.int .i64 0,.int .i64 0] 250))
 rw [show ((k + 1 : Nat) : Int) = (k : Int) + 1 by omega,show ((k + z : Nat) : Int) = (k : Int) + (z : Int) by omega,show k + z - (k + 1) = z - 1 by omega] at hsl
 obtain ⟨bs,hbs⟩ : ∃ bs,bs = (code.drop (k + 1)).take (z - 1):=⟨_,rfl⟩
 rw [← hbs]
 have hbl : bs.length = z - 1:=by rw [hbs]; simp; omega
 have hget : ∀ j (hj : j < bs.length),ao' = some ⟨d,off + (k + 1),none⟩∧w.cell? ⟨d,off + (k + 1) + j,none⟩ = some (.int .u8 (bs[j].toNat : Int)):=by
  intro j hj
  refine ⟨by rw [hao (by omega)]; simp [Addr.add_lit],?_⟩
  rw [hmid.out j (by omega)]
  congr 3
  simp [hbs]
 clear hmid hbs
 rw [← hbl] at hsl
 replace hget:=hid hget
 replace hao:=hid hao
 have hb2 : bs.length≤2:=by omega
 have hz1 : z≤bs.length + 1:=by omega
 have hz2 : bs.length + 1≤z:=by omega
 clear hbl
 go_enter Tryz.func191,Tryz.ntmps191
 go_wp2_with (go_at_call 210; refine (HS.out _).mono ?_; rintro e w' ⟨rfl,rfl⟩)
 go_loop [8,45] (fun x i=>∃ j : Nat,j≤bs.length∧i = .int .i64 j∧x = .int .i64 (beI (bs.take j) : Int)) (fun _ i=>bs.length - (intOf i).toNat)
 case atStart=>exact ⟨0,Nat.zero_le _,rfl,rfl⟩
 case round=>
  obtain ⟨j,hj,rfl,rfl⟩:=hrel
  by_cases hlt : j < bs.length
  ·obtain ⟨rfl,hcell⟩:=hget.out j hlt
   have hcell':=fun o=>cell_alloc o hcell
   have g2 : ((j : Int) < (bs.length : Int)):=by omega
   have hb:=beI_lt (bs.take j)
   have hb' : beI (bs.take j) < 65536:=Nat.lt_of_lt_of_le hb (Nat.le_trans (Nat.pow_le_pow_right (by decide) (show (bs.take j).length≤2 by simp; omega)) (by decide))
   have hor:=or_shl8 (beI (bs.take j)) bs[j].toNat hb' bs[j].toNat_lt
   have hsucc:=beI_take_succ bs j hlt
   have hbn:=bs[j].toNat_lt
   clear hget hao hb
   go_wp2
   refine ⟨⟨j + 1,by omega,by go_num,?_⟩,by simp [intOf]; omega⟩
   rw [hsucc]
   exact congrArg _ (by omega)
  ·have g2 : ¬ ((j : Int) < (bs.length : Int)):=by omega
   have e1 : Hid (bs.take j = bs):=List.take_of_length_le (by omega)
   clear hget hao
   go_wp2
   rw [e1.out]
   exact bodyPost_ret (in_result (inAt_new w (k : Int) (c : Int) (beI bs : Int) (z : Int) 250) _ rfl rfl) rfl ⟨rfl,(Only.refl [] w).alloc _⟩


/-- An instruction in a block of its own that may be written. -/
structure InW (w : World) (b : Nat) (i : In) : Prop where
 at_ : InAt w b 0 i
 fr : ∀ j,w.frozen? ⟨b,j,none⟩ = false

theorem inW_new (w : World) (a op n s : Int) (t : TypeId) : InW (w.alloc (.cells #[.int .i64 a,.int .i64 op,.int .i64 n,.int .i64 s] t)) w.heap.size (a,op,n,s):=⟨inAt_new w a op n s t,fun _=>frozen_new _ _ _ _⟩

theorem InW.only {w w' : World} {S : List Nat} {b : Nat} {i : In} (h : InW w b i) (ho : Only S w w') (hb : b ∉ S) : InW w' b i:=
 ⟨h.at_.only ho hb,fun j=>by rw [ho.frozen h.at_.lt hb]; exact h.fr j⟩

theorem InW.put2 {w : World} {b : Nat} {i : In} (h : InW w b i) (x : Int) : InW (w.setCell ⟨b,2,none⟩ (.int .i64 x)) b (i.1,i.2.1,x,i.2.2.2):=by
 obtain ⟨⟨c0,c1,c2,c3⟩,f⟩:=h
 simp only [Nat.zero_add] at c1 c2 c3
 refine ⟨⟨?_,?_,?_,?_⟩,fun j=>by rw [frozen_setCell]; exact f j⟩
 ·rw [cell_setCell_ne _ _ (by simp)]; exact c0
 ·rw [Nat.zero_add,cell_setCell_ne _ _ (by simp)]; exact c1
 ·rw [Nat.zero_add]; exact cell_setCell_same _ _ c2
 ·rw [Nat.zero_add,cell_setCell_ne _ _ (by simp)]; exact c3

theorem InW.put {w : World} {b : Nat} {i : In} (h : InW w b i) (a op n s : Int) :
  InW ((((w.setCell ⟨b,0,none⟩ (.int .i64 a)).setCell ⟨b,1,none⟩ (.int .i64 op)).setCell ⟨b,2,none⟩ (.int .i64 n)).setCell ⟨b,3,none⟩ (.int .i64 s)) b (a,op,n,s):=by
 obtain ⟨⟨c0,c1,c2,c3⟩,f⟩:=h
 simp only [Nat.zero_add] at c1 c2 c3
 refine ⟨⟨?_,?_,?_,?_⟩,fun j=>by rw [frozen_setCell,frozen_setCell,frozen_setCell,frozen_setCell]; exact f j⟩
 ·rw [cell_setCell_ne _ _ (by simp),cell_setCell_ne _ _ (by simp),cell_setCell_ne _ _ (by simp)]
  exact cell_setCell_same _ _ c0
 ·rw [Nat.zero_add,cell_setCell_ne _ _ (by simp),cell_setCell_ne _ _ (by simp)]
  exact cell_setCell_same _ _ (by rw [cell_setCell_ne _ _ (by simp)]; exact c1)
 ·rw [Nat.zero_add,cell_setCell_ne _ _ (by simp)]
  exact cell_setCell_same _ _ (by rw [cell_setCell_ne _ _ (by simp),cell_setCell_ne _ _ (by simp)]; exact c2)
 ·rw [Nat.zero_add]
  exact cell_setCell_same _ _ (by rw [cell_setCell_ne _ _ (by simp),cell_setCell_ne _ _ (by simp),cell_setCell_ne _ _ (by simp)]; exact c3)

theorem InW.drew {w : World} {b : Nat} {i : In} (h : InW w b i) : InW w.drew b i:=h.only (Only.refl [] w).drew (by simp)

/-- Four cells of a new block written. -/
theorem Only.put4 {w w' : World} (h : Only [] w w') {b : Nat} (hb : w.heap.size≤b) (x y z t : Value) : Only [] w ((((w'.setCell ⟨b,0,none⟩ x).setCell ⟨b,1,none⟩ y).setCell ⟨b,2,none⟩ z).setCell ⟨b,3,none⟩ t):=
 (((h.setCell (.inr hb) x).setCell (.inr hb) y).setCell (.inr hb) z).setCell (.inr hb) t

theorem rin_result {w : World} {b : Nat} {i : In} {x : Value} (h : InAt w b 0 i) (tmps : Array Value) (h2 : tmps.getD 4 undef = .pointer (some ⟨b,0,none⟩)) (h3 : tmps.getD 5 undef = x) :
  (results Tryz.f226 tmps).run Tryz.prog w = .ok (.tuple #[inV i,x]) w:=by
 obtain ⟨c0,c1,c2,c3⟩:=h
 rw [results_cell_tmp (p:=4) (u:=5) (ty:=250) Tryz.results226,h2,h3]
 simp only [Nat.zero_add] at c1 c2 c3
 simp [go_sem,c0,c1,c2,c3,inV]

set_option maxHeartbeats 1000000 in
set_option maxRecDepth 100000 in
theorem rdec_any {w : World} {ao : Option Addr} {code : List UInt8} {d cap : Nat} (hB : RS w ao (bcs code) d) (hc : code.length≤cap) (hl : cap≤9223372036854775807) (at_ : Int) :
  Calls Tryz.prog 226 #[.slice ao code.length cap,.int .i64 at_] w fun e w'=>e = .returned (.tuple #[inV (decR code at_).1,.int .i64 (decR code at_).2])∧Only [] w w':=by
 have o0:=hid ((Only.refl [] w).alloc (.cells #[.int .i64 0,.int .i64 0,.int .i64 0,.int .i64 0] 250))
 by_cases h0 : at_ < 0
 ·rw [decR_out (.inl h0)]
  clear hB
  go_enter Tryz.func226,Tryz.ntmps226
  go_wp2
  exact bodyPost_ret (rin_result (inAt_new w 0 0 0 0 250) _ rfl rfl) rfl ⟨rfl,o0.out⟩
 by_cases h1 : (code.length : Int)≤at_
 ·rw [decR_out (.inr h1)]
  clear hB
  go_enter Tryz.func226,Tryz.ntmps226
  go_wp2
  exact bodyPost_ret (rin_result (inAt_new w 0 0 0 0 250) _ rfl rfl) rfl ⟨rfl,o0.out⟩
 obtain ⟨k,rfl⟩ : ∃ k : Nat,at_ = (k : Int):=⟨at_.toNat,by omega⟩
 have hk : k < code.length:=by omega
 rw [decR_at hk]
 have hB':=hid hB
 obtain ⟨off,rfl,hcells⟩:=hB.at (j:=k) (by rw [bcs_length]; omega)
 have y0:=hcells k _ (bcs_get code k hk)
 have y0':=fun o=>cell_alloc o y0
 have hsz:=sizeN_le code[k].toNat
 have HS:=fun W=>rsize_any (code[k].toNat : Int) W
 have hcn:=code[k].toNat_lt
 clear hcells hB
 obtain ⟨bs,hbs⟩ : ∃ bs,bs = (code.drop (k + 1)).take (sizeN code[k].toNat - 1):=⟨_,rfl⟩
 rw [← hbs]
 generalize code[k].toNat = c at *
 generalize sizeN (c : Int) = z at *
 replace HS:=hid HS
 by_cases hz : z = 0
 ·subst hz
  rw [if_pos rfl]
  clear hbs hB'
  go_enter Tryz.func226,Tryz.ntmps226
  go_wp2_with (go_at_call 235; refine (HS.out _).mono ?_; rintro e w' ⟨rfl,rfl⟩)
  exact bodyPost_ret (rin_result ((inAt_new w 0 0 0 0 250).alloc _) _ rfl rfl) rfl ⟨rfl,o0.out.alloc _⟩
 rw [if_neg hz]
 have gz : ((z : Int) == 0) = false:=by simp; omega
 have gz' : ¬ ((z : Int) = 0):=by omega
 by_cases hs : code.length - k < z
 ·rw [if_pos hs]
  have g1 : ((code.length : Int) - (k : Int) < (z : Int)):=by omega
  clear hbs hB'
  go_enter Tryz.func226,Tryz.ntmps226
  go_wp2_with (go_at_call 235; refine (HS.out _).mono ?_; rintro e w' ⟨rfl,rfl⟩)
  exact bodyPost_ret (rin_result ((inAt_new w 0 0 0 0 250).alloc _) _ rfl rfl) rfl ⟨rfl,o0.out.alloc _⟩
 rw [if_neg hs]
 have g1 : ¬ ((code.length : Int) - (k : Int) < (z : Int)):=by omega
 have hbl : bs.length = z - 1:=by rw [hbs]; simp; omega
 have hget : ∀ W,Only [] w W→∀ j (hj : j < bs.length),W.cell? ⟨d,off + (k + (j + 1)),none⟩ = some (.int .u8 (bs[j].toNat : Int)):=by
  intro W hW j hj
  obtain ⟨off',ho,hcell⟩:=(hB'.out.only0 hW).byteAt (j:=k + (j + 1)) (by omega)
  cases ho
  have e : bs[j]? = code[k + 1 + j]?:=by rw [hbs,List.getElem?_take,if_pos (by omega),List.getElem?_drop]
  rw [List.getElem?_eq_getElem hj,show k + 1 + j = k + (j + 1) by omega,List.getElem?_eq_getElem (by omega),Option.some.injEq] at e
  rw [hcell,e]
 clear hbs hB'
 replace hget:=hid hget
 have hb2 : bs.length≤2:=by omega
 have hz1 : z≤bs.length + 1:=by omega
 have hz2 : bs.length + 1≤z:=by omega
 clear hbl
 have I0:=hid ((inW_new w 0 0 0 0 250).only ((Only.refl [] _).alloc (.cells #[.int .i64 (k : Int),.int .i64 (c : Int),.int .i64 0,.int .i64 (z : Int)] 250)) (by simp))
 have I1:=hid (inW_new (w.alloc (.cells #[.int .i64 0,.int .i64 0,.int .i64 0,.int .i64 0] 250)) (k : Int) (c : Int) 0 (z : Int) 250)
 rw [World.size_alloc] at I1
 go_enter Tryz.func226,Tryz.ntmps226
 go_wp2_with (go_at_call 235; refine (HS.out _).mono ?_; rintro e w' ⟨rfl,rfl⟩)
 go_loopw [7] (fun i wr=>∃ j : Nat,j≤bs.length∧i = .int .i64 ((j : Int) + 1)∧Hid (InW wr (w.heap.size + 1) ((k : Int),(c : Int),(beI (bs.take j) : Int),(z : Int)))∧Hid (InW wr w.heap.size in0)∧Hid (Only [] w wr)) (fun i _=>(bs.length + 1 - intOf i).toNat)
 case atStart=>exact ⟨0,Nat.zero_le _,rfl,I1,I0,hid (o0.out.alloc _)⟩
 case round=>
  obtain ⟨j,hj,rfl,i1,i0,hor⟩:=hrel
  clear I0 I1
  obtain ⟨⟨c0,c1,c2,c3⟩,f⟩:=i1.out
  simp only [Nat.zero_add] at c1 c2 c3
  have f2:=f 2
  clear f
  by_cases hlt : j < bs.length
  ·have hcell:=hget.out wr hor.out j hlt
   have g2 : ((j : Int) + 1 < (z : Int)):=by omega
   have hb:=beI_lt (bs.take j)
   have hb' : beI (bs.take j) < 65536:=Nat.lt_of_lt_of_le hb (Nat.le_trans (Nat.pow_le_pow_right (by decide) (show (bs.take j).length≤2 by simp; omega)) (by decide))
   have hsucc:=hid (beI_take_succ bs j hlt)
   have hbn:=bs[j].toNat_lt
   clear hget hb
   go_wp2_with fail
   go_region
   go_wp2
   refine ⟨⟨j + 1,by omega,by go_num,?_,?_,?_⟩,by simp [intOf]; omega⟩
   ·have:=i1.out.put2 (256 * (beI (bs.take j) : Int) + (bs[j].toNat : Int))
    rw [hsucc.out]
    rw [show (256 : Int) * (beI (bs.take j) : Int) + (bs[j].toNat : Int) = ((beI (bs.take j) * 256 + bs[j].toNat : Nat) : Int) by omega] at this ⊢
    exact hid this.drew
   ·exact hid (i0.out.only (S:=[w.heap.size + 1]) ((Only.refl _ _).setCell (.inl (by simp)) _).drew (by simp))
   ·exact hid (hor.out.setCell (.inr (by simp)) _).drew
  ·have g2 : ¬ ((j : Int) + 1 < (z : Int)):=by omega
   have e1 : Hid (bs.take j = bs):=List.take_of_length_le (by omega)
   obtain ⟨⟨b0,b1,b2,b3⟩,e⟩:=i0.out
   simp only [Nat.zero_add] at b1 b2 b3
   have e0:=e 0
   have e1':=e 1
   have e2:=e 2
   have e3:=e 3
   clear hget e
   go_wp2
   rw [e1.out]
   exact bodyPost_ret (rin_result (i0.out.put (k : Int) (c : Int) (beI bs : Int) (z : Int)).at_ _ rfl rfl) rfl ⟨rfl,hor.out.put4 (Nat.le_refl _) _ _ _ _⟩

end Go.Proofs.YtildemmkhndhjaaGreatDoor
