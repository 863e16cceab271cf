/-
  What the proof leans on, part 3 of 48. The conditions stand in each theorem.
-/
import Derived.Test.YtildemmkhndhjaaGreatDoorB01
import Derived.Laws.AppendOwnNone
import Derived.Test.YtildemmkhndhjaaGreatDoorB02
namespace Go.Proofs.YtildemmkhndhjaaGreatDoor
open Go.RowKit

/-- How much room an append asks for that grows. -/
theorem grow_le (need : Nat) : ∀ (k old : Nat),old≤need + need / 4 + 192→Builtin.growBy need k old≤need + need / 4 + 192:=by
 intro k
 induction k with
 | zero=>
  intro old h
  exact h
 | succ k ih=>
  intro old h
  simp only [Builtin.growBy]
  split
  ·exact h
  ·exact ih _ (by omega)

theorem cap_fits {need old : Nat} (h : old < need) (hn : need≤4398046511104) : Builtin.nextslicecap need old * 24≤281474976710656:=by
 have:=grow_le need 4 old (by omega)
 unfold Builtin.nextslicecap
 split
 ·omega
 ·split
  ·omega
  ·omega

theorem info_typeT : ∃ i0,Tryz.prog.info? 35 = some i0∧i0.zero = some (.agg #[.int .i64 0,.string ⟨#[]⟩])∧i0.size = 2∧i0.bytes = 24:=by
 have h:=infoT
 cases hi : Tryz.prog.info? 35 with
 | none=>rw [hi] at h; cases h
 | some i=>
  rw [hi] at h
  simp at h
  exact ⟨i,rfl,h.1,h.2.1,h.2.2⟩

/-- A new row that an append has made. -/
theorem own_fresh (w : World) (l : List Ty) (cap : Nat) (hc : l.length≤cap) (hm : cap≤maxLen) :
  (w.drew.alloc (.cells ((tcs l).toArray ++ Builtin.zeroCells (Value.agg #[.int .i64 0,.string ⟨#[]⟩]).cells (cap - l.length)) 35)).ownsRow w.heap.size 35 2 (.slice (some ⟨w.heap.size,0,none⟩) l.length cap) l.length (tcs l) ∧
  w.grownBy (w.drew.alloc (.cells ((tcs l).toArray ++ Builtin.zeroCells (Value.agg #[.int .i64 0,.string ⟨#[]⟩]).cells (cap - l.length)) 35)) none:=by
 refine ⟨⟨by rw [tcs_length],.inr ⟨w.heap.size,cap,_,rfl,Nat.le_refl _,Go.heap_alloc_new w.drew _,hc,hm,?_,?_⟩⟩,⟨rfl,rfl,rfl,by simp,fun k hk _=>Below.heap_alloc w.drew _ k hk⟩⟩
 ·rw [Array.size_append,size_zeroCells]
  have : (Value.agg #[.int .i64 0,.string ⟨#[]⟩]).cells.size = 2:=rfl
  rw [this]
  simp [tcs_length]
  omega
 ·simp only [Array.toList_append]
  rw [← tcs_length]
  exact List.take_left

/-- append(out, l...), out the call's own. -/
theorem append_run {w : World} {B : Nat} {ao lao : Option Addr} {cap lcap d : Nat} {m l : List Ty} (ty : TypeId) (hown : Own w B (.slice ao m.length cap) m) (hb : TS w lao l d) (hl : lao = none→lcap = 0)
  (hsz : m.length + l.length≤4398046511104) (hB : B≤w.heap.size) :
  ∃ ao' cap' w',(Builtin.append_ #[33,33] ty #[.slice ao m.length cap,.slice lao l.length lcap]).run Tryz.prog w = .ok (.slice ao' (m ++ l).length cap') w'∧Own w' B (.slice ao' (m ++ l).length cap') (m ++ l) ∧
   w.grownBy w' (Value.ownBlock (.slice ao m.length cap))∧(∀ a,ao' = some a→(∃ a',ao = some a'∧a'.block = a.block)∨w.heap.size≤a.block)∧(ao' = none→ao = none):=by
 obtain ⟨i0,hi,hz0,hz1,hz2⟩:=info_typeT
 have hmax : m.length + l.length≤maxLen:=by unfold maxLen; omega
 have hml : (m ++ l).length = m.length + l.length:=by simp
 cases lao with
 | none=>
  have:=hb.none_nil
  subst this
  have:=hl rfl
  subst this
  refine ⟨ao,cap,w,?_,by simpa using hown,⟨rfl,rfl,rfl,Nat.le_refl _,fun _ _ _=>rfl⟩,fun a ha=>.inl ⟨a,ha,rfl⟩,fun h=>h⟩
  rw [List.append_nil]
  exact run_append_owned_none (P:=Tryz.prog) (w:=w) B 33 ty 35 i0 2 Tryz.underlying33 hi _ m.length (tcs m) hown
 | some a=>
  have hlen : (tcs l).length = l.length * 2:=tcs_length l
  rcases hown.2 with ⟨hv,h0⟩ | ⟨g,cap',cur,hv,hbg,hg,hnc,hcm,hcs,htake⟩
  ·have hm0 : m = []:=List.eq_nil_of_length_eq_zero h0
   subst hm0
   simp at hv
   obtain ⟨rfl,rfl⟩:=hv
   by_cases hm : l.length = 0
   ·obtain ⟨v',w',hr,ho,hgr,hiff⟩:=run_append_own (P:=Tryz.prog) w B 33 ty 35 i0 (.agg #[.int .i64 0,.string ⟨#[]⟩]) 2 24 Tryz.underlying33 hi hz0 hz1 hz2 rfl (by decide) _ _ _ hown a l.length lcap (tcs l) hlen hb.cells (tcs_one l) (by simpa using hmax) (by simp at hsz ⊢; omega) hB
    have:=hiff.2 ⟨rfl,hm⟩
    subst this
    have hl0 : l = []:=List.eq_nil_of_length_eq_zero hm
    subst hl0
    exact ⟨none,0,w',hr,ho,hgr,(fun a ha=>by cases ha),fun _=>rfl⟩
   ·have hr:=run_append_nil (P:=Tryz.prog) w 33 ty 35 i0 (.agg #[.int .i64 0,.string ⟨#[]⟩]) Tryz.underlying33 hi hz0 a l.length lcap (tcs l) (by rw [hz1]; exact hlen) hb.cells (by omega) (by omega) (by rw [hz2]; omega)
    obtain ⟨q1,q2⟩:=own_fresh w l (grownCap w l.length 0 35) (grownCap_ge _ _ _ _) (grownCap_le_maxLen _ _ _ _ (by simpa using hmax))
    rw [List.nil_append]
    exact ⟨_,_,_,hr,own_mono q1 hB,⟨q2.os,q2.tape,q2.output,q2.size,fun k hk _=>q2.block k hk (by simp)⟩,fun b hb'=>.inr (by simp at hb'; rw [← hb']; exact Nat.le_refl _),fun h=>by cases h⟩
  ·simp at hv
   obtain ⟨rfl,rfl⟩:=hv
   by_cases hroom : m.length + l.length≤cap
   ·obtain ⟨w',hr,ho,hgr⟩:=run_append_fits (P:=Tryz.prog) w B 33 ty 35 i0 2 Tryz.underlying33 hi hz1 g m.length cap (tcs m) hown a l.length lcap (tcs l) hlen hb.cells (tcs_one l) hroom
    rw [← tcs_append,← hml] at ho
    rw [← hml] at hr
    exact ⟨some ⟨g,0,none⟩,cap,w',hr,ho,hgr,fun a ha=>.inl ⟨_,rfl,by simp at ha; rw [← ha]⟩,fun h=>by cases h⟩
   ·have hr:=run_append_grow (P:=Tryz.prog) w 33 ty 35 i0 (.agg #[.int .i64 0,.string ⟨#[]⟩]) Tryz.underlying33 hi hz0 ⟨g,0,none⟩ m.length cap (tcs m) (by rw [hz1]; exact hown.1) (hown.cells (g:=g) rfl) a l.length lcap (tcs l) (by rw [hz1]; exact hlen) hb.cells (by omega) (by omega) (by rw [hz2]; exact cap_fits (by omega) hsz)
    obtain ⟨q1,q2⟩:=own_fresh w (m ++ l) (grownCap w (m.length + l.length) cap 35) (by rw [hml]; exact grownCap_ge _ _ _ _) (grownCap_le_maxLen _ _ _ _ hmax)
    have e : (tcs (m ++ l)).toArray = (tcs m).toArray ++ (tcs l).toArray:=by simp [tcs_append]
    replace q1:=own_mono q1 hB
    rw [e,hml] at q2 q1
    rw [hml]
    exact ⟨_,_,_,hr,q1,⟨q2.os,q2.tape,q2.output,q2.size,fun k hk _=>q2.block k hk (by simp)⟩,fun b hb'=>.inr (by simp at hb'; rw [← hb']; exact Nat.le_refl _),fun h=>by cases h⟩

/-- The same, for the walk. -/
theorem wpList_append_types {w : World} {ops : Array Oper} {rest : List Oper} {o : Oper} {a : Act} {Q : Exit→Act→World→Prop} (hgd : o.guard = none) (s x : Operand)
  (ho : o.op = .call { callee:=.builtin .append,args:=#[s,x],argTypes:=#[33,33] })
  {B : Nat} {ao lao : Option Addr} {cap lcap d : Nat} {m l : List Ty} (hs : a.eval s = .slice ao m.length cap) (hx : a.eval x = .slice lao l.length lcap) (hown : Own w B (.slice ao m.length cap) m) (hb : TS w lao l d) (hl : lao = none→lcap = 0)
  (hsz : m.length + l.length≤4398046511104) (hB : B≤w.heap.size)
  (h : ∀ ao' cap' w',Own w' B (.slice ao' (m ++ l).length cap') (m ++ l)→w.grownBy w' (Value.ownBlock (.slice ao m.length cap))→(∀ a,ao' = some a→(∃ a',ao = some a'∧a'.block = a.block)∨w.heap.size≤a.block)→(ao' = none→ao = none) →
   wpList Tryz.prog ops Q rest (a.put o.dst (.slice ao' (m ++ l).length cap')) w') : wpList Tryz.prog ops Q (o :: rest) a w:=by
 refine wpList_plain hgd fun K hK=>?_
 obtain ⟨ao',cap',w',hr,h1,h2,h3,h4⟩:=append_run o.type hown hb hl hsz hB
 unfold Oper.wp execOp
 simp only [ho,resolve,invoke,builtin,Sem.run_bind,Sem.run_pure,Result.andThen_ok,List.map_toArray,List.map_cons,List.map_nil,hs,hx,hr]
 exact hK _ _ (h ao' cap' w' h1 h2 h3 h4)


/-- An entry: its kind, its text, its number, its three entries. -/
abbrev En:=Int × List UInt8 × Int × Int × Int × Int
def enV (e : En) : Value:=.agg #[.int .i64 e.1,.string (str e.2.1),.int .i64 e.2.2.1,.int .i64 e.2.2.2.1,.int .i64 e.2.2.2.2.1,.int .i64 e.2.2.2.2.2]
def en0 : En:=(0,[],0,0,0,0)

/-- Entries as cells. -/
def ecs : List En→List Value
 | []=>[]
 | e :: l=>.int .i64 e.1 :: .string (str e.2.1) :: .int .i64 e.2.2.1 :: .int .i64 e.2.2.2.1 :: .int .i64 e.2.2.2.2.1 :: .int .i64 e.2.2.2.2.2 :: ecs l

theorem ecs_append (a b : List En) : ecs (a ++ b) = ecs a ++ ecs b:=by
 induction a with
 | nil=>rfl
 | cons e l ih=>simp [ecs,ih]

theorem ecs_one (l : List En) : ∀ u∈ecs l,u.oneCell' = true:=by
 induction l with
 | nil=>simp [ecs]
 | cons t l ih=>
  intro u hu
  simp [ecs] at hu
  rcases hu with rfl | rfl | rfl | rfl | rfl | rfl | hu
  ·rfl
  ·rfl
  ·rfl
  ·rfl
  ·rfl
  ·rfl
  ·exact ih u hu

theorem ecs_get (l : List En) (j : Nat) (h : j < l.length) : (ecs l)[j * 6]? = some (.int .i64 l[j].1)∧(ecs l)[j * 6 + 1]? = some (.string (str l[j].2.1))∧(ecs l)[j * 6 + 2]? = some (.int .i64 l[j].2.2.1)∧(ecs l)[j * 6 + 3]? = some (.int .i64 l[j].2.2.2.1)∧(ecs l)[j * 6 + 4]? = some (.int .i64 l[j].2.2.2.2.1)∧(ecs l)[j * 6 + 5]? = some (.int .i64 l[j].2.2.2.2.2):=by
 induction l generalizing j with
 | nil=>simp at h
 | cons t l ih=>
  cases j with
  | zero=>exact ⟨rfl,rfl,rfl,rfl,rfl,rfl⟩
  | succ j=>
   have:=ih j (by simpa using h)
   simp only [ecs,Nat.add_mul,Nat.one_mul,List.getElem_cons_succ]
   exact this

/-- An entry in memory. -/
structure EnAt (w : World) (b off : Nat) (e : En) : Prop where
 c0 : w.cell? ⟨b,off,none⟩ = some (.int .i64 e.1)
 c1 : w.cell? ⟨b,off + 1,none⟩ = some (.string (str e.2.1))
 c2 : w.cell? ⟨b,off + 2,none⟩ = some (.int .i64 e.2.2.1)
 c3 : w.cell? ⟨b,off + 3,none⟩ = some (.int .i64 e.2.2.2.1)
 c4 : w.cell? ⟨b,off + 4,none⟩ = some (.int .i64 e.2.2.2.2.1)
 c5 : w.cell? ⟨b,off + 5,none⟩ = some (.int .i64 e.2.2.2.2.2)

theorem EnAt.lt {w : World} {b off : Nat} {e : En} (h : EnAt w b off e) : b < w.heap.size:=World.block_lt_of_cell? w _ h.c0

theorem EnAt.only {w w' : World} {S : List Nat} {b off : Nat} {e : En} (h : EnAt w b off e) (ho : Only S w w') (hb : b ∉ S) : EnAt w' b off e:=by
 have hl:=h.lt
 exact ⟨by rw [ho.cell hl hb]; exact h.c0,by rw [ho.cell hl hb]; exact h.c1,by rw [ho.cell hl hb]; exact h.c2,by rw [ho.cell hl hb]; exact h.c3,by rw [ho.cell hl hb]; exact h.c4,by rw [ho.cell hl hb]; exact h.c5⟩

theorem enAt_new (w : World) (e : En) (t : TypeId) : EnAt (w.alloc (.cells #[.int .i64 e.1,.string (str e.2.1),.int .i64 e.2.2.1,.int .i64 e.2.2.2.1,.int .i64 e.2.2.2.2.1,.int .i64 e.2.2.2.2.2] t)) w.heap.size 0 e:=
 ⟨by rw [cell_new]; rfl,by rw [cell_new]; rfl,by rw [cell_new]; rfl,by rw [cell_new]; rfl,by rw [cell_new]; rfl,by rw [cell_new]; rfl⟩

/-- Where the entries of a slice lie that is read: nowhere, if there are none; else in block d, one behind the other. -/
def ES (w : World) (ao : Option Addr) (l : List En) (d : Nat) : Prop:=
 l = []∨∃ off,ao = some ⟨d,off,none⟩∧∀ j (h : j < l.length),EnAt w d (off + j * 6) l[j]

theorem ES.only {w w' : World} {S : List Nat} {ao : Option Addr} {l : List En} {d : Nat} (h : ES w ao l d) (ho : Only S w w') (hn : l≠[]→d ∉ S) : ES w' ao l d:=by
 rcases h with h | ⟨off,ha,hc⟩
 ·exact .inl h
 ·by_cases hb : l = []
  ·exact .inl hb
  exact .inr ⟨off,ha,fun j hj=>(hc j hj).only ho (hn hb)⟩

theorem neq_entry (a b : En) (w : World) : (binOp .neq 90 (enV a) (enV b)).run Tryz.prog w = .ok (.bool (!decide (a = b))) w:=by
 obtain ⟨k,t,n,x,y,z⟩:=a
 obtain ⟨k',t',n',x',y',z'⟩:=b
 have hS : Tryz.prog.underlying 90 = some (.struct (Tryz.prog.fieldsOf 90)):=by kernel_rfl
 have hp : Tryz.prog.stoodInHeld 90 = false:=by kernel_rfl
 simp only [enV]
 rw [run_neq_struct,show (10000 : Nat) = 9999 + 1 from rfl,run_equalIn_agg w 9999 90 _ _ hS hp]
 simp only [Program.fieldsOf,Tryz.underlying90]
 go_simp
 simp only [str_toList]
 by_cases h1 : k = k' <;> by_cases h2 : t = t' <;> by_cases h3 : n = n' <;> by_cases h4 : x = x' <;> by_cases h5 : y = y' <;> by_cases h6 : z = z' <;> simp [h1,h2,h3,h4,h5,h6]

end Go.Proofs.YtildemmkhndhjaaGreatDoor
namespace Go.Proofs.YtildemmkhndhjaaGreatDoor

/-- The entry of a number. -/
def enAt (l : List En) (i : Int) : Option En:=if 0≤i then l[i.toNat]? else none
def hasE (l : List En) (i kind : Int) : Bool:=match enAt l i with
  | some e=>decide (e.1 = kind)
  | none=>false
/-- The text of a number. -/
def textAt (l : List En) (i : Int) : Option (List UInt8):=match enAt l i with
  | some e=>if e.1 = 1 then some e.2.1 else none
  | none=>none
/-- An entry without what its kind does not use. -/
def usedE (e : En) : En:=if e.1 = 1 then (1,e.2.1,0,0,0,0) else if e.1 = 2 then (2,[],e.2.2.1,0,0,0) else if e.1 = 3∨e.1 = 4 then (e.1,[],0,e.2.2.2.1,0,0) else (e.1,[],0,e.2.2.2.1,e.2.2.2.2.1,e.2.2.2.2.2)
def longE (s : List UInt8) : Int:=if 255 < s.length then 5 else 0
def wClass (l : List En) (i : Int) : Int:=if hasE l i 3 = true then 0 else 16
/-- What is wrong with the text of a number. -/
def wText (l : List En) (i : Int) (f : List UInt8→Int) : Int:=match textAt l i with
  | some s=>f s
  | none=>16
def fName (s : List UInt8) : Int:=if nameOK s = true then 0 else 14
def fMethod (s : List UInt8) : Int:=if methodOK s = true then 0 else 14
def fType (s : List UInt8) : Int:=(typeR s).2
def fSig (s : List UInt8) : Int:=(sigR s).2
def or3 (x y z : Int) : Int:=if x = 0 then (if y = 0 then z else y) else x
/-- What is wrong with an entry. -/
def wrongE (l : List En) (e : En) : Int:=
  if e.1 < 1∨6 < e.1 then 3 else if e≠usedE e then 1 else
  if e.1 = 1 then longE e.2.1 else if e.1 = 2 then 0 else
  if e.1 = 3 then wText l e.2.2.2.1 fName else
  if e.1 = 4 then wText l e.2.2.2.1 fType else
  if e.1 = 5 then or3 (wClass l e.2.2.2.1) (wText l e.2.2.2.2.1 fName) (wText l e.2.2.2.2.2 fType) else
  or3 (wClass l e.2.2.2.1) (wText l e.2.2.2.2.1 fMethod) (wText l e.2.2.2.2.2 fSig)
/-- The first that is wrong. -/
def firstWrong (l : List En) : List En→Nat→Int × Int
  | [],_=>(0,0)
  | e :: r,i=>if wrongE l e = 0 then firstWrong l r (i + 1) else ((i : Int),wrongE l e)
def checkE (l : List En) : Int × Int:=if 4096 < l.length then (4096,4) else firstWrong l l 0
/-- The entry of that number and kind, if it is right. -/
def rightE (l : List En) (i kind : Int) : En × Int:=match enAt l i with
  | some e=>if e.1 = kind then (if wrongE l e = 0 then (e,0) else (en0,wrongE l e)) else (en0,16)
  | none=>(en0,16)
def numberR (l : List En) (i : Int) : Int × Int:=((rightE l i 2).1.2.2.1,(rightE l i 2).2)
def textOf (l : List En) (i : Int) : List UInt8:=match enAt l i with
  | some e=>e.2.1
  | none=>[]
def classR (l : List En) (i : Int) : List UInt8 × Int:=if (rightE l i 3).2 = 0 then (textOf l (rightE l i 3).1.2.2.2.1,0) else ([],(rightE l i 3).2)
def typeAtR (l : List En) (i : Int) : Ty × Int:=if (rightE l i 4).2 = 0 then typeR (textOf l (rightE l i 4).1.2.2.2.1) else ((0,[]),(rightE l i 4).2)
def memberR (l : List En) (i kind : Int) : (List UInt8 × List UInt8 × List UInt8) × Int:=
  if (rightE l i kind).2 = 0 then
    (if (classR l (rightE l i kind).1.2.2.2.1).2 = 0 then (((classR l (rightE l i kind).1.2.2.2.1).1,textOf l (rightE l i kind).1.2.2.2.2.1,textOf l (rightE l i kind).1.2.2.2.2.2),0)
     else (([],[],[]),(classR l (rightE l i kind).1.2.2.2.1).2))
  else (([],[],[]),(rightE l i kind).2)
def fieldR (l : List En) (i : Int) : (List UInt8 × List UInt8 × Ty) × Int:=
  if (memberR l i 5).2 = 0 then (((memberR l i 5).1.1,(memberR l i 5).1.2.1,(typeR (memberR l i 5).1.2.2).1),(typeR (memberR l i 5).1.2.2).2) else (([],[],(0,[])),(memberR l i 5).2)
def methodR (l : List En) (i : Int) : (List UInt8 × List UInt8 × (List Ty × Bool × Ty)) × Int:=
  if (memberR l i 6).2 = 0 then (((memberR l i 6).1.1,(memberR l i 6).1.2.1,(sigR (memberR l i 6).1.2.2).1),(sigR (memberR l i 6).1.2.2).2) else (([],[],([],false,(0,[]))),(memberR l i 6).2)

theorem enAt_some {l : List En} {i : Int} {e : En} (h : enAt l i = some e) : ∃ (j : Nat) (hj : j < l.length),i = (j : Int)∧l[j] = e:=by
  unfold enAt at h
  split at h
  · rename_i h0
    obtain ⟨hj,he⟩:=List.getElem?_eq_some_iff.1 h
    exact ⟨i.toNat,hj,by omega,he⟩
  · cases h

theorem enAt_none {l : List En} {i : Int} (h : enAt l i = none) : i < 0∨(l.length : Int)≤i:=by
  unfold enAt at h
  split at h
  · rename_i h0
    have:=List.getElem?_eq_none_iff.1 h
    right
    omega
  · left
    omega

theorem enAt_nat {l : List En} (j : Nat) (hj : j < l.length) : enAt l (j : Int) = some l[j]:=by
  unfold enAt
  rw [if_pos (by omega)]
  simp [hj]

theorem hasE_kind {l : List En} {i kind : Int} (h : hasE l i kind = true) : ∃ e,enAt l i = some e∧e.1 = kind:=by
  unfold hasE at h
  split at h
  · rename_i e he
    exact ⟨e,he,of_decide_eq_true h⟩
  · cases h

theorem firstWrong_ok {l : List En} {r : List En} {i : Nat} (h : ∀ e∈r,wrongE l e = 0) : firstWrong l r i = (0,0):=by
  induction r generalizing i with
  | nil=>rfl
  | cons e r ih=>
    unfold firstWrong
    rw [if_pos (h e (by simp))]
    exact ih fun e he=>h e (by simp [he])

theorem firstWrong_at {l : List En} {r : List En} {i k : Nat} (hk : k < r.length) (h0 : ∀ j (hj : j < k),wrongE l (r[j]'(by omega)) = 0) (h1 : wrongE l r[k]≠0) : firstWrong l r i = (((i + k : Nat) : Int),wrongE l r[k]):=by
  induction r generalizing i k with
  | nil=>simp at hk
  | cons e r ih=>
    unfold firstWrong
    cases k with
    | zero=>
      rw [if_neg (by simpa using h1)]
      rfl
    | succ k=>
      have:=h0 0 (by omega)
      simp at this
      rw [if_pos this]
      have:=ih (i:=i + 1) (k:=k) (by simpa using hk) (fun j hj=>by simpa using h0 (j + 1) (by omega)) (by simpa using h1)
      rw [this]
      simp
      omega

end Go.Proofs.YtildemmkhndhjaaGreatDoor
namespace Go.Proofs.YtildemmkhndhjaaGreatDoor
open Go.RowKit

theorem ES.at {w : World} {ao : Option Addr} {l : List En} {d : Nat} (h : ES w ao l d) {j : Nat} (hj : j < l.length) : ∃ off,ao = some ⟨d,off,none⟩∧EnAt w d (off + j * 6) l[j]:=by
 rcases h with h | ⟨off,rfl,hc⟩
 ·rw [h] at hj
  simp at hj
 ·exact ⟨off,rfl,hc j hj⟩

theorem has_any' {w : World} {ao : Option Addr} {l : List En} {d cap : Nat} (hE : ES w ao l d) (hl : l.length≤9223372036854775807) (i kind : Int) :
  Calls Tryz.prog 158 #[.slice ao l.length cap,.int .i64 i,.int .i64 kind] w fun e w'=>e = .returned (.bool (hasE l i kind))∧w' = w:=by
 cases hi : enAt l i with
 | none=>
  have hr : hasE l i kind = false:=by simp [hasE,hi]
  rw [hr]
  rcases enAt_none hi with h | h
  ·have g1 : ¬ (0≤i):=by omega
   clear hi hr hE
   go_enter Tryz.func158,Tryz.ntmps158
   go_wp2
   go_ret
   exact ⟨rfl,rfl⟩
  ·have g1 : 0≤i:=by omega
   have g2 : ¬ (i < (l.length : Int)):=by omega
   clear hi hr hE
   go_enter Tryz.func158,Tryz.ntmps158
   go_wp2
   go_ret
   exact ⟨rfl,rfl⟩
 | some e=>
  have hr : hasE l i kind = decide (e.1 = kind):=by simp [hasE,hi]
  rw [hr]
  obtain ⟨j,hj,rfl,rfl⟩:=enAt_some hi
  clear hi hr
  obtain ⟨off,rfl,hc⟩:=hE.at hj
  obtain ⟨y0,_,_,_,_,_⟩:=hc
  generalize l[j] = e at *
  obtain ⟨k,t,n,a,b,c⟩:=e
  clear hE
  simp only at y0
  have g1 : (0 : Int)≤(j : Int):=by omega
  have g2 : ((j : Int) < (l.length : Int)):=by omega
  go_enter Tryz.func158,Tryz.ntmps158
  go_wp2
  go_ret
  refine ⟨?_,rfl⟩
  by_cases hk : k = kind <;> simp [hk]

theorem tooLong_any (s : List UInt8) (hs : s.length≤9223372036854775807) (w : World) : Calls Tryz.prog 107 #[.string (str s)] w fun e w'=>e = .returned (.int .i64 (longE s))∧w' = w:=by
 have hz:=str_size s
 by_cases h : 255 < s.length
 ·have g1 : (255 < (s.length : Int)):=by omega
  have e1 : longE s = 5:=by simp [longE,h]
  rw [e1]
  clear h e1
  go_enter Tryz.func107,Tryz.ntmps107
  go_wp2
  go_ret
  exact ⟨rfl,rfl⟩
 ·have g1 : ¬ (255 < (s.length : Int)):=by omega
  have e1 : longE s = 0:=by simp [longE,h]
  rw [e1]
  clear h e1
  go_enter Tryz.func107,Tryz.ntmps107
  go_wp2
  go_ret
  exact ⟨rfl,rfl⟩

theorem wrongClass_any {w : World} {ao : Option Addr} {l : List En} {d cap : Nat} (hE : ES w ao l d) (hl : l.length≤9223372036854775807) (i : Int) :
  Calls Tryz.prog 112 #[.slice ao l.length cap,.int .i64 i] w fun e w'=>e = .returned (.int .i64 (wClass l i))∧w' = w:=by
 have HH:=has_any' (cap:=cap) hE hl i 3
 cases h : hasE l i 3 with
 | true=>
  rw [h] at HH
  have e1 : wClass l i = 0:=by simp [wClass,h]
  rw [e1]
  clear h e1 hE
  replace HH:=hid HH
  go_enter Tryz.func112,Tryz.ntmps112
  go_wp2_with (go_at_call 158; refine HH.out.mono ?_; rintro e w' ⟨rfl,rfl⟩)
  go_ret
  exact ⟨rfl,rfl⟩
 | false=>
  rw [h] at HH
  have e1 : wClass l i = 16:=by simp [wClass,h]
  rw [e1]
  clear h e1 hE
  replace HH:=hid HH
  go_enter Tryz.func112,Tryz.ntmps112
  go_wp2_with (go_at_call 158; refine HH.out.mono ?_; rintro e w' ⟨rfl,rfl⟩)
  go_ret
  exact ⟨rfl,rfl⟩

theorem used_result {w : World} {b : Nat} {e : En} (h : EnAt w b 0 e) (tmps : Array Value) (h2 : tmps.getD 2 undef = .pointer (some ⟨b,0,none⟩)) :
  (results Tryz.f106 tmps).run Tryz.prog w = .ok (enV e) w:=by
 obtain ⟨c0,c1,c2,c3,c4,c5⟩:=h
 simp only [results,Tryz.results106]
 simp [Sem.run_bind,Result.andThen,-Array.getD_eq_getD_getElem?,h2,go_sem,c0,c1,c2,c3,c4,c5,enV]

end Go.Proofs.YtildemmkhndhjaaGreatDoor
namespace Go.Proofs.YtildemmkhndhjaaGreatDoor

theorem right_ok {l : List En} {i kind : Int} (h : (rightE l i kind).2 = 0) : ∃ e,enAt l i = some e∧e.1 = kind∧wrongE l e = 0∧rightE l i kind = (e,0):=by
 unfold rightE at h ⊢
 cases he : enAt l i with
 | none=>
  rw [he] at h
  simp at h
 | some e=>
  rw [he] at h
  simp only at h ⊢
  by_cases hk : e.1 = kind
  ·by_cases hw : wrongE l e = 0
   ·exact ⟨e,rfl,hk,hw,by simp [hk,hw]⟩
   ·simp [hk,hw] at h
  ·simp [hk] at h

theorem textAt_textOf {l : List En} {i : Int} {s : List UInt8} (h : textAt l i = some s) : textOf l i = s:=by
 unfold textAt at h
 unfold textOf
 split at h
 ·split at h
  ·simpa using h
  ·cases h
 ·cases h

theorem textAt_some {l : List En} {i : Int} {s : List UInt8} (h : textAt l i = some s) : ∃ e,enAt l i = some e∧e.1 = 1∧e.2.1 = s:=by
 unfold textAt at h
 split at h
 ·rename_i e he
  split at h
  ·rename_i h1
   exact ⟨e,he,h1,by simpa using h⟩
  ·cases h
 ·cases h

theorem wText_ok {l : List En} {i : Int} {f : List UInt8→Int} (h : wText l i f = 0) : ∃ s,textAt l i = some s∧f s = 0:=by
 unfold wText at h
 split at h
 ·rename_i s hs
  exact ⟨s,hs,h⟩
 ·cases h

theorem or3_ok {x y z : Int} (h : or3 x y z = 0) : x = 0∧y = 0∧z = 0:=by
 unfold or3 at h
 split at h
 ·split at h
  ·exact ⟨by assumption,by assumption,h⟩
  ·contradiction
 ·contradiction

theorem fName_ok {s : List UInt8} (h : fName s = 0) : nameOK s = true:=by
 unfold fName at h
 split at h
 ·assumption
 ·cases h

theorem fMethod_ok {s : List UInt8} (h : fMethod s = 0) : methodOK s = true:=by
 unfold fMethod at h
 split at h
 ·assumption
 ·cases h

theorem wClass_ok {l : List En} {i : Int} (h : wClass l i = 0) : hasE l i 3 = true:=by
 unfold wClass at h
 split at h
 ·assumption
 ·cases h

theorem wrong_used {l : List En} {e : En} (h : wrongE l e = 0) : 1≤e.1∧e.1≤6∧e = usedE e:=by
 unfold wrongE at h
 split at h
 ·cases h
 ·split at h
  ·cases h
  ·rename_i h1 h2
   refine ⟨by omega,by omega,?_⟩
   by_cases hq : e = usedE e
   ·exact hq
   ·exact absurd hq h2

theorem wrong_of {l : List En} {e : En} (h1 : 1≤e.1) (h6 : e.1≤6) (hu : e = usedE e) : wrongE l e =
  if e.1 = 1 then longE e.2.1 else if e.1 = 2 then 0 else
  if e.1 = 3 then wText l e.2.2.2.1 fName else
  if e.1 = 4 then wText l e.2.2.2.1 fType else
  if e.1 = 5 then or3 (wClass l e.2.2.2.1) (wText l e.2.2.2.2.1 fName) (wText l e.2.2.2.2.2 fType) else
  or3 (wClass l e.2.2.2.1) (wText l e.2.2.2.2.1 fMethod) (wText l e.2.2.2.2.2 fSig):=by
 unfold wrongE
 rw [if_neg (by omega),if_neg (fun h=>h hu)]

theorem wrong_class {l : List En} {e : En} (h : wrongE l e = 0) (hk : e.1 = 3) : ∃ s,textAt l e.2.2.2.1 = some s∧nameOK s = true:=by
 obtain ⟨h1,h6,hu⟩:=wrong_used h
 rw [wrong_of h1 h6 hu] at h
 simp [hk] at h
 obtain ⟨s,hs,hf⟩:=wText_ok h
 exact ⟨s,hs,fName_ok hf⟩

theorem wrong_type {l : List En} {e : En} (h : wrongE l e = 0) (hk : e.1 = 4) : ∃ s,textAt l e.2.2.2.1 = some s∧(typeR s).2 = 0:=by
 obtain ⟨h1,h6,hu⟩:=wrong_used h
 rw [wrong_of h1 h6 hu] at h
 simp [hk] at h
 exact wText_ok h

theorem wrong_field {l : List En} {e : En} (h : wrongE l e = 0) (hk : e.1 = 5) : hasE l e.2.2.2.1 3 = true∧(∃ s,textAt l e.2.2.2.2.1 = some s∧nameOK s = true)∧∃ s,textAt l e.2.2.2.2.2 = some s∧(typeR s).2 = 0:=by
 obtain ⟨h1,h6,hu⟩:=wrong_used h
 rw [wrong_of h1 h6 hu] at h
 simp [hk] at h
 obtain ⟨ha,hb,hc⟩:=or3_ok h
 obtain ⟨s,hs,hf⟩:=wText_ok hb
 exact ⟨wClass_ok ha,⟨s,hs,fName_ok hf⟩,wText_ok hc⟩

theorem wrong_method {l : List En} {e : En} (h : wrongE l e = 0) (hk : e.1 = 6) : hasE l e.2.2.2.1 3 = true∧(∃ s,textAt l e.2.2.2.2.1 = some s∧methodOK s = true)∧∃ s,textAt l e.2.2.2.2.2 = some s∧(sigR s).2 = 0:=by
 obtain ⟨h1,h6,hu⟩:=wrong_used h
 rw [wrong_of h1 h6 hu] at h
 simp [hk] at h
 obtain ⟨ha,hb,hc⟩:=or3_ok h
 obtain ⟨s,hs,hf⟩:=wText_ok hb
 exact ⟨wClass_ok ha,⟨s,hs,fMethod_ok hf⟩,wText_ok hc⟩

end Go.Proofs.YtildemmkhndhjaaGreatDoor
