/-
  What the proof leans on, part 23 of 48. The conditions stand in each theorem.
-/
import Derived.Test.YtildemmkhndhjaaGreatDoorB22
import Derived.Test.YtildemmkhndhjaaGreatDoorB17
import Derived.Test.YtildemmkhndhjaaGreatDoorB14
import Derived.Laws.OwnMore
import Derived.Test.YtildemmkhndhjaaGreatDoorB20
namespace Go.Proofs.YtildemmkhndhjaaGreatDoor
open Go.RowKit

theorem elTy : ElT 35 (.agg #[.int .i64 0,.string ⟨#[]⟩]) 2 24:=⟨by kernel_rfl,rfl,by decide,by decide⟩

/-- A copy in a block of its own; no elder block has turned. -/
def ApPost (w : World) (e : TypeId) (k n : Nat) (cs : List Value) (r : Ending) (w' : World) : Prop:=∃ ao cap,r = .returned (.slice ao n cap)∧w'.ownsRow w.heap.size e k (.slice ao n cap) n cs∧Only [] w w'

set_option maxHeartbeats 1000000 in
theorem apart_Entry {w : World} {P : Nat→Prop} {v : Value} {n : Nat} {cs : List Value} (h : SlV w P v n cs) (hn : n≤8000000) (hk : cs.length = n * 6) (hone : ∀ u∈cs,u.oneCell' = true) :
  Calls Tryz.prog 40 #[v] w (ApPost w 90 6 n cs):=by
 obtain ⟨ao,cap,d,rfl,hS⟩:=h
 go_enter Tryz.func40,Tryz.ntmps40
 go_wp2_with (refine wpList_append_any rfl (.const (.slice none 0 0)) (.tmp 3) elEn Tryz.underlying29 rfl (B:=w.heap.size) (ys:=cs) (d:=d) rfl rfl (World.ownsRow_nil _ _ _ _) hS.rs hk hone hS.no (by omega) (Nat.le_refl _) ?_; intro ao' cap' w' hA)
 go_ret
 have h1:=hA.own
 have h2:=hA.only
 rw [List.nil_append,Nat.zero_add] at h1
 exact ⟨ao',cap',by simp,by simpa using h1,by simpa [Value.ownBlock] using h2⟩

set_option maxHeartbeats 1000000 in
theorem apart_Class {w : World} {P : Nat→Prop} {v : Value} {n : Nat} {cs : List Value} (h : SlV w P v n cs) (hn : n≤8000000) (hk : cs.length = n * 6) (hone : ∀ u∈cs,u.oneCell' = true) :
  Calls Tryz.prog 41 #[v] w (ApPost w 28 6 n cs):=by
 obtain ⟨ao,cap,d,rfl,hS⟩:=h
 go_enter Tryz.func41,Tryz.ntmps41
 go_wp2_with (refine wpList_append_any rfl (.const (.slice none 0 0)) (.tmp 3) elCl Tryz.underlying30 rfl (B:=w.heap.size) (ys:=cs) (d:=d) rfl rfl (World.ownsRow_nil _ _ _ _) hS.rs hk hone hS.no (by omega) (Nat.le_refl _) ?_; intro ao' cap' w' hA)
 go_ret
 have h1:=hA.own
 have h2:=hA.only
 rw [List.nil_append,Nat.zero_add] at h1
 exact ⟨ao',cap',by simp,by simpa using h1,by simpa [Value.ownBlock] using h2⟩

set_option maxHeartbeats 1000000 in
theorem apart_Str {w : World} {P : Nat→Prop} {v : Value} {n : Nat} {cs : List Value} (h : SlV w P v n cs) (hn : n≤8000000) (hk : cs.length = n * 1) (hone : ∀ u∈cs,u.oneCell' = true) :
  Calls Tryz.prog 100 #[v] w (ApPost w 9 1 n cs):=by
 obtain ⟨ao,cap,d,rfl,hS⟩:=h
 go_enter Tryz.func100,Tryz.ntmps100
 go_wp2_with (refine wpList_append_any rfl (.const (.slice none 0 0)) (.tmp 3) elStr Tryz.underlying24 rfl (B:=w.heap.size) (ys:=cs) (d:=d) rfl rfl (World.ownsRow_nil _ _ _ _) hS.rs hk hone hS.no (by omega) (Nat.le_refl _) ?_; intro ao' cap' w' hA)
 go_ret
 have h1:=hA.own
 have h2:=hA.only
 rw [List.nil_append,Nat.zero_add] at h1
 exact ⟨ao',cap',by simp,by simpa using h1,by simpa [Value.ownBlock] using h2⟩

set_option maxHeartbeats 1000000 in
theorem apart_Field {w : World} {P : Nat→Prop} {v : Value} {n : Nat} {cs : List Value} (h : SlV w P v n cs) (hn : n≤8000000) (hk : cs.length = n * 4) (hone : ∀ u∈cs,u.oneCell' = true) :
  Calls Tryz.prog 101 #[v] w (ApPost w 44 4 n cs):=by
 obtain ⟨ao,cap,d,rfl,hS⟩:=h
 go_enter Tryz.func101,Tryz.ntmps101
 go_wp2_with (refine wpList_append_any rfl (.const (.slice none 0 0)) (.tmp 3) elFd Tryz.underlying25 rfl (B:=w.heap.size) (ys:=cs) (d:=d) rfl rfl (World.ownsRow_nil _ _ _ _) hS.rs hk hone hS.no (by omega) (Nat.le_refl _) ?_; intro ao' cap' w' hA)
 go_ret
 have h1:=hA.own
 have h2:=hA.only
 rw [List.nil_append,Nat.zero_add] at h1
 exact ⟨ao',cap',by simp,by simpa using h1,by simpa [Value.ownBlock] using h2⟩

set_option maxHeartbeats 1000000 in
theorem apart_Method {w : World} {P : Nat→Prop} {v : Value} {n : Nat} {cs : List Value} (h : SlV w P v n cs) (hn : n≤8000000) (hk : cs.length = n * 10) (hone : ∀ u∈cs,u.oneCell' = true) :
  Calls Tryz.prog 102 #[v] w (ApPost w 41 10 n cs):=by
 obtain ⟨ao,cap,d,rfl,hS⟩:=h
 go_enter Tryz.func102,Tryz.ntmps102
 go_wp2_with (refine wpList_append_any rfl (.const (.slice none 0 0)) (.tmp 3) elMe Tryz.underlying26 rfl (B:=w.heap.size) (ys:=cs) (d:=d) rfl rfl (World.ownsRow_nil _ _ _ _) hS.rs hk hone hS.no (by omega) (Nat.le_refl _) ?_; intro ao' cap' w' hA)
 go_ret
 have h1:=hA.own
 have h2:=hA.only
 rw [List.nil_append,Nat.zero_add] at h1
 exact ⟨ao',cap',by simp,by simpa using h1,by simpa [Value.ownBlock] using h2⟩

set_option maxHeartbeats 1000000 in
theorem apart_Type {w : World} {P : Nat→Prop} {v : Value} {n : Nat} {cs : List Value} (h : SlV w P v n cs) (hn : n≤8000000) (hk : cs.length = n * 2) (hone : ∀ u∈cs,u.oneCell' = true) :
  Calls Tryz.prog 103 #[v] w (ApPost w 35 2 n cs):=by
 obtain ⟨ao,cap,d,rfl,hS⟩:=h
 go_enter Tryz.func103,Tryz.ntmps103
 go_wp2_with (refine wpList_append_any rfl (.const (.slice none 0 0)) (.tmp 3) elTy Tryz.underlying33 rfl (B:=w.heap.size) (ys:=cs) (d:=d) rfl rfl (World.ownsRow_nil _ _ _ _) hS.rs hk hone hS.no (by omega) (Nat.le_refl _) ?_; intro ao' cap' w' hA)
 go_ret
 have h1:=hA.own
 have h2:=hA.only
 rw [List.nil_append,Nat.zero_add] at h1
 exact ⟨ao',cap',by simp,by simpa using h1,by simpa [Value.ownBlock] using h2⟩

set_option maxHeartbeats 1000000 in
theorem apart_Byte {w : World} {P : Nat→Prop} {v : Value} {n : Nat} {cs : List Value} (h : SlV w P v n cs) (hn : n≤8000000) (hk : cs.length = n * 1) (hone : ∀ u∈cs,u.oneCell' = true) :
  Calls Tryz.prog 104 #[v] w (ApPost w 5 1 n cs):=by
 obtain ⟨ao,cap,d,rfl,hS⟩:=h
 go_enter Tryz.func104,Tryz.ntmps104
 go_wp2_with (refine wpList_append_any rfl (.const (.slice none 0 0)) (.tmp 3) elByte Tryz.underlying38 rfl (B:=w.heap.size) (ys:=cs) (d:=d) rfl rfl (World.ownsRow_nil _ _ _ _) hS.rs hk hone hS.no (by omega) (Nat.le_refl _) ?_; intro ao' cap' w' hA)
 go_ret
 have h1:=hA.own
 have h2:=hA.only
 rw [List.nil_append,Nat.zero_add] at h1
 exact ⟨ao',cap',by simp,by simpa using h1,by simpa [Value.ownBlock] using h2⟩

set_option maxHeartbeats 1000000 in
theorem apart_Handler {w : World} {P : Nat→Prop} {v : Value} {n : Nat} {cs : List Value} (h : SlV w P v n cs) (hn : n≤8000000) (hk : cs.length = n * 4) (hone : ∀ u∈cs,u.oneCell' = true) :
  Calls Tryz.prog 105 #[v] w (ApPost w 46 4 n cs):=by
 obtain ⟨ao,cap,d,rfl,hS⟩:=h
 go_enter Tryz.func105,Tryz.ntmps105
 go_wp2_with (refine wpList_append_any rfl (.const (.slice none 0 0)) (.tmp 3) elHd Tryz.underlying39 rfl (B:=w.heap.size) (ys:=cs) (d:=d) rfl rfl (World.ownsRow_nil _ _ _ _) hS.rs hk hone hS.no (by omega) (Nat.le_refl _) ?_; intro ao' cap' w' hA)
 go_ret
 have h1:=hA.own
 have h2:=hA.only
 rw [List.nil_append,Nat.zero_add] at h1
 exact ⟨ao',cap',by simp,by simpa using h1,by simpa [Value.ownBlock] using h2⟩


/-- Three cells of a block anew. -/
def set3 (w : World) (g i j l : Nat) (a b c : Value) : World:=((w.setCell ⟨g,i,none⟩ a).setCell ⟨g,j,none⟩ b).setCell ⟨g,l,none⟩ c

theorem blk_set {A B : World} {g : Nat} (h : A.heap[g]? = B.heap[g]?) (i : Nat) (u : Value) : (A.setCell ⟨g,i,none⟩ u).heap[g]? = (B.setCell ⟨g,i,none⟩ u).heap[g]?:=by
 simp only [World.setCell,Array.getElem?_modify,if_true,h]

theorem blk_set3 {A B : World} {g : Nat} (h : A.heap[g]? = B.heap[g]?) (i j l : Nat) (a b c : Value) : (set3 A g i j l a b c).heap[g]? = (set3 B g i j l a b c).heap[g]?:=blk_set (blk_set (blk_set h i a) j b) l c

theorem set3_only (w : World) (g i j l : Nat) (a b c : Value) : Only [g] w (set3 w g i j l a b c):=
 (((Only.refl [g] w).setCell (.inl (by simp)) _).setCell (.inl (by simp)) _).setCell (.inl (by simp)) _

theorem rows_blk {w w' : World} {B n : Nat} {e : TypeId} {k : Nat} {v : Value} {xs : List Value} (h : w.ownsRow B e k v n xs) (hb : ∀ g,v.ownBlock = some g→w'.heap[g]? = w.heap[g]?) : w'.ownsRow B e k v n xs:=by
 refine ⟨h.1,?_⟩
 rcases h.2 with h0 | ⟨g,cap,cur,rfl,h1,h2,h3⟩
 ·exact .inl h0
 ·exact .inr ⟨g,cap,cur,rfl,h1,(hb g rfl).trans h2,h3⟩

theorem rows_set3 {w : World} {B n cap g : Nat} {e : TypeId} {k : Nat} {xs : List Value} (h : w.ownsRow B e k (.slice (some ⟨g,0,none⟩) n cap) n xs) (i j l : Nat) (a b c : Value) :
  (set3 w g i j l a b c).ownsRow B e k (.slice (some ⟨g,0,none⟩) n cap) n (((xs.set i a).set j b).set l c):=by
 have h1:=(h.stored i a).1
 have h2:=(h1.stored j b).1
 exact (h2.stored l c).1

/-- The cells of the j-th element. -/
def pcs (cs : List Value) (k j : Nat) : List Value:=(cs.drop (j * k)).take k

theorem pcs_ne {cs : List Value} {k j i : Nat} {u : Value} (h : i < j * k∨(j + 1) * k≤i) : pcs (cs.set i u) k j = pcs cs k j:=by
 unfold pcs
 rw [List.drop_set]
 split
 ·rfl
 ·rename_i hh
  rw [Nat.add_mul,Nat.one_mul] at h
  rw [List.take_set,List.set_eq_of_length_le]
  rw [List.length_take]
  omega

theorem pcs_in {cs : List Value} {k j i : Nat} {u : Value} (h : j * k≤i) : pcs (cs.set i u) k j = (pcs cs k j).set (i - j * k) u:=by
 unfold pcs
 rw [List.drop_set,if_neg (by omega),List.take_set]

theorem drop_set_lt {cs : List Value} {m i : Nat} {u : Value} (h : i < m) : (cs.set i u).drop m = cs.drop m:=by
 rw [List.drop_set,if_pos h]

theorem pcs_drop {cs ds : List Value} {k j m : Nat} (h : cs.drop (m * k) = ds.drop (m * k)) (hj : m≤j) : pcs cs k j = pcs ds k j:=by
 have e : j * k = m * k + (j * k - m * k):=by have:=Nat.mul_le_mul_right k hj; omega
 unfold pcs
 rw [e,← List.drop_drop,← List.drop_drop,h]

theorem els_one {α : Type} {k : Nat} {A : List Value→α→Prop} {cs : List Value} {l : List α} (h : Els k A cs l) (hk : 0 < k) (hA : ∀ c x,A c x→∀ u∈c,u.oneCell' = true) : ∀ u∈cs,u.oneCell' = true:=by
 intro u hu
 obtain ⟨i,hi,rfl⟩:=List.getElem_of_mem hu
 have hl:=h.len
 have hj : i / k < l.length:=by rw [Nat.div_lt_iff_lt_mul hk]; omega
 refine hA _ _ (h.el (i / k) hj) _ ?_
 have e1:=Nat.div_add_mod i k
 have e2:=Nat.mod_lt i hk
 rw [Nat.mul_comm] at e1
 rw [List.mem_iff_getElem?]
 refine ⟨i % k,?_⟩
 rw [List.getElem?_take,if_pos e2,List.getElem?_drop,e1,List.getElem?_eq_getElem hi]

theorem me_one {w : World} {P : Nat→Prop} : ∀ c x,MeC (SlR w P) c x→∀ u∈c,u.oneCell' = true:=by
 rintro c x ⟨vp,vc,vh,rfl,h1,h2,h3⟩ u hu
 have a1:=SlV.one h1
 have a2:=SlV.one h2
 have a3:=SlV.one h3
 simp only [meC,List.mem_cons,List.not_mem_nil,or_false] at hu
 rcases hu with rfl | rfl | rfl | rfl | rfl | rfl | rfl | rfl | rfl | rfl <;> first | exact a1 | exact a2 | exact a3 | rfl

theorem cl_one {w : World} {P : Nat→Prop} : ∀ c x,ClC (SlR w P) c x→∀ u∈c,u.oneCell' = true:=by
 rintro c x ⟨vf,vd,vm,rfl,h1,h2,mcs,h3,_⟩ u hu
 have a1:=SlV.one h1
 have a2:=SlV.one h2
 have a3:=SlV.one h3
 simp only [clC,List.mem_cons,List.not_mem_nil,or_false] at hu
 rcases hu with rfl | rfl | rfl | rfl | rfl | rfl <;> first | exact a1 | exact a2 | exact a3 | rfl

theorem one_scs (l : List (List UInt8)) : ∀ u∈scs l,u.oneCell' = true:=by
 intro u hu
 simp only [scs,scC,List.mem_flatMap,List.mem_singleton] at hu
 obtain ⟨_,_,rfl⟩:=hu
 rfl

theorem one_fcs (l : List Fd) : ∀ u∈fcs l,u.oneCell' = true:=by
 intro u hu
 simp only [fcs,fdC,List.mem_flatMap,List.mem_cons,List.not_mem_nil,or_false] at hu
 obtain ⟨_,_,rfl | rfl | rfl | rfl⟩:=hu <;> rfl

theorem one_hcs (l : List Hd) : ∀ u∈hcs l,u.oneCell' = true:=by
 intro u hu
 simp only [hcs,hdC,List.mem_flatMap,List.mem_cons,List.not_mem_nil,or_false] at hu
 obtain ⟨_,_,rfl | rfl | rfl | rfl⟩:=hu <;> rfl

theorem len_scs (l : List (List UInt8)) : (scs l).length = l.length * 1:=(els_flat scC (fun _=>rfl) l).len
theorem len_fcs (l : List Fd) : (fcs l).length = l.length * 4:=(els_flat fdC (fun _=>rfl) l).len
theorem len_hcs (l : List Hd) : (hcs l).length = l.length * 4:=(els_flat hdC (fun _=>rfl) l).len

/-- A method's slices apart. -/
theorem me_put {vp vc vh : Value} {m : Me} {a b c : Value} : (((meC vp vc vh m).set 2 a).set 8 b).set 9 c = meC a b c m:=rfl
theorem cl_put {vf vd vm : Value} {m : Cl} {a b c : Value} : (((clC vf vd vm m).set 3 a).set 4 b).set 5 c = clC a b c m:=rfl


/-- Three cells of a block that may be written. -/
structure Q3 (w : World) (g i j l : Nat) (a b c : Value) : Prop where
 a : w.cell? ⟨g,i,none⟩ = some a
 b : w.cell? ⟨g,j,none⟩ = some b
 c : w.cell? ⟨g,l,none⟩ = some c
 fa : w.frozen? ⟨g,i,none⟩ = false
 fb : w.frozen? ⟨g,j,none⟩ = false
 fc : w.frozen? ⟨g,l,none⟩ = false

theorem Q3.only0 {w w' : World} {g i j l : Nat} {a b c : Value} (h : Q3 w g i j l a b c) (ho : Only [] w w') : Q3 w' g i j l a b c:=by
 have hl:=World.block_lt_of_cell? w _ h.a
 exact ⟨(ho.cell (p:=⟨g,i,none⟩) hl (by simp)).trans h.a,(ho.cell (p:=⟨g,j,none⟩) hl (by simp)).trans h.b,(ho.cell (p:=⟨g,l,none⟩) hl (by simp)).trans h.c,(ho.frozen (p:=⟨g,i,none⟩) hl (by simp)).trans h.fa,(ho.frozen (p:=⟨g,j,none⟩) hl (by simp)).trans h.fb,(ho.frozen (p:=⟨g,l,none⟩) hl (by simp)).trans h.fc⟩

theorem tw_meet {w w1 w2 w3 : World} {g i j l B1 B2 B3 : Nat} {e1 e2 e3 : TypeId} {k1 k2 k3 n1 n2 n3 : Nat} {v1 v2 v3 : Value} {x1 x2 x3 : List Value} (hgl : g < w.heap.size) (q1 : Only [] w w1) (o2 : Only [] w1 w2) (o3 : Only [] w2 w3)
  (r1 : w1.ownsRow B1 e1 k1 v1 n1 x1) (r2 : w2.ownsRow B2 e2 k2 v2 n2 x2) (r3 : w3.ownsRow B3 e3 k3 v3 n3 x3) (h1 : w.heap.size≤B1) (h2 : w.heap.size≤B2) (h3 : w.heap.size≤B3) :
  Only [g] w (set3 w3 g i j l v1 v2 v3)∧(set3 w3 g i j l v1 v2 v3).heap[g]? = (set3 w g i j l v1 v2 v3).heap[g]?∧(set3 w3 g i j l v1 v2 v3).ownsRow B1 e1 k1 v1 n1 x1∧(set3 w3 g i j l v1 v2 v3).ownsRow B2 e2 k2 v2 n2 x2∧(set3 w3 g i j l v1 v2 v3).ownsRow B3 e3 k3 v3 n3 x3:=by
 have q3 : Only [] w w3:=(q1.trans o2 (by simp)).trans o3 (by simp)
 have os:=set3_only w3 g i j l v1 v2 v3
 refine ⟨(q3.mono (by simp)).trans os (by simp),blk_set3 (q3.block g hgl (by simp)) i j l v1 v2 v3,?_,?_,?_⟩
 ·refine rows_only (rows_only (rows_only r1 o2 (by simp)) o3 (by simp)) os fun b hb=>?_
  have:=(r1.lt b hb).1
  simp
  omega
 ·refine rows_only (rows_only r2 o3 (by simp)) os fun b hb=>?_
  have:=(r2.lt b hb).1
  simp
  omega
 ·refine rows_only r3 os fun b hb=>?_
  have:=(r3.lt b hb).1
  simp
  omega

/-- Rows of unlike elements lie in unlike blocks. -/
theorem rows_unlike {w : World} {B C n m : Nat} {e f : TypeId} {j k : Nat} {v u : Value} {xs ys : List Value} (h : w.ownsRow B e j v n xs) (h' : w.ownsRow C f k u m ys) (hef : e≠f) {g : Nat} (hu : u.ownBlock = some g) : v.ownBlock≠some g:=by
 intro hv
 rcases h.2 with ⟨rfl,_⟩ | ⟨a,cap,cur,rfl,_,h1,_⟩
 ·simp [Value.ownBlock] at hv
 ·rcases h'.2 with ⟨rfl,_⟩ | ⟨b,cap',cur',rfl,_,h2,_⟩
  ·simp [Value.ownBlock] at hu
  ·simp [Value.ownBlock] at hv hu
   subst hv
   subst hu
   rw [h1] at h2
   simp only [Option.some.injEq,Obj.cells.injEq] at h2
   exact hef h2.2.1

/-- What stands at the head of the k-th round. -/
structure TwI (w : World) (g off : Nat) (c : Cl) (mcs : List Value) (po qo mo : Option Addr) (pc qc mc k : Nat) (wr : World) (ms : List Value) : Prop where
 row : wr.ownsRow w.heap.size 41 10 (.slice mo c.methods.length mc) c.methods.length ms
 done : ∀ i (hi : i < c.methods.length),i < k→MeC (OwR wr w.heap.size fun d=>∀ a,mo = some a→a.block < d) (pcs ms 10 i) c.methods[i]
 left : ms.drop (k * 10) = mcs.drop (k * 10)
 faces : wr.ownsRow w.heap.size 9 1 (.slice po c.faces.length pc) c.faces.length (scs c.faces)
 fields : wr.ownsRow w.heap.size 44 4 (.slice qo c.fields.length qc) c.fields.length (fcs c.fields)
 only : Only [g] w wr
 cell : wr.cell? ⟨g,off + 5,none⟩ = some (.slice mo c.methods.length mc)
 blk : wr.heap[g]? = (set3 w g (off + 3) (off + 4) (off + 5) (.slice po c.faces.length pc) (.slice qo c.fields.length qc) (.slice mo c.methods.length mc)).heap[g]?

/-- The cells of the k-th method at the head of its round. -/
theorem TwI.head {w : World} {g off : Nat} {c : Cl} {mcs : List Value} {po qo mo : Option Addr} {pc qc mc k : Nat} {wr : World} {ms : List Value} {P : Nat→Prop} (h : TwI w g off c mcs po qo mo pc qc mc k wr ms) (hE : Els 10 (MeC (SlR w P)) mcs c.methods) (hk : k < c.methods.length) :
  ∃ gm vp vc vh,mo = some ⟨gm,0,none⟩∧w.heap.size≤gm∧gm < wr.heap.size∧pcs ms 10 k = meC vp vc vh c.methods[k]∧MeAt (SlR w P) vp vc vh c.methods[k]∧Q3 wr gm (k * 10 + 2) (k * 10 + 8) (k * 10 + 9) vp vc vh:=by
 have hr:=h.row
 cases mo with
 | none=>
  rcases hr.2 with ⟨_,h0⟩ | ⟨b,cap,cur,hv,_⟩
  ·omega
  ·simp at hv
 | some a=>
  obtain ⟨r1,_,_,_,r5⟩:=RS.of_owns hr
  obtain ⟨r6,r7,r8⟩:=r5 a rfl
  rw [r8] at hr r1
  obtain ⟨vp,vc,vh,hc,hm⟩:=hE.el k hk
  have hp : pcs ms 10 k = meC vp vc vh c.methods[k]:=(pcs_drop h.left (Nat.le_refl _)).trans hc
  obtain ⟨o,ho,hcell⟩:=RS.piece r1 10 k hp (by simp [meC])
  obtain rfl : o = 0:=by
   have:=congrArg (fun x=>(x.map (·.off)).getD 1) ho
   simpa using this.symm
  simp only [Option.map_some,Option.getD_some,Nat.zero_add] at hcell
  exact ⟨a.block,vp,vc,vh,by rw [r8],r6,r7,hp,hm,hcell 2 _ rfl,hcell 8 _ rfl,hcell 9 _ rfl,hr.frozenAt _,hr.frozenAt _,hr.frozenAt _⟩

theorem TwI.next {w w1 w2 w3 : World} {g off : Nat} {c : Cl} {mcs : List Value} {po qo : Option Addr} {pc qc mc k gm : Nat} {wr : World} {ms : List Value} {a b d vp vc vh : Value} (h : TwI w g off c mcs po qo (some ⟨gm,0,none⟩) pc qc mc k wr ms) (hk : k < c.methods.length) (hg : g < w.heap.size) (hgm : w.heap.size≤gm∧gm < wr.heap.size) (hp : pcs ms 10 k = meC vp vc vh c.methods[k])
  (q1 : Only [] wr w1) (o2 : Only [] w1 w2) (o3 : Only [] w2 w3) (r1 : w1.ownsRow wr.heap.size 35 2 a c.methods[k].sig.1.length (tcs c.methods[k].sig.1)) (r2 : w2.ownsRow w1.heap.size 5 1 b c.methods[k].code.length (bcs c.methods[k].code)) (r3 : w3.ownsRow w2.heap.size 46 4 d c.methods[k].hands.length (hcs c.methods[k].hands)) :
  ∃ ms',TwI w g off c mcs po qo (some ⟨gm,0,none⟩) pc qc mc (k + 1) (set3 w3 gm (k * 10 + 2) (k * 10 + 8) (k * 10 + 9) a b d) ms':=by
 have s1:=q1.size
 have s2:=o2.size
 obtain ⟨t1,t2,t3,t4,t5⟩:=tw_meet (i:=k * 10 + 2) (j:=k * 10 + 8) (l:=k * 10 + 9) hgm.2 q1 o2 o3 r1 r2 r3 (Nat.le_refl _) s1 (by omega)
 have hb : ∀ {v : Value} {B n j : Nat} {e : TypeId} {xs : List Value},wr.ownsRow B e j v n xs→e≠41→(set3 w3 gm (k * 10 + 2) (k * 10 + 8) (k * 10 + 9) a b d).ownsRow B e j v n xs:=fun {v B n j e xs} hv he=>rows_only hv t1 fun x hx=>by
  have:=rows_unlike hv h.row he (g:=gm) rfl
  intro hm
  obtain rfl:=List.mem_singleton.1 hm
  exact this hx
 refine ⟨((ms.set (k * 10 + 2) a).set (k * 10 + 8) b).set (k * 10 + 9) d,?_,?_,?_,hb h.faces (by decide),hb h.fields (by decide),h.only.trans t1 (fun x hx=>by simp at hx; right; omega),?_,?_⟩
 ·exact rows_blk (rows_set3 h.row _ _ _ a b d) fun x hx=>by
   simp [Value.ownBlock] at hx
   subst hx
   exact t2
 ·intro i hi hik
  by_cases e : i = k
  ·subst e
   refine ⟨a,b,d,?_,⟨rows_mono t3 h.only.size,?_⟩,⟨rows_mono t4 (by have:=h.only.size; omega),?_⟩,⟨rows_mono t5 (by have:=h.only.size; omega),?_⟩⟩
   ·rw [pcs_in (by omega),pcs_in (by omega),pcs_in (by omega),hp]
    rw [show i * 10 + 2 - i * 10 = 2 by omega,show i * 10 + 8 - i * 10 = 8 by omega,show i * 10 + 9 - i * 10 = 9 by omega]
    exact me_put
   ·intro x hx y hy
    have:=(r1.lt x hx).1
    simp at hy
    subst hy
    show gm < x
    omega
   ·intro x hx y hy
    have:=(r2.lt x hx).1
    simp at hy
    subst hy
    show gm < x
    omega
   ·intro x hx y hy
    have:=(r3.lt x hx).1
    simp at hy
    subst hy
    show gm < x
    omega
  ·have hlt : i < k:=by omega
   have hm : (i + 1) * 10≤k * 10:=Nat.mul_le_mul_right 10 hlt
   rw [pcs_ne (.inr (by omega)),pcs_ne (.inr (by omega)),pcs_ne (.inr (by omega))]
   exact (h.done i hi hlt).imp fun _ _ _ _ _ hh=>⟨rows_only hh.1 t1 fun x hx hm2=>by
    obtain rfl:=List.mem_singleton.1 hm2
    exact Nat.lt_irrefl _ (hh.2 _ hx _ rfl),hh.2⟩
 ·have hl:=h.left
  have e1 : (k + 1) * 10 = k * 10 + 10:=by omega
  rw [e1,drop_set_lt (by omega),drop_set_lt (by omega),drop_set_lt (by omega),← List.drop_drop,← List.drop_drop,hl]
 ·exact (t1.cell (p:=⟨g,off + 5,none⟩) (Nat.lt_of_lt_of_le hg h.only.size) (by simp; omega)).trans h.cell
 ·exact (t1.block g (Nat.lt_of_lt_of_le hg h.only.size) (by simp; omega)).trans h.blk

end Go.Proofs.YtildemmkhndhjaaGreatDoor
