/-
  What the proof leans on, part 43 of 48. The conditions stand in each theorem.
-/
import Derived.Test.YtildemmkhndhjaaGreatDoorB17
import Derived.Test.YtildemmkhndhjaaGreatDoorB28
import Derived.Test.YtildemmkhndhjaaGreatDoorB42
import Derived.Test.YtildemmkhndhjaaGreatDoorB22
import Derived.Test.YtildemmkhndhjaaGreatDoorB13
import Derived.Deep.DeepCutAuto
namespace Go.Proofs.YtildemmkhndhjaaGreatDoor
open Go.RowKit

theorem ClAt.one {w : World} {B : Nat} {P : Nat→Prop} {vf vd vm : Value} {m : Cl} (h : ClAt (OwR w B P) vf vd vm m) : ∀ u∈clC vf vd vm m,u.oneCell' = true:=by
 have h1:=(owr_slice h.faces).one
 have h2:=(owr_slice h.fields).one
 have h3:=(owr_slice h.methods.choose_spec.1).one
 intro u hu
 simp only [clC,List.mem_cons,List.not_mem_nil,or_false] at hu
 rcases hu with rfl | rfl | rfl | rfl | rfl | rfl <;> first | assumption | rfl

theorem els_growC {w1 w2 w3 : World} {B sb r : Nat} {o : Obj} {e : TypeId} {k m n n' cap cap' : Nat} {ao ao' : Option Addr} {zs mcs : List Value} {xs : List Cl} {x : Cl} {vf vd vm : Value} (hE : Els 6 (ClC (OwR w1 B (OffB ao))) mcs xs) (hx : ClAt (OwR w2 (w1.heap.size + 1) fun _=>True) vf vd vm x)
  (hown : w1.ownsRow B e k (.slice ao n cap) n mcs) (h1 : B≤w1.heap.size) (ho2 : Only [sb,r] w1 w2) (hB : sb < B∧r < B) (hA : Appd (w2.alloc o) w3 B e k ao ao' m n' cap' zs) : Els 6 (ClC (OwR w3 B (OffB ao'))) (mcs ++ clC vf vd vm x) (xs ++ [x]):=
 (hE.imp fun _ _ _ h=>h.imp (owr_grow ho2 hB hA)).snoc rfl ⟨vf,vd,vm,rfl,hx.imp (owr_new hown h1 hA)⟩

theorem Els.secondC {R : Rp} {cs : List Value} {y : Cl} {ys : List Cl} (h : Els 6 (ClC R) cs (y :: ys)) : ∃ u,(∀ x,u≠Value.int .i64 x)∧cs[1]? = some u:=by
 obtain ⟨vp,vc,vh,he,_⟩:=h.el 0 (by simp)
 refine ⟨.string (str y.name),by simp,?_⟩
 have : ((cs.drop (0 * 6)).take 6)[1]? = cs[1]?:=by rw [List.getElem?_take,if_pos (by omega),Nat.zero_mul,List.drop_zero]
 rw [← this,he]
 rfl

set_option maxHeartbeats 4000000 in
theorem rows_cl {w : World} {sb r d : Nat} {t : St} (h : Sc w sb r d t) (most : Nat) (hmost : most≤100000) :
  Calls Tryz.prog 79 #[.pointer (some ⟨sb,0,none⟩),.func (.func 80) #[.pointer (some ⟨r,0,none⟩)] #[],.int .i64 (most : Int),.func (.func 81) #[.pointer (some ⟨sb,0,none⟩)] #[]] w
   fun e w'=>∃ (xs : List Cl) (t' : St) (ao : Option Addr) (cap : Nat),e = .returned (.slice ao xs.length cap)∧∃ mcs : List Value,w'.ownsRow w.heap.size 28 6 (.slice ao xs.length cap) xs.length mcs∧Els 6 (ClC (OwR w' w.heap.size (OffB ao))) mcs xs∧AllFit ClFit xs∧xs.length≤65536∧Sc w' sb r d t'∧Out (pRows 1 most pClass) t xs t'∧Only [sb,r] w w':=by
 have c0:=h.c0
 have hl:=hid h.lt
 have HA:=hid (sc_at h)
 have HU:=hid (sc_u1 h)
 clear h
 go_enter Tryz.func79,Tryz.ntmps79
 go_wp2_with fail
 refine HA.out.mono ?_
 rintro e w1 ⟨at_,rfl,hat,rfl⟩
 go_wp2_with fail
 refine HU.out.mono ?_
 rintro e w1 ⟨n,t0,rfl,hn,h0,hO,ho1⟩
 clear HA HU c0
 have o1 : Hid (Only [sb,r] w w1):=ho1.mono (by simp)
 replace hat:=hid hat
 replace hO:=hid hO
 by_cases hm : most < n
 ·have gm : (most : Int) < (n : Int):=by omega
  have HR:=hid (refuse_src h0 (at_ : Int) 4 (by decide))
  go_wp2_with fail
  refine HR.out.mono ?_
  rintro e w2 ⟨rfl,hS2,ho2⟩
  clear HR
  have hSt:=hid hS2
  have oSt:=hid (o1.out.trans ho2 (by simp))
  clear hS2 ho2 ho1 h0
  go_wp2_with fail
  go_loopw [11] (fun l wr=>∃ (xs : List Cl) (t1 : St) (ao : Option Addr) (cap : Nat) (mcs : List Value),l = .slice ao xs.length cap∧xs.length≤n∧Hid (wr.ownsRow w.heap.size 28 6 (.slice ao xs.length cap) xs.length mcs)∧Hid (Els 6 (ClC (OwR wr w.heap.size (OffB ao))) mcs xs)∧Hid (xs = []→ao = none)∧Hid (AllFit ClFit xs)∧Hid (Sc wr sb r d t1)∧Hid ((most < n∧t1 = tRefuse (at_ : Int) 4 t0∧xs = [])∨(¬ most < n∧Far pClass n t0 xs t1))∧Hid (Only [sb,r] w wr)) (fun l _=>n - sliceLen l)
  case atStart=>exact ⟨[],_,none,0,[],rfl,by simp,World.ownsRow_nil _ _ _ _,hid (Els.nil _ _),hid (fun _=>rfl),hid (fun _ h=>by cases h),hSt,hid (.inl ⟨hm,rfl,rfl⟩),oSt⟩
  case round=>
   obtain ⟨xs,t1,ao,cap,mcs,rfl,hxn,hown,hE,hnil,hlen,hS,hF,hO1⟩:=hrel
   clear hSt oSt
   have HFi:=hid (fine_src hS.out)
   by_cases hlt : xs.length < n
   ·have g1 : ((xs.length : Int) < (n : Int)):=by omega
    cases hfi : isFine t1 with
    | true=>
     rw [hfi] at HFi
     have hFar : Hid (¬ most < n∧Far pClass n t0 xs t1):=by
      rcases hF.out with ⟨_,h2,_⟩ | h2
      ·rw [h2] at hfi
       cases t0 <;> cases hfi
      ·exact h2
     have HR:=hid (rclass_any hS.out)
     unfold clV at HR
     have c0:=hS.out.c0
     go_wp2_with fail
     refine HFi.out.mono ?_
     rintro e w2 ⟨rfl,rfl⟩
     go_wp2_with fail
     refine HR.out.mono ?_
     rintro e w2 ⟨x,t2,vf,vd,vm,rfl,hxl,hAt,hS2,hOx,ho2⟩
     clear HR c0
     have hl1:=hl.out
     have hown2:=rows_only hown.out (ho2.alloc (.cells #[.int .i64 x.flags,.string (str x.name),.string (str x.super),vf,vd,vm] 28)) (fun g hg=>by have:=(hown.out.lt g hg).1; simp; omega)
     have o2:=hid ((hO1.out.trans ho2 (by simp)).alloc (.cells #[.int .i64 x.flags,.string (str x.name),.string (str x.super),vf,vd,vm] 28))
     have hR:=RS.fresh w2 #[.int .i64 x.flags,.string (str x.name),.string (str x.super),vf,vd,vm] 28
     have hS3:=hid (hS2.only0 ((Only.refl [] w2).alloc (.cells #[.int .i64 x.flags,.string (str x.name),.string (str x.super),vf,vd,vm] 28)))
     have hOw:=hid hown2
     have hone : ∀ u∈clC vf vd vm x,u.oneCell' = true:=hAt.one
     replace hAt:=hid hAt
     go_wp2_with (at_builtin; refine wpList_append_any (ys:=clC vf vd vm x) rfl (.tmp 33) (.tmp 36) elCl Tryz.underlying30 rfl rfl rfl hown2 hR rfl hone (by simp) (by omega) (by have:=o2.out.size; omega) ?_; rintro ao3 cap3 w3 hA3)
     have hE3:=hid (els_growC (o:=.cells #[.int .i64 x.flags,.string (str x.name),.string (str x.super),vf,vd,vm] 28) hE.out hAt.out hown.out hO1.out.size ho2 (by omega) hA3)
     have hfin : Hid (Sc w3 sb r d t2):=by
      cases xs with
      | nil=>
       have hno:=hnil.out rfl
       exact hS3.out.row hOw.out hA3 (by omega) (u:=.string ⟨#[]⟩) (by simp) (fun h=>absurd hno h)
      | cons y ys=>
       obtain ⟨u,hu,hm⟩:=hE.out.secondC
       exact hS3.out.row hOw.out hA3 (by omega) hu (fun _=>.inr (.inl hm))
     have o3:=hid (o2.out.next hA3.only (fun z hz=>by
      cases ao with
      | none=>simp [Value.ownBlock] at hz
      | some a=>
       simp [Value.ownBlock] at hz
       subst hz
       exact (hOw.out.lt a.block rfl).1))
     have hown3:=hid hA3.own
     clear hA3 hAt hown2
     go_wp2_with fail
     refine ⟨⟨xs ++ [x],t2,ao3,cap3,_,by simp,by simp; omega,by simpa [Hid] using hown3,hE3,hid (by simp),hid (by
      intro y hy
      rcases List.mem_append.1 hy with hy | hy
      ·exact hlen.out y hy
      ·rw [List.mem_singleton.1 hy]; exact hxl),hfin,hid (.inr ⟨hFar.out.1,far_step hFar.out.2 hfi hOx hlt⟩),o3⟩,by simp [sliceLen]; omega⟩
    | false=>
     rw [hfi] at HFi
     go_wp2_with fail
     refine HFi.out.mono ?_
     rintro e w2 ⟨rfl,rfl⟩
     go_wp2_with fail
     go_ret
     refine ⟨xs,t1,ao,cap,rfl,mcs,hown.out,hE.out,hlen.out,by omega,hS.out,out_rows hO.out hat.out ?_,hO1.out⟩
     rcases hF.out with ⟨h1,h2,_⟩ | ⟨h1,h2⟩
     ·exact .inl ⟨h1,h2⟩
     ·exact .inr ⟨h1,h2,fun hf=>by rw [hfi] at hf; cases hf⟩
   ·have g1 : ¬ ((xs.length : Int) < (n : Int)):=by omega
    go_wp2_with fail
    go_ret
    refine ⟨xs,t1,ao,cap,rfl,mcs,hown.out,hE.out,hlen.out,by omega,hS.out,out_rows hO.out hat.out ?_,hO1.out⟩
    rcases hF.out with ⟨h1,h2,_⟩ | ⟨h1,h2⟩
    ·exact .inl ⟨h1,h2⟩
    ·exact .inr ⟨h1,h2,fun _=>by omega⟩
 ·have gm : ¬ (most : Int) < (n : Int):=by omega
  have hSt:=hid h0
  have oSt:=o1
  clear ho1 h0
  go_wp2_with fail
  go_loopw [11] (fun l wr=>∃ (xs : List Cl) (t1 : St) (ao : Option Addr) (cap : Nat) (mcs : List Value),l = .slice ao xs.length cap∧xs.length≤n∧Hid (wr.ownsRow w.heap.size 28 6 (.slice ao xs.length cap) xs.length mcs)∧Hid (Els 6 (ClC (OwR wr w.heap.size (OffB ao))) mcs xs)∧Hid (xs = []→ao = none)∧Hid (AllFit ClFit xs)∧Hid (Sc wr sb r d t1)∧Hid ((most < n∧t1 = tRefuse (at_ : Int) 4 t0∧xs = [])∨(¬ most < n∧Far pClass n t0 xs t1))∧Hid (Only [sb,r] w wr)) (fun l _=>n - sliceLen l)
  case atStart=>exact ⟨[],_,none,0,[],rfl,by simp,World.ownsRow_nil _ _ _ _,hid (Els.nil _ _),hid (fun _=>rfl),hid (fun _ h=>by cases h),hSt,hid (.inr ⟨hm,far_start _ _ _⟩),oSt⟩
  case round=>
   obtain ⟨xs,t1,ao,cap,mcs,rfl,hxn,hown,hE,hnil,hlen,hS,hF,hO1⟩:=hrel
   clear hSt oSt
   have HFi:=hid (fine_src hS.out)
   by_cases hlt : xs.length < n
   ·have g1 : ((xs.length : Int) < (n : Int)):=by omega
    cases hfi : isFine t1 with
    | true=>
     rw [hfi] at HFi
     have hFar : Hid (¬ most < n∧Far pClass n t0 xs t1):=by
      rcases hF.out with ⟨_,h2,_⟩ | h2
      ·rw [h2] at hfi
       cases t0 <;> cases hfi
      ·exact h2
     have HR:=hid (rclass_any hS.out)
     unfold clV at HR
     have c0:=hS.out.c0
     go_wp2_with fail
     refine HFi.out.mono ?_
     rintro e w2 ⟨rfl,rfl⟩
     go_wp2_with fail
     refine HR.out.mono ?_
     rintro e w2 ⟨x,t2,vf,vd,vm,rfl,hxl,hAt,hS2,hOx,ho2⟩
     clear HR c0
     have hl1:=hl.out
     have hown2:=rows_only hown.out (ho2.alloc (.cells #[.int .i64 x.flags,.string (str x.name),.string (str x.super),vf,vd,vm] 28)) (fun g hg=>by have:=(hown.out.lt g hg).1; simp; omega)
     have o2:=hid ((hO1.out.trans ho2 (by simp)).alloc (.cells #[.int .i64 x.flags,.string (str x.name),.string (str x.super),vf,vd,vm] 28))
     have hR:=RS.fresh w2 #[.int .i64 x.flags,.string (str x.name),.string (str x.super),vf,vd,vm] 28
     have hS3:=hid (hS2.only0 ((Only.refl [] w2).alloc (.cells #[.int .i64 x.flags,.string (str x.name),.string (str x.super),vf,vd,vm] 28)))
     have hOw:=hid hown2
     have hone : ∀ u∈clC vf vd vm x,u.oneCell' = true:=hAt.one
     replace hAt:=hid hAt
     go_wp2_with (at_builtin; refine wpList_append_any (ys:=clC vf vd vm x) rfl (.tmp 33) (.tmp 36) elCl Tryz.underlying30 rfl rfl rfl hown2 hR rfl hone (by simp) (by omega) (by have:=o2.out.size; omega) ?_; rintro ao3 cap3 w3 hA3)
     have hE3:=hid (els_growC (o:=.cells #[.int .i64 x.flags,.string (str x.name),.string (str x.super),vf,vd,vm] 28) hE.out hAt.out hown.out hO1.out.size ho2 (by omega) hA3)
     have hfin : Hid (Sc w3 sb r d t2):=by
      cases xs with
      | nil=>
       have hno:=hnil.out rfl
       exact hS3.out.row hOw.out hA3 (by omega) (u:=.string ⟨#[]⟩) (by simp) (fun h=>absurd hno h)
      | cons y ys=>
       obtain ⟨u,hu,hm⟩:=hE.out.secondC
       exact hS3.out.row hOw.out hA3 (by omega) hu (fun _=>.inr (.inl hm))
     have o3:=hid (o2.out.next hA3.only (fun z hz=>by
      cases ao with
      | none=>simp [Value.ownBlock] at hz
      | some a=>
       simp [Value.ownBlock] at hz
       subst hz
       exact (hOw.out.lt a.block rfl).1))
     have hown3:=hid hA3.own
     clear hA3 hAt hown2
     go_wp2_with fail
     refine ⟨⟨xs ++ [x],t2,ao3,cap3,_,by simp,by simp; omega,by simpa [Hid] using hown3,hE3,hid (by simp),hid (by
      intro y hy
      rcases List.mem_append.1 hy with hy | hy
      ·exact hlen.out y hy
      ·rw [List.mem_singleton.1 hy]; exact hxl),hfin,hid (.inr ⟨hFar.out.1,far_step hFar.out.2 hfi hOx hlt⟩),o3⟩,by simp [sliceLen]; omega⟩
    | false=>
     rw [hfi] at HFi
     go_wp2_with fail
     refine HFi.out.mono ?_
     rintro e w2 ⟨rfl,rfl⟩
     go_wp2_with fail
     go_ret
     refine ⟨xs,t1,ao,cap,rfl,mcs,hown.out,hE.out,hlen.out,by omega,hS.out,out_rows hO.out hat.out ?_,hO1.out⟩
     rcases hF.out with ⟨h1,h2,_⟩ | ⟨h1,h2⟩
     ·exact .inl ⟨h1,h2⟩
     ·exact .inr ⟨h1,h2,fun hf=>by rw [hfi] at hf; cases hf⟩
   ·have g1 : ¬ ((xs.length : Int) < (n : Int)):=by omega
    go_wp2_with fail
    go_ret
    refine ⟨xs,t1,ao,cap,rfl,mcs,hown.out,hE.out,hlen.out,by omega,hS.out,out_rows hO.out hat.out ?_,hO1.out⟩
    rcases hF.out with ⟨h1,h2,_⟩ | ⟨h1,h2⟩
    ·exact .inl ⟨h1,h2⟩
    ·exact .inr ⟨h1,h2,fun _=>by omega⟩


theorem out_magic1 {t t1 : St} {x : List UInt8} (h : Out (pTake 4) t x t1) (hx : x = magicL) : Out pMagic t () t1:=by
 unfold Out at h ⊢
 cases t with
 | inl f=>exact h
 | inr u=>
  simp only [pMagic,pBind] at h ⊢
  cases hp : pTake 4 u with
  | inl f=>simp only [hp] at h ⊢; exact h
  | inr z=>
   obtain ⟨y,u'⟩:=z
   simp only [hp] at h ⊢
   obtain ⟨rfl,rfl⟩:=h
   simp [hx,pDone]

theorem out_magic2 {t t1 : St} {x : List UInt8} (h : Out (pTake 4) t x t1) (hx : x≠magicL) : Out pMagic t () (tRefuse 0 13 t1):=by
 unfold Out at h ⊢
 cases t with
 | inl f=>
  simp only at h
  subst h
  rfl
 | inr u=>
  simp only [pMagic,pBind] at h ⊢
  cases hp : pTake 4 u with
  | inl f=>
   simp only [hp] at h ⊢
   subst h
   rfl
  | inr z=>
   obtain ⟨y,u'⟩:=z
   simp only [hp] at h ⊢
   obtain ⟨rfl,rfl⟩:=h
   simp [hx,pFail,tRefuse]

theorem out_end1 {t : St} {n : Nat} {m : Mo} (hn : ∀ u,t = .inr u→n = u.1.length) (h0 : n = 0) : Out (pEnd m) t m t:=by
 unfold Out
 cases t with
 | inl f=>rfl
 | inr u=>
  have:=hn u rfl
  have e : u.1 = []:=List.eq_nil_of_length_eq_zero (by omega)
  simp [pEnd,e]

theorem out_end2 {t : St} {n k : Nat} {m : Mo} (hn : ∀ u,t = .inr u→n = u.1.length) (hk : ∀ u,t = .inr u→k = u.2) (h0 : 0 < n) : Out (pEnd m) t m (tRefuse (k : Int) 12 t):=by
 unfold Out
 cases t with
 | inl f=>rfl
 | inr u=>
  have h1:=hn u rfl
  have h2:=hk u rfl
  have e : u.1≠[]:=fun e=>by rw [e] at h1; simp at h1; omega
  simp [pEnd,e,tRefuse,h2]

/-- A new block of a module, with nothing in it yet. -/
def On (w : World) (b B sb r d : Nat) : Prop:=Mo2 w b (.slice none 0 0) (.slice none 0 0)∧B≤b∧b≠sb∧b≠r∧b≠d

theorem On.call {z z' : World} {b B sb r d : Nat} {X : List Nat} (h : On z b B sb r d) (hX : Only X z z') (hx : ∀ x∈X,x = sb∨x = r) : On z' b B sb r d:=
 ⟨h.1.only hX (fun hm=>(hx b hm).elim h.2.2.1 h.2.2.2.1),h.2⟩

theorem On.newC {W z z' : World} {sb r d : Nat} {t : St} {X : List Nat} (h : Sc z sb r d t) (hS : Only [sb,r] W z) (hX : Only X (z.alloc (.cells #[.slice none 0 0,.slice none 0 0] 32)) z') (hx : ∀ x∈X,x = sb∨x = r) : On z' z.heap.size W.heap.size sb r d∧z.heap.size < (z.alloc (.cells #[.slice none 0 0,.slice none 0 0] 32)).heap.size:=by
 have:=h.lt
 exact ⟨On.call ⟨mo2_new _ _ _ _,hS.size,by omega,by omega,by omega⟩ hX hx,by simp⟩

theorem On.newD {W z' : World} {sb r d : Nat} {t : St} {X : List Nat} (h : Sc W sb r d t) (hX : Only X (W.alloc (.cells #[.slice none 0 0,.slice none 0 0] 32)).drew z') (hx : ∀ x∈X,x = sb∨x = r) : On z' W.heap.size W.heap.size sb r d∧W.heap.size < (W.alloc (.cells #[.slice none 0 0,.slice none 0 0] 32)).drew.heap.size:=by
 have:=h.lt
 have h0 : On (W.alloc (.cells #[.slice none 0 0,.slice none 0 0] 32)) W.heap.size W.heap.size sb r d:=⟨mo2_new _ _ _ _,Nat.le_refl _,by omega,by omega,by omega⟩
 exact ⟨On.call (On.call (X:=[]) h0 ((Only.refl [] _).drew) (by simp)) hX hx,by simp⟩

theorem On.callC {z z' : World} {b B sb r d : Nat} {X : List Nat} (h : On z b B sb r d) (hX : Only X z z') (hx : ∀ x∈X,x = sb∨x = r) : On z' b B sb r d∧b < z.heap.size:=⟨h.call hX hx,World.block_lt_of_cell? z _ h.1.c0⟩

def EnFit (x : En) : Prop:=x.2.1.length≤262144∧-9223372036854775808≤x.2.2.1∧x.2.2.1≤9223372036854775807

theorem rows_en4096 {w : World} {sb r d : Nat} {t : St} (h : Sc w sb r d t) :
  Calls Tryz.prog 76 #[.pointer (some ⟨sb,0,none⟩),.func (.func 77) #[.pointer (some ⟨r,0,none⟩)] #[],.int .i64 4096,.func (.func 78) #[.pointer (some ⟨sb,0,none⟩)] #[]] w
   fun e w'=>∃ (xs : List En) (t' : St) (ao : Option Addr) (cap : Nat),e = .returned (.slice ao xs.length cap)∧OwR w' w.heap.size (fun g=>g < w'.heap.size) 90 6 (.slice ao xs.length cap) xs.length (ecs xs)∧AllFit EnFit xs∧Sc w' sb r d t'∧Out (pRows 2 4096 pEntry) t xs t'∧Only [sb,r] w w':=
 (rows_en h 4096 (by decide)).mono fun e w' h=>by
  obtain ⟨xs,t',ao,cap,h1,h2,h3,_,h5,h6,h7⟩:=h
  exact ⟨xs,t',ao,cap,h1,⟨h2,fun g hg=>(h2.lt g hg).2⟩,h3,h5,h6,h7⟩

theorem rows_cl64 {w : World} {sb r d : Nat} {t : St} (h : Sc w sb r d t) :
  Calls Tryz.prog 79 #[.pointer (some ⟨sb,0,none⟩),.func (.func 80) #[.pointer (some ⟨r,0,none⟩)] #[],.int .i64 64,.func (.func 81) #[.pointer (some ⟨sb,0,none⟩)] #[]] w
   fun e w'=>∃ (xs : List Cl) (t' : St) (ao : Option Addr) (cap : Nat),e = .returned (.slice ao xs.length cap)∧∃ mcs : List Value,OwR w' w.heap.size (fun _=>True) 28 6 (.slice ao xs.length cap) xs.length mcs∧Els 6 (ClC (OwR w' w.heap.size (fun _=>True))) mcs xs∧AllFit ClFit xs∧Sc w' sb r d t'∧Out (pRows 1 64 pClass) t xs t'∧Only [sb,r] w w':=
 (rows_cl h 64 (by decide)).mono fun e w' h=>by
  obtain ⟨xs,t',ao,cap,h1,mcs,h2,h3,h4,_,h5,h6,h7⟩:=h
  exact ⟨xs,t',ao,cap,h1,mcs,⟨h2,fun _ _=>trivial⟩,h3.imp fun _ _ _ h=>h.imp fun _ _ _ _ _ g=>⟨g.1,fun _ _=>trivial⟩,h4,h5,h6,h7⟩

/-- What the two rows leave: the local variable's block. -/
def Ocut (W : World) (sb r d : Nat) (t : St) (s3 : Value) (wx : World) : Prop:=
 ∃ (lb : Nat) (m : Mo) (t1 t2 : St) (vp vc : Value),s3 = .pointer (some ⟨lb,0,none⟩)∧Mo2 wx lb vp vc∧MoAt (OwR wx W.heap.size (fun g=>g≠lb)) vp vc m∧AllFit EnFit m.pool∧AllFit ClFit m.classes∧Sc wx sb r d t2∧Only [sb,r] W wx∧W.heap.size≤lb∧lb≠sb∧lb≠r∧lb≠d∧Out (pRows 2 4096 pEntry) t m.pool t1∧Out (pRows 1 64 pClass) t1 m.classes t2

theorem Ocut.old {W za w1 zb w2 : World} {sb r d b cap ccap : Nat} {t t1 t2 : St} {xs : List En} {cs : List Cl} {mcs : List Value} {ao co : Option Addr} (hB : sb < W.heap.size∧r < W.heap.size)
  (h1 : OwR w1 za.heap.size (fun g=>g < w1.heap.size) 90 6 (.slice ao xs.length cap) xs.length (ecs xs)) (f1 : AllFit EnFit xs) (O1 : Out (pRows 2 4096 pEntry) t xs t1) (hz : W.heap.size≤za.heap.size) (o12 : Only [sb,r] w1 w2) (hbz : b < za.heap.size∨w1.heap.size≤b)
  (h2 : OwR w2 zb.heap.size (fun _=>True) 28 6 (.slice co cs.length ccap) cs.length mcs) (hE : Els 6 (ClC (OwR w2 zb.heap.size (fun _=>True))) mcs cs) (f2 : AllFit ClFit cs) (hs : Sc w2 sb r d t2) (O2 : Out (pRows 1 64 pClass) t1 cs t2) (hz2 : W.heap.size≤zb.heap.size) (ho : Only [sb,r] W w2) (hM : On w2 b W.heap.size sb r d) (hl : b < zb.heap.size) :
  Ocut W sb r d t (.pointer (some ⟨b,0,none⟩)) ((w2.setCell ⟨b,0,none⟩ (.slice ao xs.length cap)).setCell ⟨b,1,none⟩ (.slice co cs.length ccap)):=by
 obtain ⟨hm,hb,n1,n2,n3⟩:=hM
 obtain ⟨p,q⟩:=hm.put (.slice ao xs.length cap) (.slice co cs.length ccap)
 have hne : ∀ e k v n us,OwR w2 zb.heap.size (fun _=>True) e k v n us→OwR ((w2.setCell ⟨b,0,none⟩ (.slice ao xs.length cap)).setCell ⟨b,1,none⟩ (.slice co cs.length ccap)) W.heap.size (fun g=>g≠b) e k v n us:=by
  intro e k v n us h
  refine ⟨rows_mono (rows_only h.1 q (fun g hg=>?_)) hz2,fun g hg=>?_⟩
  ·have:=(h.1.lt g hg).1
   simp
   omega
  ·have:=(h.1.lt g hg).1
   omega
 have hp : OwR ((w2.setCell ⟨b,0,none⟩ (.slice ao xs.length cap)).setCell ⟨b,1,none⟩ (.slice co cs.length ccap)) W.heap.size (fun g=>g≠b) 90 6 (.slice ao xs.length cap) xs.length (ecs xs):=by
  refine ⟨rows_mono (rows_only (rows_only h1.1 o12 (fun g hg=>?_)) q (fun g hg=>?_)) hz,fun g hg=>?_⟩
  ·have:=(h1.1.lt g hg).1
   simp
   omega
  ·have:=h1.1.lt g hg
   simp
   omega
  ·have:=h1.1.lt g hg
   omega
 exact ⟨b,⟨xs,cs⟩,t1,t2,_,_,rfl,p,⟨hp,mcs,hne _ _ _ _ _ h2,hE.imp fun _ _ _ h=>h.imp hne⟩,f1,f2,hs.other (by simp) (.inl hm.c0) ⟨n1,n2,n3⟩ q,ho.next q (by simp; omega),hb,n1,n2,n3,O1,O2⟩

theorem Ocut.fresh {W za w1 zb w2 : World} {sb r d cap ccap : Nat} {t t1 t2 : St} {xs : List En} {cs : List Cl} {mcs : List Value} {ao co : Option Addr} (hB : sb < W.heap.size∧r < W.heap.size)
  (h1 : OwR w1 za.heap.size (fun g=>g < w1.heap.size) 90 6 (.slice ao xs.length cap) xs.length (ecs xs)) (f1 : AllFit EnFit xs) (O1 : Out (pRows 2 4096 pEntry) t xs t1) (hz : W.heap.size≤za.heap.size) (o12 : Only [sb,r] w1 w2)
  (h2 : OwR w2 zb.heap.size (fun _=>True) 28 6 (.slice co cs.length ccap) cs.length mcs) (hE : Els 6 (ClC (OwR w2 zb.heap.size (fun _=>True))) mcs cs) (f2 : AllFit ClFit cs) (hs : Sc w2 sb r d t2) (O2 : Out (pRows 1 64 pClass) t1 cs t2) (hz2 : W.heap.size≤zb.heap.size) (ho : Only [sb,r] W w2) :
  Ocut W sb r d t (.pointer (some ⟨w2.heap.size,0,none⟩)) (w2.alloc (.cells #[.slice ao xs.length cap,.slice co cs.length ccap] 32)):=by
 have q:=(Only.refl [] w2).alloc (.cells #[.slice ao xs.length cap,.slice co cs.length ccap] 32)
 have hl:=hs.lt
 have hne : ∀ e k v n us,OwR w2 zb.heap.size (fun _=>True) e k v n us→OwR (w2.alloc (.cells #[.slice ao xs.length cap,.slice co cs.length ccap] 32)) W.heap.size (fun g=>g≠w2.heap.size) e k v n us:=by
  intro e k v n us h
  refine ⟨rows_mono (rows_only h.1 q (by simp)) hz2,fun g hg=>?_⟩
  have:=(h.1.lt g hg).2
  omega
 have hp : OwR (w2.alloc (.cells #[.slice ao xs.length cap,.slice co cs.length ccap] 32)) W.heap.size (fun g=>g≠w2.heap.size) 90 6 (.slice ao xs.length cap) xs.length (ecs xs):=by
  refine ⟨rows_mono (rows_only (rows_only h1.1 o12 (fun g hg=>?_)) q (by simp)) hz,fun g hg=>?_⟩
  ·have:=(h1.1.lt g hg).1
   simp
   omega
  ·have:=h1.1.lt g hg
   have:=o12.size
   omega
 exact ⟨w2.heap.size,⟨xs,cs⟩,t1,t2,_,_,rfl,mo2_new _ _ _ _,⟨hp,mcs,hne _ _ _ _ _ h2,hE.imp fun _ _ _ h=>h.imp hne⟩,f1,f2,hs.only0 q,ho.alloc _,ho.size,by omega,by omega,by omega,O1,O2⟩

theorem MoAt.own {w w' : World} {B : Nat} {S : List Nat} {vp vc : Value} {m : Mo} (h : MoAt (OwR w B fun _=>True) vp vc m) (ho : Only S w w') (hS : ∀ k∈S,k < B) : MoAt (OwR w' B fun _=>True) vp vc m:=
 h.imp fun _ _ _ _ _ g=>⟨rows_only g.1 ho (fun k hk hm=>by
  have:=(g.1.lt k hk).1
  have:=hS k hm
  omega),fun _ _=>trivial⟩

theorem mo_fit {m : Mo} (h1 : AllFit EnFit m.pool) (h2 : AllFit ClFit m.classes) : MoFit m:=⟨fun e he=>Nat.le_trans (h1 e he).1 (by decide),h2⟩


set_option maxHeartbeats 8000000 in
theorem rmodule_any {w : World} {sb r d : Nat} {t : St} (h : Sc w sb r d t) :
  Calls Tryz.prog 32 #[.pointer (some ⟨sb,0,none⟩)] w fun e w'=>∃ (m : Mo) (t' : St) (vp vc : Value),e = .returned (.agg #[vp,vc])∧AllFit EnFit m.pool∧MoFit m∧MoAt (OwR w' (w.heap.size + 1) fun _=>True) vp vc m∧Sc w' sb r d t'∧Out pModule t m t'∧Only [sb,r] w w':=by
 have o0:=hid ((Only.refl [sb,r] w).alloc (.cells #[.slice none 0 0,.slice none 0 0] 32))
 have h0:=h.al (.cells #[.slice none 0 0,.slice none 0 0] 32)
 have hl:=h.lt
 clear h
 have R0:=hid (mo2_new w (.slice none 0 0) (.slice none 0 0) 32)
 obtain ⟨W,hW⟩ : ∃ W,W = (w.alloc (.cells #[.slice none 0 0,.slice none 0 0] 32)):=⟨_,rfl⟩
 have hWs : W.heap.size = w.heap.size + 1:=by rw [hW]; simp
 rw [← hW] at R0 h0 o0
 replace hW:=hid hW
 replace hWs:=hid hWs
 have c0:=h0.c0
 have HB:=hid (sc_bytes h0 4)
 go_enter Tryz.func32,Tryz.ntmps32
 go_upto_region 1 with fail
 rw [← hW.out]
 go_wp2_with fail
 refine HB.out.mono ?_
 rintro e w1 ⟨x,t1,ao,cap,rfl,hx,hown,hs1,hO1,ho1⟩
 have kc:=(RS.of_owns hown).1.conv cap
 clear hown HB
 replace hO1:=hid hO1
 have HR:=hid (refuse_src hs1 0 13 (by decide))
 have c1:=hs1.c0
 replace hs1:=hid hs1
 have oW:=hid (ho1.mono (S':=[sb,r]) (by simp))
 clear ho1
 go_upto_if 10 with fail
 have hc : ((str x).toList == [75,69,89,49]) = decide (x = magicL):=by
  rw [str_toList]
  by_cases e : x = magicL
  ·rw [e]
   rfl
  ·rw [decide_eq_false e]
   exact beq_eq_false_iff_ne.2 e
 rw [hc]
 generalize hb : decide (x = magicL) = b
 replace hb:=hid hb
 clear hc kc
 go_cut [] (fun wx=>∃ t2,Sc wx sb r d t2∧Out pMagic t () t2∧Only [sb,r] W wx)
 case first=>
  cases b with
  | true=>
   go_wp2_with fail
   go_meet
   exact ⟨t1,hs1.out,out_magic1 hO1.out (of_decide_eq_true hb.out),oW.out⟩
  | false=>
   go_wp2_with fail
   refine HR.out.mono ?_
   rintro e w2 ⟨rfl,hs2,ho2⟩
   go_wp2_with fail
   go_meet
   exact ⟨_,hs2,out_magic2 hO1.out (of_decide_eq_false hb.out),oW.out.trans ho2 (by simp)⟩
 case rest=>
  obtain ⟨t2,hS2,hO2,oc⟩:=hcut
  clear HR hs1 oW hb c1 hO1
  have hB : Hid (sb < wc.heap.size∧r < wc.heap.size):=⟨hS2.lt.1,hS2.lt.2.1⟩
  have hk : Hid (wc.cell? ⟨sb,0,none⟩ = some (.pointer (some ⟨r,0,none⟩))∧Only [sb,r] wc wc):=⟨hS2.c0,Only.refl _ _⟩
  have hS0:=hid hS2
  have hR:=hid (R0.out.only oc (by simp; omega))
  have oW:=hid (o0.out.trans oc (by simp))
  have hws:=hid oc.size
  replace hO2:=hid hO2
  clear hS2 oc R0 o0 h0 c0
  go_upto_region 3 with fail
  go_cut [3] (fun s3 wx=>Ocut wc sb r d t2 s3 wx)
  case first=>
   refine wp_region_held_drew (S:=(fun w'=>w'.cell? ⟨sb,0,none⟩ = some (.pointer (some ⟨r,0,none⟩))∧Only [sb,r] wc w')) (by kernel_rfl) ?hSb (fun hHeld=>?restb)
   case hSb=>exact kdrew0 hk.out
   refine wpAnyH_take (i:=0) (v:=?v0x1) rfl (by kernel_rfl) (by kernel_rfl) (by kernel_rfl) (fun _ _ _ h=>h) (Or.inl ⟨by kernel_rfl,?hy0x1⟩) (by assumption) ?rest0x1
   case hy0x1=>
    intro w hSw
    try dsimp only at hSw
    go_simp
    try with_reducible rfl
   refine wpAnyH_take (i:=1) (v:=?v1x2) rfl (by kernel_rfl) (by kernel_rfl) (by kernel_rfl) (fun _ _ _ h=>h) (Or.inl ⟨by kernel_rfl,?hy1x2⟩) (by assumption) ?rest1x2
   case hy1x2=>
    intro w hSw
    try dsimp only at hSw
    go_simp
    try with_reducible rfl
   refine wpAnyH_take (i:=2) (v:=?v2x3) rfl (by kernel_rfl) (by kernel_rfl) (by kernel_rfl) (fun _ _ _ h=>h) (Or.inl ⟨by kernel_rfl,?hy2x3⟩) (by assumption) ?rest2x3
   case hy2x3=>
    intro w hSw
    try dsimp only at hSw
    go_simp
    try with_reducible rfl
   refine wpAnyH_take (i:=3) (v:=?v3x4) rfl (by kernel_rfl) (by kernel_rfl) (by kernel_rfl) (fun _ _ _ h=>h) (Or.inl ⟨by kernel_rfl,?hy3x4⟩) (by assumption) ?rest3x4
   case hy3x4=>
    intro w hSw
    try dsimp only at hSw
    go_simp
    try with_reducible rfl
   refine wpAnyH_take (i:=4) (v:=?v4x5) rfl (by kernel_rfl) (by kernel_rfl) (by kernel_rfl) (fun _ _ _ h=>h) (Or.inl ⟨by kernel_rfl,?hy4x5⟩) (by assumption) ?rest4x5
   case hy4x5=>
    intro w hSw
    try dsimp only at hSw
    go_simp
    try with_reducible rfl
   refine wpAnyH_take (i:=5) (v:=?v5x6) rfl (by kernel_rfl) (by kernel_rfl) (by kernel_rfl) (fun _ _ _ h=>h) (Or.inl ⟨by kernel_rfl,?hy5x6⟩) (by assumption) ?rest5x6
   case hy5x6=>
    intro w hSw
    try dsimp only at hSw
    go_simp
    try with_reducible rfl
   refine wpAnyH_take (i:=6) (v:=?v6x7) rfl (by kernel_rfl) (by kernel_rfl) (by kernel_rfl) (fun _ _ _ h=>h) (Or.inl ⟨by kernel_rfl,?hy6x7⟩) (by assumption) ?rest6x7
   case hy6x7=>
    intro w hSw
    try dsimp only at hSw
    go_simp
    try with_reducible rfl
   refine wpAnyH_take (i:=7) (v:=?v7x8) rfl (by kernel_rfl) (by kernel_rfl) (by kernel_rfl) (fun _ _ _ h=>h) (Or.inl ⟨by kernel_rfl,?hy7x8⟩) (by assumption) ?rest7x8
   case hy7x8=>
    intro w hSw
    try dsimp only at hSw
    go_simp
    try with_reducible rfl
   refine wpAnyH_take (i:=9) (v:=?v9x9) rfl (by kernel_rfl) (by kernel_rfl) (by kernel_rfl) (fun _ _ _ h=>h) (Or.inl ⟨by kernel_rfl,?hy9x9⟩) (by assumption) ?rest9x9
   case hy9x9=>
    intro w hSw
    try dsimp only at hSw
    go_simp
    try with_reducible rfl
   refine wpAnyH_take (i:=10) (v:=?v10x10) rfl (by kernel_rfl) (by kernel_rfl) (by kernel_rfl) (fun _ _ _ h=>h) (Or.inl ⟨by kernel_rfl,?hy10x10⟩) (by assumption) ?rest10x10
   case hy10x10=>
    intro w hSw
    try dsimp only at hSw
    go_simp
    try with_reducible rfl
   refine wpAnyH_take (i:=11) (v:=?v11x11) rfl (by kernel_rfl) (by kernel_rfl) (by kernel_rfl) (fun _ _ _ h=>h) (Or.inl ⟨by kernel_rfl,?hy11x11⟩) (by assumption) ?rest11x11
   case hy11x11=>
    intro w hSw
    try dsimp only at hSw
    go_simp
    try with_reducible rfl
   refine wpAnyH_take (i:=12) (v:=?v12x12) rfl (by kernel_rfl) (by kernel_rfl) (by kernel_rfl) (fun _ _ _ h=>h) (Or.inl ⟨by kernel_rfl,?hy12x12⟩) (by assumption) ?rest12x12
   case hy12x12=>
    intro w hSw
    try dsimp only at hSw
    go_simp
    try with_reducible rfl
   refine wpAnyH_take (i:=13) (v:=?v13x13) rfl (by kernel_rfl) (by kernel_rfl) (by kernel_rfl) (fun _ _ _ h=>h) (Or.inl ⟨by kernel_rfl,?hy13x13⟩) (by assumption) ?rest13x13
   case hy13x13=>
    intro w hSw
    try dsimp only at hSw
    go_simp
    try with_reducible rfl
   refine wpAnyH_take (i:=14) (v:=?v14x14) rfl (by kernel_rfl) (by kernel_rfl) (by kernel_rfl) (fun _ _ _ h=>h) (Or.inl ⟨by kernel_rfl,?hy14x14⟩) (by assumption) ?rest14x14
   case hy14x14=>
    intro w hSw
    try dsimp only at hSw
    go_simp
    try with_reducible rfl
   refine wpAnyH_take (i:=15) (v:=?v15x15) rfl (by kernel_rfl) (by kernel_rfl) (by kernel_rfl) (fun _ _ _ h=>h) (Or.inl ⟨by kernel_rfl,?hy15x15⟩) (by assumption) ?rest15x15
   case hy15x15=>
    intro w hSw
    try dsimp only at hSw
    go_simp
    try with_reducible rfl
   refine wpAnyH_take (i:=16) (v:=?v16x16) rfl (by kernel_rfl) (by kernel_rfl) (by kernel_rfl) (fun _ _ _ h=>h) (Or.inl ⟨by kernel_rfl,?hy16x16⟩) (by assumption) ?rest16x16
   case hy16x16=>
    intro w hSw
    try dsimp only at hSw
    go_simp
    try with_reducible rfl
   refine wpAnyH_ready (rs:=[8,19]) (by kernel_rfl) (by simp) ?_
   refine AllReadyH.cons rfl (fun K hK=>?wayA) (AllReadyH.cons rfl (fun K hK=>?wayB) AllReadyH.nil)
   case wayA=>
    go_simp
    go_at_call 76
    refine (rows_en4096 (by first | exact Sc.drew hS0.out | exact Sc.al (Sc.drew hS0.out) _ | exact Sc.drew (Sc.al hS0.out _))).mono ?_
    rintro e w1 ⟨xs,t1,ao,cap,rfl,hown1,hf1,hs1,hO1,ho1⟩
    go_wp2_with fail
    refine hK.out _ _ ?hSA (fun hHeld=>?restA)
    case hSA=>
     first | exact kcall0 hHeld hs1 ho1 (by simp)
    clear hK K
    have hsz1 : wc.heap.size≤wc.drew.heap.size:=Nat.le_refl _
    have oW1:=hid hHeld.2
    refine wpAnyH_ready (rs:=[17,19]) (by kernel_rfl) (by simp) ?_
    refine AllReadyH.cons rfl (fun K hK=>?wayA1) (AllReadyH.cons rfl (fun K hK=>?wayA2) AllReadyH.nil)
    case wayA1=>
     go_simp
     go_at_call 79
     refine (rows_cl64 (by first | exact hs1 | exact Sc.al hs1 _)).mono ?_
     rintro e w2 ⟨cs,t2,co,ccap,rfl,mcs,hown2,hE2,hf2,hs2,hO2,ho2⟩
     go_wp2_with fail
     refine hK.out _ _ ?hSA1 (fun hHeld=>?restA1)
     case hSA1=>
      first | exact kcall0 hHeld hs2 ho2 (by simp)
     clear hK K
     have oW2:=hid hHeld.2
     refine wpAnyH_take (i:=18) (v:=?v18x17) rfl (by kernel_rfl) (by kernel_rfl) (by kernel_rfl) (fun _ _ _ h=>h) (Or.inl ⟨by kernel_rfl,?hy18x17⟩) (by assumption) ?rest18x17
     case hy18x17=>
      intro w hSw
      try dsimp only at hSw
      go_simp
      try with_reducible rfl
     refine wpAnyH_ready (rs:=[19]) (by kernel_rfl) (by simp) ?_
     refine AllReadyH.cons rfl (fun K hK=>?_) AllReadyH.nil
     go_simp
     refine hK.out _ _ ?hSA1b (fun hHeld=>?restA1b)
     case hSA1b=>
      first | exact kalloc0 _ hHeld | exact kdrew0 (kalloc0 _ hk.out)
     clear hK K
     refine wpAnyH_ready (rs:=[20]) (by kernel_rfl) (by simp) ?_
     refine AllReadyH.cons rfl (fun K hK=>?_) AllReadyH.nil
     go_simp
     refine hK.out _ _ ?hSA1c (fun hHeld=>?restA1c)
     case hSA1c=>
      first | exact kput0 oW2.out.size (by have:=hs2.lt; omega) _ _ (kput0 oW2.out.size (by have:=hs2.lt; omega) _ _ hHeld) | exact kalloc0 _ (by assumption)
     clear hK K
     refine wpAnyH_done (by kernel_rfl) ?_ _
     go_wp2_with fail
     go_meet
     exact Ocut.fresh hB.out hown1 hf1 hO1 (Nat.le_refl _) ho2 hown2 hE2 hf2 hs2 hO2 oW1.out.size oW2.out
    case wayA2=>
     go_simp
     refine hK.out _ _ ?hSA2 (fun hHeld=>?restA2)
     case hSA2=>
      first | exact kalloc0 _ hHeld | exact kdrew0 (kalloc0 _ hk.out)
     clear hK K
     refine wpAnyH_ready (rs:=[17]) (by kernel_rfl) (by simp) ?_
     refine AllReadyH.cons rfl (fun K hK=>?_) AllReadyH.nil
     go_simp
     go_at_call 79
     refine (rows_cl64 (by first | exact hs1 | exact Sc.al hs1 _)).mono ?_
     rintro e w2 ⟨cs,t2,co,ccap,rfl,mcs,hown2,hE2,hf2,hs2,hO2,ho2⟩
     go_wp2_with fail
     refine hK.out _ _ ?hSA2a (fun hHeld=>?restA2a)
     case hSA2a=>
      first | exact kcall0 hHeld hs2 ho2 (by simp)
     clear hK K
     have oW2:=hid hHeld.2
     have hM:=On.newC hs1 oW1.out ho2 (by simp)
     have hM1:=hid hM.1
     obtain ⟨⟨m0,m1,g0,g1⟩,mB,mn1,mn2,mn3⟩:=hM.1
     refine wpAnyH_take (i:=18) (v:=?v18x18) rfl (by kernel_rfl) (by kernel_rfl) (by kernel_rfl) (fun _ _ _ h=>h) (Or.inl ⟨by kernel_rfl,?hy18x18⟩) (by assumption) ?rest18x18
     case hy18x18=>
      intro w hSw
      try dsimp only at hSw
      go_simp
      try with_reducible rfl
     refine wpAnyH_ready (rs:=[20]) (by kernel_rfl) (by simp) ?_
     refine AllReadyH.cons rfl (fun K hK=>?_) AllReadyH.nil
     go_simp
     refine hK.out _ _ ?hSA2b (fun hHeld=>?restA2b)
     case hSA2b=>
      exact kput0 mB mn1 _ _ (kput0 mB mn1 _ _ hHeld)
     clear hK K
     refine wpAnyH_done (by kernel_rfl) ?_ _
     go_wp2_with fail
     go_meet
     exact Ocut.old hB.out hown1 hf1 hO1 (Nat.le_refl _) (((Only.refl [sb,r] w1).alloc _).trans ho2 (by simp)) (.inr (Nat.le_refl _)) hown2 hE2 hf2 hs2 hO2 (Nat.le_trans oW1.out.size (by simp)) oW2.out hM1.out hM.2
   case wayB=>
    go_simp
    refine hK.out _ _ ?hSB (fun hHeld=>?restB)
    case hSB=>
     first | exact kalloc0 _ hHeld | exact kdrew0 (kalloc0 _ hk.out)
    clear hK K
    refine wpAnyH_ready (rs:=[8]) (by kernel_rfl) (by simp) ?_
    refine AllReadyH.cons rfl (fun K hK=>?_) AllReadyH.nil
    go_simp
    go_at_call 76
    refine (rows_en4096 (by first | exact Sc.drew hS0.out | exact Sc.al (Sc.drew hS0.out) _ | exact Sc.drew (Sc.al hS0.out _))).mono ?_
    rintro e w1 ⟨xs,t1,ao,cap,rfl,hown1,hf1,hs1,hO1,ho1⟩
    go_wp2_with fail
    refine hK.out _ _ ?hSBa (fun hHeld=>?restBa)
    case hSBa=>
     first | exact kcall0 hHeld hs1 ho1 (by simp)
    clear hK K
    have oW1:=hid hHeld.2
    have hM0:=On.newD hS0.out ho1 (by simp)
    refine wpAnyH_ready (rs:=[17]) (by kernel_rfl) (by simp) ?_
    refine AllReadyH.cons rfl (fun K hK=>?_) AllReadyH.nil
    go_simp
    go_at_call 79
    refine (rows_cl64 (by first | exact hs1 | exact Sc.al hs1 _)).mono ?_
    rintro e w2 ⟨cs,t2,co,ccap,rfl,mcs,hown2,hE2,hf2,hs2,hO2,ho2⟩
    go_wp2_with fail
    refine hK.out _ _ ?hSBb (fun hHeld=>?restBb)
    case hSBb=>
     first | exact kcall0 hHeld hs2 ho2 (by simp)
    clear hK K
    have oW2:=hid hHeld.2
    have hM:=On.callC hM0.1 ho2 (by simp)
    have hM1:=hid hM.1
    obtain ⟨⟨m0,m1,g0,g1⟩,mB,mn1,mn2,mn3⟩:=hM.1
    refine wpAnyH_take (i:=18) (v:=?v18x19) rfl (by kernel_rfl) (by kernel_rfl) (by kernel_rfl) (fun _ _ _ h=>h) (Or.inl ⟨by kernel_rfl,?hy18x19⟩) (by assumption) ?rest18x19
    case hy18x19=>
     intro w hSw
     try dsimp only at hSw
     go_simp
     try with_reducible rfl
    refine wpAnyH_ready (rs:=[20]) (by kernel_rfl) (by simp) ?_
    refine AllReadyH.cons rfl (fun K hK=>?_) AllReadyH.nil
    go_simp
    refine hK.out _ _ ?hSBc (fun hHeld=>?restBc)
    case hSBc=>
     exact kput0 mB mn1 _ _ (kput0 mB mn1 _ _ hHeld)
    clear hK K
    refine wpAnyH_done (by kernel_rfl) ?_ _
    go_wp2_with fail
    go_meet
    exact Ocut.old hB.out hown1 hf1 hO1 (by simp) ho2 (.inl hM0.2) hown2 hE2 hf2 hs2 hO2 oW1.out.size oW2.out hM1.out hM.2
  case rest=>
   obtain ⟨lb,m,t3,t4,vp,vc,rfl,hL,hA,hf1,hf2,hS,ocx,hlb,n1,n2,n3,hO3,hO4⟩:=hcut
   obtain ⟨po,pc,rfl⟩:=rows_slice hA.pool.1
   obtain ⟨ccs0,⟨hc1,_⟩,_⟩:=hA.classes
   obtain ⟨co,cc,rfl⟩:=rows_slice hc1
   clear hc1
   have hlt:=hS.lt
   have hws1:=hWs.out
   have hws2:=hws.out
   have hR1:=hid (hR.out.only ocx (by simp; omega))
   have oW1:=hid (oW.out.trans ocx (by simp))
   have hA1 : Hid (MoAt (OwR wc (w.heap.size + 1) (fun g=>g≠lb)) (.slice po m.pool.length pc) (.slice co m.classes.length cc) m):=hA.imp (owr_mono (by omega) (fun _ h _ _=>h))
   have HL:=hid (sc_left hS)
   have c0:=hS.c0
   clear hR oW hA ocx hk hB hS0
   replace hO3:=hid hO3
   replace hO4:=hid hO4
   replace hS:=hid hS
   replace hL:=hid hL
   go_wp2_with fail
   refine HL.out.mono ?_
   rintro e w3 ⟨n,rfl,hn,hnu,rfl⟩
   clear HL
   replace hnu:=hid hnu
   go_upto_if 37 with fail
   obtain ⟨w0,rfl⟩ : ∃ w0,w0 = wc:=⟨_,rfl⟩
   go_cut [] (fun wx=>∃ t5,Sc wx sb r d t5∧Out (pEnd m) t4 m t5∧Only [sb] w0 wx)
   case first=>
    by_cases h0 : 0 < n
    ·have g0 : (0 : Int) < (n : Int):=by omega
     have HA:=hid (sc_at hS.out)
     go_wp2_with fail
     refine HA.out.mono ?_
     rintro e w4 ⟨k,rfl,hk,rfl⟩
     have HR:=hid (refuse_src hS.out (k : Int) 12 (by decide))
     replace hk:=hid hk
     clear HA
     go_wp2_with fail
     refine HR.out.mono ?_
     rintro e w5 ⟨rfl,hs5,ho5⟩
     go_wp2_with fail
     go_meet
     exact ⟨_,hs5,out_end2 hnu.out hk.out h0,ho5⟩
    ·have g0 : ¬ (0 : Int) < (n : Int):=by omega
     go_wp2_with fail
     go_meet
     exact ⟨t4,hS.out,out_end1 hnu.out (by omega),Only.refl _ _⟩
   case rest=>
    obtain ⟨t5,hS5,hO5,o5⟩:=hcut
    have hL5:=hid (hL.out.only o5 (by simp; omega))
    have hR5:=hid (hR1.out.only o5 (by simp; omega))
    have oW5:=hid (oW1.out.trans o5 (by simp))
    have hA5 : Hid (MoAt (OwR wc (w.heap.size + 1) fun _=>True) (.slice po m.pool.length pc) (.slice co m.classes.length cc) m):=
     MoAt.own (hA1.out.imp fun _ _ _ _ _ g=>⟨g.1,fun _ _=>trivial⟩) o5 (by simp; omega)
    have hout : Hid (Out pModule t m t5):=out_bind hO2.out (out_bind hO3.out (out_bind hO4.out hO5))
    replace hS5:=hid hS5
    clear hL hR1 oW1 hA1 hO2 hO3 hO4 hO5 hS c0 hnu o5
    obtain ⟨l0,l1,_,_⟩:=hL5.out
    obtain ⟨e0,e1,z0,z1⟩:=hR5.out
    go_wp2_with fail
    refine bodyPost_ret (v:=.agg #[.slice po m.pool.length pc,.slice co m.classes.length cc]) (by simp [results,Tryz.results32,go_sem,e0,e1]) rfl ?_
    obtain ⟨pp,qq⟩:=hR5.out.put (.slice po m.pool.length pc) (.slice co m.classes.length cc)
    exact ⟨m,_,_,_,rfl,hf1,mo_fit hf1 hf2,hA5.out.own qq (by simp),hS5.out.other (by simp) (.inl hR5.out.c0) (by omega) qq,hout.out,oW5.out.next qq (by simp)⟩

end Go.Proofs.YtildemmkhndhjaaGreatDoor
