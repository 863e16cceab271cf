/-
  What the proof leans on, part 32 of 48. The conditions stand in each theorem.
-/
import Derived.Test.YtildemmkhndhjaaGreatDoorB17
import Derived.Test.YtildemmkhndhjaaGreatDoorB22
import Derived.Test.YtildemmkhndhjaaGreatDoorB14
import Derived.Test.YtildemmkhndhjaaGreatDoorB23
import Derived.OneCell
import Derived.Test.YtildemmkhndhjaaGreatDoorB28
import Derived.Test.YtildemmkhndhjaaGreatDoorB13
namespace Go.Proofs.YtildemmkhndhjaaGreatDoor
open Go.RowKit

set_option maxHeartbeats 4000000 in
theorem rows_str {w : World} {sb r d : Nat} {t : St} (h : Sc w sb r d t) (most : Nat) (hmost : most≤100000) :
  Calls Tryz.prog 140 #[.pointer (some ⟨sb,0,none⟩),.func (.func 80) #[.pointer (some ⟨r,0,none⟩)] #[],.int .i64 (most : Int),.func (.func 138) #[.pointer (some ⟨r,0,none⟩)] #[]] w
   fun e w'=>∃ (xs : List (List UInt8)) (t' : St) (ao : Option Addr) (cap : Nat),e = .returned (.slice ao xs.length cap)∧w'.ownsRow w.heap.size 9 1 (.slice ao xs.length cap) xs.length (scs xs)∧(∀ x∈xs,x.length≤262144)∧xs.length≤65536∧Sc w' sb r d t'∧Out (pRows 1 most pText) t xs t'∧Only [sb,r] w w':=by
 have c0:=h.c0
 have hl:=hid h.lt
 have HA:=hid (sc_at h)
 have HU:=hid (sc_u1 h)
 clear h
 go_enter Tryz.func140,Tryz.ntmps140
 go_wp2_with fail
 refine HA.out.mono ?_
 rintro e w1 ⟨at_,rfl,hat,rfl⟩
 go_wp2_with fail
 refine HU.out.mono ?_
 rintro e w1 ⟨n,t0,rfl,hn,h0,hO,ho1⟩
 clear HA HU c0
 have o1 : Hid (Only [sb,r] w w1):=ho1.mono (by simp)
 replace hat:=hid hat
 replace hO:=hid hO
 by_cases hm : most < n
 ·have gm : (most : Int) < (n : Int):=by omega
  have HR:=hid (refuse_src h0 (at_ : Int) 4 (by decide))
  go_wp2_with fail
  refine HR.out.mono ?_
  rintro e w2 ⟨rfl,hS2,ho2⟩
  clear HR
  have hSt:=hid hS2
  have oSt:=hid (o1.out.trans ho2 (by simp))
  clear hS2 ho2 ho1 h0
  go_wp2_with fail
  go_loopw [11] (fun l wr=>∃ (xs : List (List UInt8)) (t1 : St) (ao : Option Addr) (cap : Nat),l = .slice ao xs.length cap∧xs.length≤n∧Hid (wr.ownsRow w.heap.size 9 1 (.slice ao xs.length cap) xs.length (scs xs))∧Hid (xs = []→ao = none)∧Hid (∀ x∈xs,x.length≤262144)∧Hid (Sc wr sb r d t1)∧Hid ((most < n∧t1 = tRefuse (at_ : Int) 4 t0∧xs = [])∨(¬ most < n∧Far pText n t0 xs t1))∧Hid (Only [sb,r] w wr)) (fun l _=>n - sliceLen l)
  case atStart=>exact ⟨[],_,none,0,rfl,by simp,World.ownsRow_nil _ _ _ _,hid (fun _=>rfl),hid (by simp),hSt,hid (.inl ⟨hm,rfl,rfl⟩),oSt⟩
  case round=>
   obtain ⟨xs,t1,ao,cap,rfl,hxn,hown,hnil,hlen,hS,hF,hO1⟩:=hrel
   clear hSt oSt
   have HFi:=hid (fine_src hS.out)
   by_cases hlt : xs.length < n
   ·have g1 : ((xs.length : Int) < (n : Int)):=by omega
    cases hfi : isFine t1 with
    | true=>
     rw [hfi] at HFi
     have hFar : Hid (¬ most < n∧Far pText n t0 xs t1):=by
      rcases hF.out with ⟨_,h2,_⟩ | h2
      ·rw [h2] at hfi
       cases t0 <;> cases hfi
      ·exact h2
     have HR:=hid (sc_textO hS.out)
     have c0:=hS.out.c0
     go_wp2_with fail
     refine HFi.out.mono ?_
     rintro e w2 ⟨rfl,rfl⟩
     go_wp2_with fail
     refine HR.out.mono ?_
     rintro e w2 ⟨x,t2,rfl,hxl,hS2,hOx,ho2⟩
     clear HR c0
     have hl1:=hl.out
     have hown2:=rows_only hown.out (ho2.alloc (.cells #[.string (str x)] 9)) (fun g hg=>by have:=(hown.out.lt g hg).1; simp; omega)
     have o2:=hid ((hO1.out.trans ho2 (by simp)).alloc (.cells #[.string (str x)] 9))
     have hR:=RS.fresh w2 #[.string (str x)] 9
     have hS3:=hid (hS2.only0 ((Only.refl [] w2).alloc (.cells #[.string (str x)] 9)))
     have hOw:=hid hown2
     go_wp2_with (at_builtin; refine wpList_append_any (ys:=scs [x]) rfl (.tmp 33) (.tmp 36) elStr Tryz.underlying24 rfl rfl rfl hown2 hR rfl (by simp [scs,scC,Value.oneCell']) (by simp) (by omega) (by have:=o2.out.size; omega) ?_; rintro ao3 cap3 w3 hA3)
     have hfin : Hid (Sc w3 sb r d t2):=by
      cases xs with
      | nil=>
       have hno:=hnil.out rfl
       subst hno
       exact hS3.out.only0 hA3.only
      | cons y ys=>exact hS3.out.row hOw.out hA3 (by omega) (u:=.string (str y)) (by simp) (fun _=>.inl rfl)
     have o3:=hid (o2.out.next hA3.only (fun z hz=>by
      cases ao with
      | none=>simp [Value.ownBlock] at hz
      | some a=>
       simp [Value.ownBlock] at hz
       subst hz
       exact (hOw.out.lt a.block rfl).1))
     have hown3:=hA3.own
     have ee : scs xs ++ scs [x] = scs (xs ++ [x]):=by simp [scs]
     rw [ee] at hown3
     have hnone:=hA3.none
     go_wp2_with fail
     refine ⟨⟨xs ++ [x],t2,ao3,cap3,by simp,by simp; omega,by simpa [Hid] using hown3,hid (by simp),hid (by
      intro y hy
      rcases List.mem_append.1 hy with hy | hy
      ·exact hlen.out y hy
      ·rw [List.mem_singleton.1 hy]; exact hxl),hfin,hid (.inr ⟨hFar.out.1,far_step hFar.out.2 hfi hOx hlt⟩),o3⟩,by simp [sliceLen]; omega⟩
    | false=>
     rw [hfi] at HFi
     go_wp2_with fail
     refine HFi.out.mono ?_
     rintro e w2 ⟨rfl,rfl⟩
     go_wp2_with fail
     go_ret
     refine ⟨xs,t1,ao,cap,rfl,hown.out,(by first | exact hlen.out | (intros; exact hlen.out _ (by assumption))),by omega,hS.out,out_rows hO.out hat.out ?_,hO1.out⟩
     rcases hF.out with ⟨h1,h2,_⟩ | ⟨h1,h2⟩
     ·exact .inl ⟨h1,h2⟩
     ·exact .inr ⟨h1,h2,fun hf=>by rw [hfi] at hf; cases hf⟩
   ·have g1 : ¬ ((xs.length : Int) < (n : Int)):=by omega
    go_wp2_with fail
    go_ret
    refine ⟨xs,t1,ao,cap,rfl,hown.out,(by first | exact hlen.out | (intros; exact hlen.out _ (by assumption))),by omega,hS.out,out_rows hO.out hat.out ?_,hO1.out⟩
    rcases hF.out with ⟨h1,h2,_⟩ | ⟨h1,h2⟩
    ·exact .inl ⟨h1,h2⟩
    ·exact .inr ⟨h1,h2,fun _=>by omega⟩
 ·have gm : ¬ (most : Int) < (n : Int):=by omega
  have hSt:=hid h0
  have oSt:=o1
  clear ho1 h0
  go_wp2_with fail
  go_loopw [11] (fun l wr=>∃ (xs : List (List UInt8)) (t1 : St) (ao : Option Addr) (cap : Nat),l = .slice ao xs.length cap∧xs.length≤n∧Hid (wr.ownsRow w.heap.size 9 1 (.slice ao xs.length cap) xs.length (scs xs))∧Hid (xs = []→ao = none)∧Hid (∀ x∈xs,x.length≤262144)∧Hid (Sc wr sb r d t1)∧Hid ((most < n∧t1 = tRefuse (at_ : Int) 4 t0∧xs = [])∨(¬ most < n∧Far pText n t0 xs t1))∧Hid (Only [sb,r] w wr)) (fun l _=>n - sliceLen l)
  case atStart=>exact ⟨[],_,none,0,rfl,by simp,World.ownsRow_nil _ _ _ _,hid (fun _=>rfl),hid (by simp),hSt,hid (.inr ⟨hm,far_start _ _ _⟩),oSt⟩
  case round=>
   obtain ⟨xs,t1,ao,cap,rfl,hxn,hown,hnil,hlen,hS,hF,hO1⟩:=hrel
   clear hSt oSt
   have HFi:=hid (fine_src hS.out)
   by_cases hlt : xs.length < n
   ·have g1 : ((xs.length : Int) < (n : Int)):=by omega
    cases hfi : isFine t1 with
    | true=>
     rw [hfi] at HFi
     have hFar : Hid (¬ most < n∧Far pText n t0 xs t1):=by
      rcases hF.out with ⟨_,h2,_⟩ | h2
      ·rw [h2] at hfi
       cases t0 <;> cases hfi
      ·exact h2
     have HR:=hid (sc_textO hS.out)
     have c0:=hS.out.c0
     go_wp2_with fail
     refine HFi.out.mono ?_
     rintro e w2 ⟨rfl,rfl⟩
     go_wp2_with fail
     refine HR.out.mono ?_
     rintro e w2 ⟨x,t2,rfl,hxl,hS2,hOx,ho2⟩
     clear HR c0
     have hl1:=hl.out
     have hown2:=rows_only hown.out (ho2.alloc (.cells #[.string (str x)] 9)) (fun g hg=>by have:=(hown.out.lt g hg).1; simp; omega)
     have o2:=hid ((hO1.out.trans ho2 (by simp)).alloc (.cells #[.string (str x)] 9))
     have hR:=RS.fresh w2 #[.string (str x)] 9
     have hS3:=hid (hS2.only0 ((Only.refl [] w2).alloc (.cells #[.string (str x)] 9)))
     have hOw:=hid hown2
     go_wp2_with (at_builtin; refine wpList_append_any (ys:=scs [x]) rfl (.tmp 33) (.tmp 36) elStr Tryz.underlying24 rfl rfl rfl hown2 hR rfl (by simp [scs,scC,Value.oneCell']) (by simp) (by omega) (by have:=o2.out.size; omega) ?_; rintro ao3 cap3 w3 hA3)
     have hfin : Hid (Sc w3 sb r d t2):=by
      cases xs with
      | nil=>
       have hno:=hnil.out rfl
       subst hno
       exact hS3.out.only0 hA3.only
      | cons y ys=>exact hS3.out.row hOw.out hA3 (by omega) (u:=.string (str y)) (by simp) (fun _=>.inl rfl)
     have o3:=hid (o2.out.next hA3.only (fun z hz=>by
      cases ao with
      | none=>simp [Value.ownBlock] at hz
      | some a=>
       simp [Value.ownBlock] at hz
       subst hz
       exact (hOw.out.lt a.block rfl).1))
     have hown3:=hA3.own
     have ee : scs xs ++ scs [x] = scs (xs ++ [x]):=by simp [scs]
     rw [ee] at hown3
     have hnone:=hA3.none
     go_wp2_with fail
     refine ⟨⟨xs ++ [x],t2,ao3,cap3,by simp,by simp; omega,by simpa [Hid] using hown3,hid (by simp),hid (by
      intro y hy
      rcases List.mem_append.1 hy with hy | hy
      ·exact hlen.out y hy
      ·rw [List.mem_singleton.1 hy]; exact hxl),hfin,hid (.inr ⟨hFar.out.1,far_step hFar.out.2 hfi hOx hlt⟩),o3⟩,by simp [sliceLen]; omega⟩
    | false=>
     rw [hfi] at HFi
     go_wp2_with fail
     refine HFi.out.mono ?_
     rintro e w2 ⟨rfl,rfl⟩
     go_wp2_with fail
     go_ret
     refine ⟨xs,t1,ao,cap,rfl,hown.out,(by first | exact hlen.out | (intros; exact hlen.out _ (by assumption))),by omega,hS.out,out_rows hO.out hat.out ?_,hO1.out⟩
     rcases hF.out with ⟨h1,h2,_⟩ | ⟨h1,h2⟩
     ·exact .inl ⟨h1,h2⟩
     ·exact .inr ⟨h1,h2,fun hf=>by rw [hfi] at hf; cases hf⟩
   ·have g1 : ¬ ((xs.length : Int) < (n : Int)):=by omega
    go_wp2_with fail
    go_ret
    refine ⟨xs,t1,ao,cap,rfl,hown.out,(by first | exact hlen.out | (intros; exact hlen.out _ (by assumption))),by omega,hS.out,out_rows hO.out hat.out ?_,hO1.out⟩
    rcases hF.out with ⟨h1,h2,_⟩ | ⟨h1,h2⟩
    ·exact .inl ⟨h1,h2⟩
    ·exact .inr ⟨h1,h2,fun _=>by omega⟩


/-- A module apart; no elder block has turned. -/
def TwPost (w : World) (m : Mo) (r : Ending) (w' : World) : Prop:=∃ vp vc,r = .returned (.agg #[vp,vc])∧MoAt (OwR w' w.heap.size fun _=>True) vp vc m∧Only [] w w'

/-- What stands at the head of the k-th round of Twin. -/
structure TmI (w : World) (m : Mo) (ccs : List Value) (po co : Option Addr) (pc cc k : Nat) (wr : World) (cs : List Value) : Prop where
 row : wr.ownsRow (w.heap.size + 2) 28 6 (.slice co m.classes.length cc) m.classes.length cs
 done : ∀ i (hi : i < m.classes.length),i < k→ClC (OwR wr (w.heap.size + 2) fun d=>∀ a,co = some a→a.block < d) (pcs cs 6 i) m.classes[i]
 left : cs.drop (k * 6) = ccs.drop (k * 6)
 pool : wr.ownsRow (w.heap.size + 2) 90 6 (.slice po m.pool.length pc) m.pool.length (ecs m.pool)
 only : Only [] w wr
 box : Mo2 wr w.heap.size (.slice po m.pool.length pc) (.slice co m.classes.length cc)
 res : Mo2 wr (w.heap.size + 1) (.slice none 0 0) (.slice none 0 0)
 far : ∀ a,co = some a→w.heap.size + 1 < a.block

theorem TmI.head {w : World} {m : Mo} {ccs : List Value} {po co : Option Addr} {pc cc k : Nat} {wr : World} {cs : List Value} {P : Nat→Prop} (h : TmI w m ccs po co pc cc k wr cs) (hE : Els 6 (ClC (SlR w P)) ccs m.classes) (hk : k < m.classes.length) :
  ∃ g vf vd vm,co = some ⟨g,0,none⟩∧w.heap.size + 1 < g∧g < wr.heap.size∧pcs cs 6 k = clC vf vd vm m.classes[k]∧ClAt (SlR w P) vf vd vm m.classes[k]∧Q3 wr g (k * 6 + 3) (k * 6 + 4) (k * 6 + 5) vf vd vm:=by
 have hr:=h.row
 cases co with
 | none=>
  rcases hr.2 with ⟨_,h0⟩ | ⟨b,cap,cur,hv,_⟩
  ·omega
  ·simp at hv
 | some a=>
  obtain ⟨r1,_,_,_,r5⟩:=RS.of_owns hr
  obtain ⟨r6,r7,r8⟩:=r5 a rfl
  have hfar:=h.far a rfl
  rw [r8] at hr r1
  obtain ⟨vf,vd,vm,hc,hm⟩:=hE.el k hk
  have hp : pcs cs 6 k = clC vf vd vm m.classes[k]:=(pcs_drop h.left (Nat.le_refl _)).trans hc
  obtain ⟨o,ho,hcell⟩:=RS.piece r1 6 k hp (by simp [clC])
  obtain rfl : o = 0:=by
   have:=congrArg (fun x=>(x.map (·.off)).getD 1) ho
   simpa using this.symm
  simp only [Option.map_some,Option.getD_some,Nat.zero_add] at hcell
  exact ⟨a.block,vf,vd,vm,by rw [r8],hfar,r7,hp,hm,hcell 3 _ rfl,hcell 4 _ rfl,hcell 5 _ rfl,hr.frozenAt _,hr.frozenAt _,hr.frozenAt _⟩

theorem TmI.next {w w' : World} {m : Mo} {ccs : List Value} {po : Option Addr} {pc cc k g : Nat} {wr : World} {cs : List Value} {vf vd vm a b d : Value} (h : TmI w m ccs po (some ⟨g,0,none⟩) pc cc k wr cs) (hk : k < m.classes.length) (hg : w.heap.size + 1 < g∧g < wr.heap.size) (hp : pcs cs 6 k = clC vf vd vm m.classes[k])
  (hC : ClAt (OwR w' wr.heap.size fun _=>True) a b d m.classes[k]) (t1 : Only [g] wr w') (t2 : w'.heap[g]? = (set3 wr g (k * 6 + 3) (k * 6 + 4) (k * 6 + 5) a b d).heap[g]?) :
  ∃ cs',TmI w m ccs po (some ⟨g,0,none⟩) pc cc (k + 1) w' cs':=by
 have hs:=h.only.size
 refine ⟨((cs.set (k * 6 + 3) a).set (k * 6 + 4) b).set (k * 6 + 5) d,?_,?_,?_,?_,h.only.trans t1 (fun x hx=>by simp at hx; right; omega),h.box.only t1 (by simp; omega),h.res.only t1 (by simp; omega),h.far⟩
 ·exact rows_blk (rows_set3 h.row _ _ _ a b d) fun x hx=>by
   simp [Value.ownBlock] at hx
   subst hx
   exact t2
 ·intro i hi hik
  by_cases e : i = k
  ·subst e
   refine ⟨a,b,d,?_,hC.imp (owr_mono (by omega) fun x _ h1 _ y hy=>?_)⟩
   ·rw [pcs_in (by omega),pcs_in (by omega),pcs_in (by omega),hp]
    rw [show i * 6 + 3 - i * 6 = 3 by omega,show i * 6 + 4 - i * 6 = 4 by omega,show i * 6 + 5 - i * 6 = 5 by omega]
    exact cl_put
   ·simp at hy
    subst hy
    show g < x
    omega
  ·have hlt : i < k:=by omega
   have hm : (i + 1) * 6≤k * 6:=Nat.mul_le_mul_right 6 hlt
   rw [pcs_ne (.inr (by omega)),pcs_ne (.inr (by omega)),pcs_ne (.inr (by omega))]
   exact (h.done i hi hlt).imp (owr_only t1 fun x hx hm2=>by
    obtain rfl:=List.mem_singleton.1 hm2
    exact Nat.lt_irrefl _ (hx _ rfl))
 ·have hl:=h.left
  have e1 : (k + 1) * 6 = k * 6 + 6:=by omega
  rw [e1,drop_set_lt (by omega),drop_set_lt (by omega),drop_set_lt (by omega),← List.drop_drop,← List.drop_drop,hl]
 ·exact rows_only h.pool t1 fun x hx=>by
   have:=rows_unlike h.pool h.row (by decide) (g:=g) rfl
   intro hm
   obtain rfl:=List.mem_singleton.1 hm
   exact this hx

theorem one_ecs (l : List En) : ∀ u∈ecs l,u.oneCell' = true:=by
 intro u hu
 rw [ecs_flat] at hu
 simp only [List.mem_flatMap] at hu
 obtain ⟨x,_,hx⟩:=hu
 simp only [enC,List.mem_cons,List.not_mem_nil,or_false] at hx
 rcases hx with rfl | rfl | rfl | rfl | rfl | rfl <;> rfl


/-- A row of at most N such elements, in a block that obeys Z. -/
def OX (w : World) (Z : Nat→Prop) (N : Nat) (e : TypeId) (k : Nat) (v : Value) : Prop:=∃ n xs,OwR w 0 Z e k v n xs∧n≤N

/-- May the r-th cell of a method hold it? -/
def MeF (w : World) (Z : Nat→Prop) (N r : Nat) (u : Value) : Prop:=
 if r = 2 then OX w Z N 35 2 u else if r = 8 then OX w Z N 5 1 u else if r = 9 then OX w Z N 46 4 u
 else if r = 3 then ∃ b,u = .bool b else if r = 1∨r = 5 then ∃ s,u = .string s else ∃ i,u = .int .i64 i

def RowM (w : World) (Z : Nat→Prop) (N : Nat) (v : Value) : Prop:=∃ n xs,OwR w 0 Z 41 10 v n xs∧n≤64 + N / 3000∧∀ q u,xs[q]? = some u→MeF w Z N (q % 10) u

/-- May the r-th cell of a class hold it? -/
def ClF (w : World) (Z : Nat→Prop) (N r : Nat) (u : Value) : Prop:=
 if r = 3 then OX w Z N 9 1 u else if r = 4 then OX w Z N 44 4 u else if r = 5 then RowM w Z N u
 else if r = 1∨r = 2 then ∃ s,u = .string s else ∃ i,u = .int .i64 i

def RowC (w : World) (Z : Nat→Prop) (N : Nat) (v : Value) : Prop:=∃ n xs,OwR w 0 Z 28 6 v n xs∧n≤N∧∀ q u,xs[q]? = some u→ClF w Z N (q % 6) u

/-- A step that keeps to the kinds, for all bounds from M on, and turns blocks that obey Z alone. -/
structure TP (Z : Nat→Prop) (M : Nat) (w w' : World) : Prop where
 lo : ∃ S,Only S w w'∧∀ x,x∈S→Z x
 ox : ∀ N,M≤N→∀ e k v,OX w Z N e k v→OX w' Z N e k v
 rm : ∀ N,M≤N→∀ v,RowM w Z N v→RowM w' Z N v
 rc : ∀ N,M≤N→∀ v,RowC w Z N v→RowC w' Z N v

theorem TP.refl (Z : Nat→Prop) (M : Nat) (w : World) : TP Z M w w:=⟨⟨[],Only.refl _ _,by simp⟩,fun _ _ _ _ _ h=>h,fun _ _ _ h=>h,fun _ _ _ h=>h⟩
theorem TP.trans {Z : Nat→Prop} {M : Nat} {a b c : World} (h : TP Z M a b) (k : TP Z M b c) : TP Z M a c:=by
 obtain ⟨S,h1,h2⟩:=h.lo
 obtain ⟨T,k1,k2⟩:=k.lo
 refine ⟨⟨S ++ T,(h1.mono (fun x hx=>.inl (List.mem_append_left _ hx))).trans k1 (fun x hx=>.inl (List.mem_append_right _ hx)),fun x hx=>?_⟩,fun N hN e j v x=>k.ox N hN e j v (h.ox N hN e j v x),fun N hN v x=>k.rm N hN v (h.rm N hN v x),fun N hN v x=>k.rc N hN v (h.rc N hN v x)⟩
 rcases List.mem_append.1 hx with hx | hx
 ·exact h2 x hx
 ·exact k2 x hx
theorem OX.le {w : World} {Z : Nat→Prop} {N N' : Nat} {e : TypeId} {k : Nat} {v : Value} (h : OX w Z N e k v) (hN : N≤N') : OX w Z N' e k v:=by
 obtain ⟨n,xs,h1,h2⟩:=h
 exact ⟨n,xs,h1,Nat.le_trans h2 hN⟩

theorem MeF.mono {w w' : World} {Z : Nat→Prop} {N N' r : Nat} {u : Value} (h : MeF w Z N r u) (ho : ∀ e k v,OX w Z N e k v→OX w' Z N' e k v) : MeF w' Z N' r u:=by
 unfold MeF at h ⊢
 repeat' split
 all_goals simp_all

theorem RowM.le {w : World} {Z : Nat→Prop} {N N' : Nat} {v : Value} (h : RowM w Z N v) (hN : N≤N') : RowM w Z N' v:=by
 obtain ⟨n,xs,h1,h2,h3⟩:=h
 exact ⟨n,xs,h1,by omega,fun q u hq=>(h3 q u hq).mono fun _ _ _ h=>h.le hN⟩

theorem ClF.mono {w w' : World} {Z : Nat→Prop} {N N' r : Nat} {u : Value} (h : ClF w Z N r u) (ho : ∀ e k v,OX w Z N e k v→OX w' Z N' e k v) (hm : ∀ v,RowM w Z N v→RowM w' Z N' v) : ClF w' Z N' r u:=by
 unfold ClF at h ⊢
 repeat' split
 all_goals simp_all

/-- A row behind a store: its cells, if the store hit it. -/
theorem row_set {w : World} {B n : Nat} {e : TypeId} {k : Nat} {v : Value} {xs : List Value} (h : w.ownsRow B e k v n xs) (x j : Nat) (u : Value) :
  (v.ownBlock = some x∧(w.setCell ⟨x,j,none⟩ u).ownsRow B e k v n (xs.set j u))∨(v.ownBlock≠some x∧(w.setCell ⟨x,j,none⟩ u).ownsRow B e k v n xs):=by
 by_cases hb : v.ownBlock = some x
 ·left
  refine ⟨hb,?_⟩
  rcases h.2 with ⟨rfl,_⟩ | ⟨g,cap,cur,rfl,_⟩
  ·simp [Value.ownBlock] at hb
  ·simp [Value.ownBlock] at hb
   subst hb
   exact (h.stored j u).1
 ·exact .inr ⟨hb,ownsRow_setCell_other h (a:=⟨x,j,none⟩) hb u⟩

theorem ox_set {w : World} {Z : Nat→Prop} {N : Nat} {e : TypeId} {k : Nat} {v : Value} (h : OX w Z N e k v) (x j : Nat) (u : Value) : OX (w.setCell ⟨x,j,none⟩ u) Z N e k v:=by
 obtain ⟨n,xs,⟨h,hz⟩,hn⟩:=h
 rcases row_set h x j u with ⟨_,h⟩ | ⟨_,h⟩
 ·exact ⟨n,_,⟨h,hz⟩,hn⟩
 ·exact ⟨n,_,⟨h,hz⟩,hn⟩

theorem tp_set {w : World} {Z : Nat→Prop} {M x j : Nat} {u : Value} (hx : Z x) (hm : ∀ v n xs,w.ownsRow 0 41 10 v n xs→v.ownBlock = some x→MeF w Z M (j % 10) u) (hc : ∀ v n xs,w.ownsRow 0 28 6 v n xs→v.ownBlock = some x→ClF w Z M (j % 6) u) :
  TP Z M w (w.setCell ⟨x,j,none⟩ u):=by
 have ho : ∀ N,M≤N→∀ e k v,OX w Z N e k v→OX (w.setCell ⟨x,j,none⟩ u) Z N e k v:=fun _ _ _ _ _ h=>ox_set h x j u
 have hr : ∀ N,M≤N→∀ v,RowM w Z N v→RowM (w.setCell ⟨x,j,none⟩ u) Z N v:=by
  rintro N hN v ⟨n,xs,⟨h,hz⟩,hnn,hf⟩
  rcases row_set h x j u with ⟨hb,h'⟩ | ⟨_,h'⟩
  ·refine ⟨n,_,⟨h',hz⟩,hnn,fun q y hy=>?_⟩
   rw [List.getElem?_set] at hy
   split at hy
   ·rename_i e
    subst e
    split at hy
    ·simp only [Option.some.injEq] at hy
     subst hy
     exact (hm v n xs h hb).mono fun e k v hv=>ho N hN e k v (hv.le hN)
    ·cases hy
   ·exact (hf q y hy).mono (ho N hN)
  ·exact ⟨n,_,⟨h',hz⟩,hnn,fun q y hy=>(hf q y hy).mono (ho N hN)⟩
 refine ⟨⟨[x],(Only.refl [x] w).setCell (p:=⟨x,j,none⟩) (.inl (by simp)) u,fun y hy=>by obtain rfl:=List.mem_singleton.1 hy; exact hx⟩,ho,hr,?_⟩
 rintro N hN v ⟨n,xs,⟨h,hz⟩,hnn,hf⟩
 rcases row_set h x j u with ⟨hb,h'⟩ | ⟨_,h'⟩
 ·refine ⟨n,_,⟨h',hz⟩,hnn,fun q y hy=>?_⟩
  rw [List.getElem?_set] at hy
  split at hy
  ·rename_i e
   subst e
   split at hy
   ·simp only [Option.some.injEq] at hy
    subst hy
    exact (hc v n xs h hb).mono (fun e k v hv=>ho N hN e k v (hv.le hN)) (fun v hv=>hr N hN v (hv.le hN))
   ·cases hy
  ·exact (hf q y hy).mono (ho N hN) (hr N hN)
 ·exact ⟨n,_,⟨h',hz⟩,hnn,fun q y hy=>(hf q y hy).mono (ho N hN) (hr N hN)⟩

/-- May the j-th cell of a row of such elements hold it? -/
def Kd (w : World) (Z : Nat→Prop) (M : Nat) (e : TypeId) (j : Nat) (u : Value) : Prop:=(e = 41→MeF w Z M (j % 10) u)∧(e = 28→ClF w Z M (j % 6) u)

theorem Kd.tp {w w' : World} {Z : Nat→Prop} {M : Nat} {e : TypeId} {j : Nat} {u : Value} (h : Kd w Z M e j u) (t : TP Z M w w') : Kd w' Z M e j u:=⟨fun he=>(h.1 he).mono (t.ox M (Nat.le_refl _)),fun he=>(h.2 he).mono (t.ox M (Nat.le_refl _)) (t.rm M (Nat.le_refl _))⟩

/-- A store into a row that keeps to the kinds. -/
theorem tp_row {w : World} {Z : Nat→Prop} {M B n x j : Nat} {e : TypeId} {k : Nat} {v u : Value} {xs : List Value} (h : w.ownsRow B e k v n xs) (hv : v.ownBlock = some x) (hx : Z x) (hu : Kd w Z M e j u) : TP Z M w (w.setCell ⟨x,j,none⟩ u):=by
 refine tp_set hx (fun _ _ _ h' hb=>?_) (fun _ _ _ h' hb=>?_)
 ·by_cases he : e = 41
  ·exact hu.1 he
  ·exact absurd hb (rows_unlike h' h (Ne.symm he) hv)
 ·by_cases he : e = 28
  ·exact hu.2 he
  ·exact absurd hb (rows_unlike h' h (Ne.symm he) hv)

/-- Several of them. -/
theorem tp_cells {Z : Nat→Prop} {M B n x : Nat} {e : TypeId} {k : Nat} {v : Value} (hv : v.ownBlock = some x) (hx : Z x) : ∀ (ys : List Value) (o : Nat) (w : World),(∃ xs,w.ownsRow B e k v n xs)→(∀ i u,ys[i]? = some u→Kd w Z M e (o + i) u)→TP Z M w (w.setCells x o ys):=by
 intro ys
 induction ys with
 | nil=>intro o w _ _; exact TP.refl Z M w
 | cons y ys ih=>
  intro o w ⟨xs,h⟩ hk
  have t1:=tp_row (j:=o) h hv hx (hk 0 y rfl)
  refine t1.trans (ih (o + 1) _ ?_ fun i u hu=>?_)
  ·rcases row_set h x o y with ⟨_,h'⟩ | ⟨_,h'⟩
   ·exact ⟨_,h'⟩
   ·exact ⟨_,h'⟩
  ·have:=(hk (i + 1) u hu).tp t1
   rw [show o + 1 + i = o + (i + 1) by omega]
   exact this

/-- A step that turns none of the elder blocks. -/
theorem tp_only0 {w w' : World} {Z : Nat→Prop} {M : Nat} (ho : Only [] w w') : TP Z M w w':=by
 have h1 : ∀ N,M≤N→∀ e k v,OX w Z N e k v→OX w' Z N e k v:=fun _ _ _ _ _ ⟨n,xs,⟨h,hz⟩,hn⟩=>⟨n,xs,⟨rows_only h ho (by simp),hz⟩,hn⟩
 have h2 : ∀ N,M≤N→∀ v,RowM w Z N v→RowM w' Z N v:=fun N hN _ ⟨n,xs,⟨h,hz⟩,hn,hf⟩=>⟨n,xs,⟨rows_only h ho (by simp),hz⟩,hn,fun q u hq=>(hf q u hq).mono (h1 N hN)⟩
 exact ⟨⟨[],ho,by simp⟩,h1,h2,fun N hN _ ⟨n,xs,⟨h,hz⟩,hn,hf⟩=>⟨n,xs,⟨rows_only h ho (by simp),hz⟩,hn,fun q u hq=>(hf q u hq).mono (h1 N hN) (h2 N hN)⟩⟩

/-- A module of one's own keeps to the kinds. -/
theorem rowM_of {w : World} {Z : Nat→Prop} {N : Nat} {v : Value} {l : List Me} {mcs : List Value} (h : OwR w 0 Z 41 10 v l.length mcs) (hE : Els 10 (MeC (OwR w 0 Z)) mcs l) (hl0 : l.length≤64) (hN : ∀ m∈l,m.sig.1.length≤N∧m.code.length≤N∧m.hands.length≤N) : RowM w Z N v:=by
 refine ⟨_,_,h,by omega,fun q u hq=>?_⟩
 have hl:=hE.len
 have hq' : q < mcs.length:=(List.getElem?_eq_some_iff.1 hq).1
 have hj : q / 10 < l.length:=by omega
 obtain ⟨vp,vc,vh,hc,hm⟩:=hE.el (q / 10) hj
 have e1 : ((mcs.drop (q / 10 * 10)).take 10)[q % 10]? = some u:=by
  rw [List.getElem?_take,if_pos (by omega),List.getElem?_drop,show q / 10 * 10 + q % 10 = q by omega]
  exact hq
 rw [hc] at e1
 have hr : q % 10 = 0∨q % 10 = 1∨q % 10 = 2∨q % 10 = 3∨q % 10 = 4∨q % 10 = 5∨q % 10 = 6∨q % 10 = 7∨q % 10 = 8∨q % 10 = 9:=by omega
 have hn:=hN _ (List.getElem_mem hj)
 have a1 : OX w Z N 35 2 vp:=⟨_,_,hm.params,hn.1⟩
 have a2 : OX w Z N 5 1 vc:=⟨_,_,hm.code,hn.2.1⟩
 have a3 : OX w Z N 46 4 vh:=⟨_,_,hm.hands,hn.2.2⟩
 rcases hr with h | h | h | h | h | h | h | h | h | h <;> rw [h] at e1 ⊢ <;> simp [meC] at e1 <;> subst e1 <;> simp [MeF,a1,a2,a3]

theorem rowC_of {w : World} {Z : Nat→Prop} {N : Nat} {v : Value} {l : List Cl} {ccs : List Value} (h : OwR w 0 Z 28 6 v l.length ccs) (hE : Els 6 (ClC (OwR w 0 Z)) ccs l) (hl0 : l.length≤N) (hN : ∀ c∈l,c.faces.length≤N∧c.fields.length≤N∧c.methods.length≤64∧∀ m∈c.methods,m.sig.1.length≤N∧m.code.length≤N∧m.hands.length≤N) : RowC w Z N v:=by
 refine ⟨_,_,h,hl0,fun q u hq=>?_⟩
 have hl:=hE.len
 have hq' : q < ccs.length:=(List.getElem?_eq_some_iff.1 hq).1
 have hj : q / 6 < l.length:=by omega
 obtain ⟨vf,vd,vm,hc,h1,h2,mcs,h3,h4⟩:=hE.el (q / 6) hj
 have e1 : ((ccs.drop (q / 6 * 6)).take 6)[q % 6]? = some u:=by
  rw [List.getElem?_take,if_pos (by omega),List.getElem?_drop,show q / 6 * 6 + q % 6 = q by omega]
  exact hq
 rw [hc] at e1
 have hr : q % 6 = 0∨q % 6 = 1∨q % 6 = 2∨q % 6 = 3∨q % 6 = 4∨q % 6 = 5:=by omega
 have hn:=hN _ (List.getElem_mem hj)
 have a1 : OX w Z N 9 1 vf:=⟨_,_,h1,hn.1⟩
 have a2 : OX w Z N 44 4 vd:=⟨_,_,h2,hn.2.1⟩
 have a3 : RowM w Z N vm:=rowM_of h3 h4 hn.2.2.1 hn.2.2.2
 rcases hr with h | h | h | h | h | h <;> rw [h] at e1 ⊢ <;> simp [clC] at e1 <;> subst e1 <;> simp [ClF,a1,a2,a3]

/-- append of one element: what it keeps to. -/
theorem append_runT {w : World} {Z : Nat→Prop} {ao : Option Addr} {a : Addr} {M cap lcap d m k n : Nat} {e : TypeId} {z : Value} {xs ys : List Value} (hE : ElT e z k n) (ty st : TypeId) (hst : Tryz.prog.underlying st = some (.slice e)) (hown : OwR w 0 Z e k (.slice ao m cap) m xs) (hb : RS w (some a) ys d) (hy : ys.length = 1 * k) (hone : ∀ u∈ys,u.oneCell' = true)
  (hsz : m + 1≤8000000) (hZ : ∀ x,w.heap.size≤x→Z x) (hk : ∀ i u,ys[i]? = some u→Kd w Z M e (m * k + i) u) :
  ∃ ao' cap' w',(Builtin.append_ #[st,st] ty #[.slice ao m cap,.slice (some a) 1 lcap]).run Tryz.prog w = .ok (.slice ao' (m + 1) cap') w'∧OwR w' 0 Z e k (.slice ao' (m + 1) cap') (m + 1) (xs ++ ys)∧TP Z M w w'∧Only (Value.ownBlock (.slice ao m cap)).toList w w':=by
 obtain ⟨i0,hi,hz0,hz1,hz2⟩:=hE.parts
 have hkp:=hE.pos
 have hmax : m + 1≤maxLen:=by unfold maxLen; omega
 obtain ⟨hown,hzo⟩:=hown
 rcases hown.2 with ⟨hv,h0⟩ | ⟨g,cap',cur,hv,hbg,hg,hnc,hcm,hcs,htake⟩
 ·subst h0
  have hx : xs = []:=List.eq_nil_of_length_eq_zero (by rw [hown.1]; simp)
  subst hx
  simp only [Value.slice.injEq,true_and] at hv
  obtain ⟨rfl,rfl⟩:=hv
  have hr:=run_append_nil (P:=Tryz.prog) w st ty e i0 z hst hi hz0 a 1 lcap ys (by rw [hz1]; exact hy) hb.cells (by omega) (by omega) (by
   rw [hz2]
   exact Nat.le_trans (Nat.mul_le_mul (show 1≤8000000 by omega) hE.few) (by decide))
  obtain ⟨q1,q2⟩:=rows_fresh hE w ys 1 (grownCap w 1 0 e) hy (grownCap_ge _ _ _ _) (grownCap_le_maxLen _ _ _ _ (by simpa using hmax))
  rw [List.nil_append,Nat.zero_add]
  exact ⟨_,_,_,hr,⟨rows_mono q1 (Nat.zero_le _),fun x hx=>by simp [Value.ownBlock] at hx; subst hx; exact hZ _ (Nat.le_refl _)⟩,tp_only0 (Only.of_grown q2),Only.of_grown q2⟩
 ·simp only [Value.slice.injEq,true_and] at hv
  obtain ⟨rfl,rfl⟩:=hv
  have hzg:=hzo g rfl
  by_cases hroom : m + 1≤cap
  ·obtain ⟨w',hr,ho,hgr⟩:=run_append_fits (P:=Tryz.prog) w 0 st ty e i0 k hst hi hz1 g m cap xs hown a 1 lcap ys hy hb.cells hone hroom
   have hthere : ∀ j,j < ys.length→(w.cell? ⟨g,0 + m * i0.size + j,none⟩).isSome = true:=by
    intro j hj
    rw [hz1,Nat.zero_add]
    have h2 : m * k + j < cur.size:=by
     rw [hcs]
     have h3 : (m + 1) * k≤cap * k:=Nat.mul_le_mul_right k hroom
     rw [Nat.add_mul,Nat.one_mul] at h3
     omega
    have : w.cell? ⟨g,m * k + j,none⟩ = some cur[m * k + j]:=by
     simp [World.cell?,hg,h2]
    rw [this]
    rfl
   have hex:=run_append_room_cells (P:=Tryz.prog) w st ty e i0 hst hi g 0 m cap a 1 lcap ys (by rw [hz1]; exact hy) hb.cells hone hroom hthere (fun j _=>hown.frozenAt _)
   have heq:=hr.symm.trans hex
   simp only [Result.ok.injEq] at heq
   obtain ⟨_,rfl⟩:=heq
   refine ⟨some ⟨g,0,none⟩,cap,_,hr,⟨ho,fun x hx=>by simp [Value.ownBlock] at hx; subst hx; exact hzg⟩,?_,Only.of_grown hgr⟩
   rw [hz1,Nat.zero_add]
   exact tp_cells (v:=.slice (some ⟨g,0,none⟩) m cap) rfl hzg ys (m * k) w ⟨xs,hown⟩ hk
  ·have hr:=run_append_grow (P:=Tryz.prog) w st ty e i0 z hst hi hz0 ⟨g,0,none⟩ m cap xs (by rw [hz1]; exact hown.1) (hown.cells (g:=g) rfl) a 1 lcap ys (by rw [hz1]; exact hy) hb.cells (by omega) (by omega) (by rw [hz2]; exact capG (by omega) hsz hE.few)
   obtain ⟨q1,q2⟩:=rows_fresh hE w (xs ++ ys) (m + 1) (grownCap w (m + 1) cap e) (by rw [List.length_append,hown.1,hy,Nat.add_mul]) (grownCap_ge _ _ _ _) (grownCap_le_maxLen _ _ _ _ hmax)
   have e1 : (xs ++ ys).toArray = xs.toArray ++ ys.toArray:=by simp
   rw [e1] at q2 q1
   exact ⟨_,_,_,hr,⟨rows_mono q1 (Nat.zero_le _),fun x hx=>by simp [Value.ownBlock] at hx; subst hx; exact hZ _ (Nat.le_refl _)⟩,tp_only0 (Only.of_grown q2),(Only.of_grown q2).mono (by simp)⟩

/-- append of one element, as a step of a walk. -/
theorem wpList_append_T {w : World} {ops : Array Oper} {rest : List Oper} {o : Oper} {a : Act} {Q : Exit→Act→World→Prop} (hgd : o.guard = none) (s x : Operand) {st e : TypeId} {z : Value} {k n : Nat} (hE : ElT e z k n) (hst : Tryz.prog.underlying st = some (.slice e))
  (ho : o.op = .call { callee:=.builtin .append,args:=#[s,x],argTypes:=#[st,st] }) {Z : Nat→Prop}
  {ao : Option Addr} {b : Addr} {M cap lcap d m : Nat} {xs ys : List Value} (hs : a.eval s = .slice ao m cap) (hx : a.eval x = .slice (some b) 1 lcap) (hown : OwR w 0 Z e k (.slice ao m cap) m xs) (hb : RS w (some b) ys d) (hy : ys.length = 1 * k) (hone : ∀ u∈ys,u.oneCell' = true)
  (hsz : m + 1≤8000000) (hZ : ∀ x,w.heap.size≤x→Z x) (hk : ∀ i u,ys[i]? = some u→Kd w Z M e (m * k + i) u)
  (h : ∀ ao' cap' w',OwR w' 0 Z e k (.slice ao' (m + 1) cap') (m + 1) (xs ++ ys)→TP Z M w w'→Only (Value.ownBlock (.slice ao m cap)).toList w w'→wpList Tryz.prog ops Q rest (a.put o.dst (.slice ao' (m + 1) cap')) w') : wpList Tryz.prog ops Q (o :: rest) a w:=by
 refine wpList_plain hgd fun K hK=>?_
 obtain ⟨ao',cap',w',hr,h1,h2,h3⟩:=append_runT (lcap:=lcap) hE o.type st hst hown hb hy hone hsz hZ hk
 unfold Oper.wp execOp
 simp only [ho,resolve,invoke,builtin,Sem.run_bind,Sem.run_pure,Result.andThen_ok,List.map_toArray,List.map_cons,List.map_nil,hs,hx,hr]
 exact hK _ _ (h ao' cap' w' h1 h2 h3)


theorem put4 {w : World} {b : Nat} {x0 x1 x2 x3 : Value} (v0 v1 v2 v3 : Value) (c0 : w.cell? ⟨b,0,none⟩ = some x0) (c1 : w.cell? ⟨b,1,none⟩ = some x1) (c2 : w.cell? ⟨b,2,none⟩ = some x2) (c3 : w.cell? ⟨b,3,none⟩ = some x3) :
  ((((w.setCell ⟨b,0,none⟩ v0).setCell ⟨b,1,none⟩ v1).setCell ⟨b,2,none⟩ v2).setCell ⟨b,3,none⟩ v3).cell? ⟨b,0,none⟩ = some v0∧((((w.setCell ⟨b,0,none⟩ v0).setCell ⟨b,1,none⟩ v1).setCell ⟨b,2,none⟩ v2).setCell ⟨b,3,none⟩ v3).cell? ⟨b,1,none⟩ = some v1 ∧
  ((((w.setCell ⟨b,0,none⟩ v0).setCell ⟨b,1,none⟩ v1).setCell ⟨b,2,none⟩ v2).setCell ⟨b,3,none⟩ v3).cell? ⟨b,2,none⟩ = some v2∧((((w.setCell ⟨b,0,none⟩ v0).setCell ⟨b,1,none⟩ v1).setCell ⟨b,2,none⟩ v2).setCell ⟨b,3,none⟩ v3).cell? ⟨b,3,none⟩ = some v3:=by
 refine ⟨?_,?_,?_,?_⟩
 ·rw [cell_setCell_ne _ _ (by simp),cell_setCell_ne _ _ (by simp),cell_setCell_ne _ _ (by simp)]
  exact cell_setCell_same _ _ c0
 ·rw [cell_setCell_ne _ _ (by simp),cell_setCell_ne _ _ (by simp)]
  exact cell_setCell_same _ _ (by rw [cell_setCell_ne _ _ (by simp)]; exact c1)
 ·rw [cell_setCell_ne _ _ (by simp)]
  exact cell_setCell_same _ _ (by rw [cell_setCell_ne _ _ (by simp),cell_setCell_ne _ _ (by simp)]; exact c2)
 ·exact cell_setCell_same _ _ (by rw [cell_setCell_ne _ _ (by simp),cell_setCell_ne _ _ (by simp),cell_setCell_ne _ _ (by simp)]; exact c3)

/-- The names of a signature that was read are short. -/
structure SgShort (x : Sg) : Prop where
 params : ∀ t∈x.1,t.2.length≤32
 res : x.2.2.2.length≤32

theorem sigR_short (l : List UInt8) : SgShort (sigR l).1:=by
 by_cases h : (sigR l).2 = 0
 ·obtain ⟨_,h2,h3,_⟩:=sigCheck_ok (sig_read l h).1
  exact ⟨fun t ht=>(check_fit (h2 t ht)).2.2,(check_fit h3).2.2⟩
 ·unfold sigR at h ⊢
  cases hp : sigP l with
  | none=>exact ⟨by simp,by simp⟩
  | some z=>
   obtain ⟨ps,rr⟩:=z
   simp only [hp] at h ⊢
   by_cases h16 : 16 < ps.length
   ·rw [if_pos h16]
    exact ⟨by simp,by simp⟩
   ·rw [if_neg h16] at h
    exact absurd rfl h

/-- The four cells of a signature's block. -/
structure Sg4 (w : World) (b : Nat) (v0 v1 v2 v3 : Value) : Prop where
 c0 : w.cell? ⟨b,0,none⟩ = some v0
 c1 : w.cell? ⟨b,1,none⟩ = some v1
 c2 : w.cell? ⟨b,2,none⟩ = some v2
 c3 : w.cell? ⟨b,3,none⟩ = some v3
 f0 : w.frozen? ⟨b,0,none⟩ = false
 f1 : w.frozen? ⟨b,1,none⟩ = false
 f2 : w.frozen? ⟨b,2,none⟩ = false
 f3 : w.frozen? ⟨b,3,none⟩ = false

theorem Sg4.only {w w' : World} {S : List Nat} {b : Nat} {v0 v1 v2 v3 : Value} (h : Sg4 w b v0 v1 v2 v3) (ho : Only S w w') (hb : b ∉ S) : Sg4 w' b v0 v1 v2 v3:=by
 have hl:=World.block_lt_of_cell? w _ h.c0
 exact ⟨(ho.cell (p:=⟨b,0,none⟩) hl hb).trans h.c0,(ho.cell (p:=⟨b,1,none⟩) hl hb).trans h.c1,(ho.cell (p:=⟨b,2,none⟩) hl hb).trans h.c2,(ho.cell (p:=⟨b,3,none⟩) hl hb).trans h.c3,
  (ho.frozen (p:=⟨b,0,none⟩) hl hb).trans h.f0,(ho.frozen (p:=⟨b,1,none⟩) hl hb).trans h.f1,(ho.frozen (p:=⟨b,2,none⟩) hl hb).trans h.f2,(ho.frozen (p:=⟨b,3,none⟩) hl hb).trans h.f3⟩

theorem sg4_new (w : World) (v0 v1 v2 v3 : Value) (t : TypeId) : Sg4 (w.alloc (.cells #[v0,v1,v2,v3] t)) w.heap.size v0 v1 v2 v3:=
 ⟨by rw [cell_new]; rfl,by rw [cell_new]; rfl,by rw [cell_new]; rfl,by rw [cell_new]; rfl,frozen_new _ _ _ _,frozen_new _ _ _ _,frozen_new _ _ _ _,frozen_new _ _ _ _⟩

set_option maxHeartbeats 4000000 in
theorem rspell_sig {w : World} {sb r d : Nat} {t : St} (h : Sc w sb r d t) :
  Calls Tryz.prog 176 #[.pointer (some ⟨sb,0,none⟩),.func (.func 162) #[] #[]] w fun e w'=>∃ (x : Sg) (t' : St) (ao : Option Addr) (cap : Nat),e = .returned (.agg #[.slice ao x.1.length cap,.bool x.2.1,.int .i64 x.2.2.1,.string (str x.2.2.2)])∧SgShort x∧Own w' w.heap.size (.slice ao x.1.length cap) x.1∧Sc w' sb r d t'∧Out (pSpell sigR) t x t'∧Only [sb,r] w w':=by
 have o0:=hid ((Only.refl [sb,r] w).alloc (.cells #[.slice none 0 0,.bool false,.int .i64 0,.string ⟨#[]⟩] 37))
 have h0:=h.only0 ((Only.refl [] w).alloc (.cells #[.slice none 0 0,.bool false,.int .i64 0,.string ⟨#[]⟩] 37))
 have hl:=h.lt
 clear h
 have q0:=hid (sg4_new w (.slice none 0 0) (.bool false) (.int .i64 0) (.string ⟨#[]⟩) 37)
 have c0:=h0.c0
 have HA:=hid (sc_at h0)
 go_enter Tryz.func176,Tryz.ntmps176
 go_wp2_with fail
 refine HA.out.mono ?_
 rintro e w1 ⟨n,rfl,hn,rfl⟩
 have HT:=hid (sc_text h0)
 go_wp2_with fail
 refine HT.out.mono ?_
 rintro e w2 ⟨x,t1,rfl,hx,h1,hO,ho2⟩
 have HD:=hid (sig_any x (by omega) w2)
 clear HA HT c0
 have c0:=h1.c0
 have o2:=hid (o0.out.trans ho2 (by simp))
 have hos:=out_spell sigR hO hn
 have hl2:=h1.lt
 have hs2 : w.heap.size < w2.heap.size:=Nat.lt_of_lt_of_le (by simp) ho2.size
 have q1:=hid (q0.out.only ho2 (by simp; omega))
 have hsh:=sigR_short x
 generalize sigR x = y at *
 obtain ⟨⟨ps,vo,yd,yn⟩,ye⟩:=y
 unfold sigV at HD
 simp only at hos HD hsh
 by_cases he : ye = 0
 ·subst he
  rw [if_pos rfl] at hos
  go_wp2_with fail
  refine HD.out.mono ?_
  rintro e w3 ⟨v,rfl,hown,ho3⟩
  obtain ⟨ao,cap,rfl⟩:=own_slice hown
  have hQ:=hid (q1.out.only ho3 (by simp))
  obtain ⟨r0,r1,r2,r3,z0,z1,z2,z3⟩:=q1.out.only ho3 (by simp)
  have hs3 : w.heap.size < w3.heap.size:=Nat.lt_of_lt_of_le hs2 ho3.size
  have r0':=fun o=>cell_alloc o r0
  have r1':=fun o=>cell_alloc o r1
  have r2':=fun o=>cell_alloc o r2
  have r3':=fun o=>cell_alloc o r3
  have z0' : ∀ o,(w3.alloc o).frozen? ⟨w.heap.size,0,none⟩ = false:=fun o=>(frozen_alloc o hs3).trans z0
  have z1' : ∀ o,(w3.alloc o).frozen? ⟨w.heap.size,1,none⟩ = false:=fun o=>(frozen_alloc o hs3).trans z1
  have z2' : ∀ o,(w3.alloc o).frozen? ⟨w.heap.size,2,none⟩ = false:=fun o=>(frozen_alloc o hs3).trans z2
  have z3' : ∀ o,(w3.alloc o).frozen? ⟨w.heap.size,3,none⟩ = false:=fun o=>(frozen_alloc o hs3).trans z3
  go_wp2_with fail
  have p4:=put4 (.slice ao ps.length cap) (.bool vo) (.int .i64 yd) (.string (str yn)) hQ.out.c0 hQ.out.c1 hQ.out.c2 hQ.out.c3
  have d0:=cell_alloc (.cells #[.slice ao ps.length cap,.bool vo,.int .i64 yd,.string (str yn)] 37) p4.1
  have d1:=cell_alloc (.cells #[.slice ao ps.length cap,.bool vo,.int .i64 yd,.string (str yn)] 37) p4.2.1
  have d2:=cell_alloc (.cells #[.slice ao ps.length cap,.bool vo,.int .i64 yd,.string (str yn)] 37) p4.2.2.1
  have d3:=cell_alloc (.cells #[.slice ao ps.length cap,.bool vo,.int .i64 yd,.string (str yn)] 37) p4.2.2.2
  refine bodyPost_ret (v:=.agg #[.slice ao ps.length cap,.bool vo,.int .i64 yd,.string (str yn)]) (by simp [results,Tryz.results176,go_sem,d0,d1,d2,d3]) rfl ?_
  have oS : Only [w.heap.size] w3 ((((w3.setCell ⟨w.heap.size,0,none⟩ (.slice ao ps.length cap)).setCell ⟨w.heap.size,1,none⟩ (.bool vo)).setCell ⟨w.heap.size,2,none⟩ (.int .i64 yd)).setCell ⟨w.heap.size,3,none⟩ (.string (str yn))):=((((Only.refl [w.heap.size] w3).setCell (.inl (by simp)) _).setCell (.inl (by simp)) _).setCell (.inl (by simp)) _).setCell (.inl (by simp)) _
  refine ⟨(ps,vo,yd,yn),t1,ao,cap,rfl,hsh,own_mono (own_only hown (oS.alloc _) (fun k hk=>?_)) (by omega),?_,hos,?_⟩
  ·have:=(hown.lt k hk).1
   simp
   omega
  ·exact ((h1.only0 ho3).other (by simp) (.inl hQ.out.c0) (by omega) oS).only0 ((Only.refl [] _).alloc _)
  ·exact ((o2.out.next ho3 (by simp)).next oS (by simp)).alloc _
 ·have he' : (ye == 0) = false:=by simpa using he
  rw [if_neg he] at hos
  go_wp2_with fail
  refine HD.out.mono ?_
  rintro e w3 ⟨v,rfl,hown,ho3⟩
  obtain ⟨ao,cap,rfl⟩:=own_slice hown
  have hs3 : w.heap.size < w3.heap.size:=Nat.lt_of_lt_of_le hs2 ho3.size
  have oA:=(Only.refl [] w3).alloc (.cells #[.slice ao ps.length cap,.bool vo,.int .i64 yd,.string (str yn)] 37)
  have h3:=(h1.only0 ho3).only0 oA
  have HR:=hid (refuse_src h3 (n : Int) ye he)
  have a0:=hid (sg4_new w3 (.slice ao ps.length cap) (.bool vo) (.int .i64 yd) (.string (str yn)) 37)
  have q3:=hid (q1.out.only (ho3.next oA (by simp)) (by simp))
  have hsb : sb < w3.heap.size:=by have:=ho3.size; omega
  clear HD
  go_wp2_with fail
  refine HR.out.mono ?_
  rintro e w4 ⟨rfl,h4,ho4⟩
  obtain ⟨b0,b1,b2,b3,_,_,_,_⟩:=a0.out.only ho4 (by simp; omega)
  have hQ:=hid (q3.out.only ho4 (by simp; omega))
  obtain ⟨r0,r1,r2,r3,z0,z1,z2,z3⟩:=q3.out.only ho4 (by simp; omega)
  clear HR
  go_wp2_with fail
  have p4:=put4 (.slice ao ps.length cap) (.bool vo) (.int .i64 yd) (.string (str yn)) hQ.out.c0 hQ.out.c1 hQ.out.c2 hQ.out.c3
  have d0:=p4.1
  have d1:=p4.2.1
  have d2:=p4.2.2.1
  have d3:=p4.2.2.2
  refine bodyPost_ret (v:=.agg #[.slice ao ps.length cap,.bool vo,.int .i64 yd,.string (str yn)]) (by simp [results,Tryz.results176,go_sem,d0,d1,d2,d3]) rfl ?_
  have oS : Only [w.heap.size] w4 ((((w4.setCell ⟨w.heap.size,0,none⟩ (.slice ao ps.length cap)).setCell ⟨w.heap.size,1,none⟩ (.bool vo)).setCell ⟨w.heap.size,2,none⟩ (.int .i64 yd)).setCell ⟨w.heap.size,3,none⟩ (.string (str yn))):=((((Only.refl [w.heap.size] w4).setCell (.inl (by simp)) _).setCell (.inl (by simp)) _).setCell (.inl (by simp)) _).setCell (.inl (by simp)) _
  refine ⟨(ps,vo,yd,yn),_,ao,cap,rfl,hsh,own_mono (own_only (own_only hown ((oA.mono (S':=[sb]) (by simp)).trans ho4 (by simp)) (fun k hk=>?_)) oS (fun k hk=>?_)) (by omega),h4.other (by simp) (.inl hQ.out.c0) (by omega) oS,hos,?_⟩
  ·have:=(hown.lt k hk).1
   simp
   omega
  ·have:=(hown.lt k hk).1
   simp
   omega
  ·exact (((o2.out.next ho3 (by simp)).next oA (by simp)).trans ho4 (by simp)).next oS (by simp)


theorem orE_left {a b : Bp} (h : a.2.2.2≠0) : orE a b = a:=by unfold orE; rw [if_neg h]
theorem orE_right {a b : Bp} (h : a.2.2.2 = 0) : orE a b = b:=by unfold orE; rw [if_pos h]

set_option maxHeartbeats 4000000 in
theorem checkClass_any {w : World} (hg : Ety w) {P Q : Nat→Prop} (c : Cl) (hF : ClFit c) {vf vd vm ve : Value} (hC : ClAt (SlR w P) vf vd vm c) {pl : List En} (hEn : SlV w Q ve pl.length (ecs pl)) (hA : ∀ e∈pl,e.2.1.length≤9223372036854775807) :
  Calls Tryz.prog 20 #[clV vf vd vm c,ve] w fun e w'=>∃ v,e = .returned v∧EV w' w.heap.size v (classE pl c)∧Only [] w w':=by
 obtain ⟨hc1,hc2,mcs,hc3,hc4⟩:=hC
 obtain ⟨fo,fc,fd,rfl,h1⟩:=hc1
 obtain ⟨dO,dc,dd,rfl,h2⟩:=hc2
 obtain ⟨mo,mc,md,rfl,h3⟩:=hc3
 have hEn0:=hEn
 obtain ⟨eo,ec,ed,rfl,_⟩:=hEn
 have o0:=((Only.refl [] w).alloc (.cells #[.int .i64 c.flags,.string (str c.name),.string (str c.super),.slice fo c.faces.length fc,.slice dO c.fields.length dc,.slice mo c.methods.length mc] 28)).alloc (.cells #[.slice eo pl.length ec] 29)
 have hB:=(clBlk_new w c (.slice fo c.faces.length fc) (.slice dO c.fields.length dc) (.slice mo c.methods.length mc)).only ((Only.refl [] _).alloc (.cells #[.slice eo pl.length ec] 29)) (by simp)
 have hb : ((w.alloc (.cells #[.int .i64 c.flags,.string (str c.name),.string (str c.super),.slice fo c.faces.length fc,.slice dO c.fields.length dc,.slice mo c.methods.length mc] 28)).alloc (.cells #[.slice eo pl.length ec] 29)).cell? ⟨w.heap.size + 1,0,none⟩ = some (.slice eo pl.length ec):=by
  have:=cell_new (w.alloc (.cells #[.int .i64 c.flags,.string (str c.name),.string (str c.super),.slice fo c.faces.length fc,.slice dO c.fields.length dc,.slice mo c.methods.length mc] 28)) #[.slice eo pl.length ec] 29 0
  rw [World.size_alloc] at this
  exact this
 have l1 : c.faces.length≤9223372036854775807:=by have:=h1.le; have:=h1.max; omega
 have l2 : c.fields.length≤9223372036854775807:=by have:=h2.le; have:=h2.max; omega
 have hsz : ((w.alloc (.cells #[.int .i64 c.flags,.string (str c.name),.string (str c.super),.slice fo c.faces.length fc,.slice dO c.fields.length dc,.slice mo c.methods.length mc] 28)).alloc (.cells #[.slice eo pl.length ec] 29)).heap.size = w.heap.size + 2:=by simp
 have HH:=checkHead_any c (fo:=fo) (dd:=dO) (fc:=fc) (dc:=dc) (.slice mo c.methods.length mc) hF.name hF.super l1 l2
 have H1:=fun W (hW : Only [] w W)=>members_str (hg.only0 hW) (cap:=fc) (h1.rs.only0 hW) h1.le hF.faces 16 (by decide)
 have H2:=fun W (hW : Only [] w W)=>members_fd (hg.only0 hW) (cap:=dc) (h2.rs.only0 hW) h2.le hF.fields 64 (by decide)
 have H3:=fun W (hW : Only [] w W) (hcb : ClBlk W w.heap.size (.slice fo c.faces.length fc) (.slice dO c.fields.length dc) (.slice mo c.methods.length mc) c) (heb : W.cell? ⟨w.heap.size + 1,0,none⟩ = some (.slice eo pl.length ec))=>
  members_me (hg.only0 hW) (P:=P) (Q:=Q) (cap:=mc) (h3.rs.only0 hW) (hc4.imp fun _ _ _ h=>h.imp (slr_only hW (by simp))) h3.le hF.methods w.heap.size (w.heap.size + 1) hcb heb (SlV.only hEn0 hW (by simp)) hA 64 (by decide)
 obtain ⟨X,hX⟩ : ∃ X,X = classE pl c:=⟨_,rfl⟩
 rw [← hX]
 unfold classE at hX
 generalize headE c = he at *
 generalize membersE 16 (at0 faceE) c.faces = m1 at *
 generalize membersE 64 (at0 fieldE) c.fields = m2 at *
 generalize membersE 64 (methodE pl c.flags) c.methods = m3 at *
 unfold clV at HH ⊢
 replace HH:=hid HH
 replace H1:=hid H1
 replace H2:=hid H2
 replace H3:=hid H3
 replace hB:=hid hB
 replace hb:=hid hb
 replace hX:=hid hX
 replace hsz:=hid hsz
 clear h1 h2 h3 hc4 hEn0 hA hF hg l1 l2
 go_enter Tryz.func20,Tryz.ntmps20
 go_wp2_with fail
 refine (HH.out _).mono ?_
 rintro e w1 ⟨rfl,ho1⟩
 obtain ⟨c0,c1,c2,c3,c4,c5⟩:=hB.out.only ho1 (by simp)
 have o1:=o0.next ho1 (by simp)
 by_cases h1 : he = 0
 ·subst h1
  rw [bare_nil.2 rfl]
  go_wp2_with fail
  refine (H1.out _ o1).mono ?_
  rintro e w2 ⟨v1,rfl,hev1,ho2⟩
  obtain ⟨c0,c1,c2,c3,c4,c5⟩:=hB.out.only (ho1.next ho2 (by simp)) (by simp)
  have o2:=o1.next ho2 (by simp)
  rcases hev1.nil_iff with ⟨e1,rfl⟩ | ⟨e1,t,u,rfl⟩
  ·go_wp2_with fail
   refine (H2.out _ o2).mono ?_
   rintro e w3 ⟨v2,rfl,hev2,ho3⟩
   have hB3:=hid (hB.out.only ((ho1.next ho2 (by simp)).next ho3 (by simp)) (by simp))
   obtain ⟨c0,c1,c2,c3,c4,c5⟩:=hB3.out
   have o3:=o2.next ho3 (by simp)
   rcases hev2.nil_iff with ⟨e2,rfl⟩ | ⟨e2,t,u,rfl⟩
   ·have hb3:=hid ((((ho1.next ho2 (by simp)).next ho3 (by simp)).cell (p:=⟨w.heap.size + 1,0,none⟩) (by have:=hsz.out; show w.heap.size + 1 < _; omega) (by simp)).trans hb.out)
    go_wp2_with fail
    refine (H3.out _ o3 hB3.out hb3.out).mono ?_
    rintro e w4 ⟨v3,rfl,hev3,ho4⟩
    go_wp2_with fail
    go_ret
    refine ⟨v3,rfl,?_,o3.next ho4 (by simp)⟩
    rw [hX.out,orE_right rfl,orE_right e1,orE_right e2]
    exact hev3.down o3.size
   ·go_wp2_with fail
    go_ret
    refine ⟨_,rfl,?_,o3⟩
    rw [hX.out,orE_right rfl,orE_right e1,orE_left e2]
    exact hev2.down o2.size
  ·go_wp2_with fail
   go_ret
   refine ⟨_,rfl,?_,o2⟩
   rw [hX.out,orE_right rfl,orE_left e1]
   exact hev1.down o1.size
 ·have hbv : bareV he = .iface 63 (.int .i64 he):=by unfold bareV; rw [if_neg h1]
  rw [hbv]
  go_wp2_with fail
  go_ret
  refine ⟨_,rfl,?_,o1⟩
  rw [hX.out,orE_left h1]
  exact .num h1

theorem classesE_drop (p : List En) (l : List Cl) (j : Nat) (h : j < l.length) : classesE p j (l.drop j) = if (classE p l[j]).2.2.2 = 0 then classesE p (j + 1) (l.drop (j + 1)) else inC j (classE p l[j]):=by
 rw [List.drop_eq_getElem_cons h,classesE]

theorem twiceE_drop (l : List Cl) (j : Nat) (h : j < l.length) : twiceE (l.take j) (l.drop j) = if (l.take j).any (fun d=>decide (d.name = l[j].name)) = true then ((j : Int),0,0,20) else twiceE (l.take (j + 1)) (l.drop (j + 1)):=by
 rw [List.drop_eq_getElem_cons h,twiceE,List.take_succ_eq_append_getElem h,List.length_take,Nat.min_eq_left (by omega)]

set_option maxHeartbeats 8000000 in
theorem mcheck_any {w : World} (hg : Ety w) {P : Nat→Prop} (m : Mo) (hF : MoFit m) {vp vc : Value} (hM : MoAt (SlR w P) vp vc m) :
  Calls Tryz.prog 9 #[.agg #[vp,vc]] w fun e w'=>∃ v,e = .returned v∧EB w' w.heap.size v (checkM m)∧Only [] w w':=by
 obtain ⟨hp0,ccs,hc0,hce⟩:=hM
 have hp:=hp0
 obtain ⟨po,pc,pd,rfl,hp1⟩:=hp
 obtain ⟨co,cc,cd,rfl,hc1⟩:=hc0
 have lp : m.pool.length≤9223372036854775807:=by have:=hp1.le; have:=hp1.max; omega
 have o0:=(Only.refl [] w).alloc (.cells #[.slice po m.pool.length pc,.slice co m.classes.length cc] 32)
 have b0 : (w.alloc (.cells #[.slice po m.pool.length pc,.slice co m.classes.length cc] 32)).cell? ⟨w.heap.size,0,none⟩ = some (.slice po m.pool.length pc):=by rw [cell_new]; rfl
 have b1 : (w.alloc (.cells #[.slice po m.pool.length pc,.slice co m.classes.length cc] 32)).cell? ⟨w.heap.size,1,none⟩ = some (.slice co m.classes.length cc):=by rw [cell_new]; rfl
 have HP:=pcheck_any (cap:=pc) (ES.of_rs (hp1.rs.only0 o0)) lp hF.pool
 have HC:=fun W (hW : Only [] w W) (c : Cl) (hc : c∈m.classes) (vf vd vm : Value) (ha : ClAt (SlR w P) vf vd vm c)=>checkClass_any (hg.only0 hW) (P:=P) (Q:=P) c (hF.classes c hc) (ha.only hW (by simp)) (SlV.only hp0 hW (by simp)) hF.pool
 have HR:=fun W (hW : Only [] w W)=>hc1.rs.only0 hW
 have hle:=hc1.le
 have hmx:=hc1.max
 have hsl:=slice_hiG elCl Tryz.underlying30 co m.classes.length cc
 have hpos : w.heap.size < (w.alloc (.cells #[.slice po m.pool.length pc,.slice co m.classes.length cc] 32)).heap.size:=by simp
 obtain ⟨X,hX⟩ : ∃ X,X = checkM m:=⟨_,rfl⟩
 rw [← hX]
 unfold checkM at hX
 generalize checkE m.pool = ce at *
 obtain ⟨ca,ce⟩:=ce
 simp only at hX HP
 clear hp0 hp1 hc1 hF lp
 obtain ⟨pool,l⟩:=m
 simp only at *
 replace HP:=hid HP
 replace HC:=hid HC
 replace HR:=hid HR
 replace hX:=hid hX
 replace hce:=hid hce
 replace hsl:=hid hsl
 replace hpos:=hid hpos
 replace b0:=hid b0
 replace b1:=hid b1
 replace hg:=hid hg
 go_enter Tryz.func9,Tryz.ntmps9
 go_wp2_with fail
 refine HP.out.mono ?_
 rintro e w1 ⟨rfl,ho1⟩
 have o1:=hid (o0.next ho1 (by simp))
 have k0:=(ho1.cell (p:=⟨w.heap.size,0,none⟩) hpos.out (by simp)).trans b0.out
 have k1:=(ho1.cell (p:=⟨w.heap.size,1,none⟩) hpos.out (by simp)).trans b1.out
 by_cases h1 : ce = 0
 ·subst h1
  by_cases hmany : 64 < l.length
  ·have gm : (64 : Int) < (l.length : Int):=by omega
   go_wp2_with fail
   go_ret
   refine ⟨_,rfl,?_,o1.out.alloc _⟩
   rw [hX.out,orE_right rfl,if_pos hmany]
   exact .bad (by decide) o1.out.size (bad_new w1 0 0 0 4)
  have gm : ¬ (64 : Int) < (l.length : Int):=by omega
  rw [orE_right rfl,if_neg hmany] at hX
  have hlt64 : l.length≤64:=by omega
  have k0h:=hid k0
  have k1h:=hid k1
  go_wp2_with fail
  clear k0 k1 b0 b1 o0 hpos HP ho1
  go_loopw [33] (fun i wr=>∃ (j : Nat),j≤l.length∧i = .int .i64 (j : Int)∧Hid (X = orE (classesE pool j (l.drop j)) (twiceE [] l))∧Hid (wr.cell? ⟨w.heap.size,0,none⟩ = some (.slice po pool.length pc))∧Hid (wr.cell? ⟨w.heap.size,1,none⟩ = some (.slice co l.length cc))∧Hid (Only [] w wr)) (fun i _=>l.length - (intOf i).toNat)
  case atStart=>exact ⟨0,by omega,rfl,hX,k0h,k1h,o1⟩
  case round=>
   obtain ⟨j,hj,rfl,hq,y0,y1,ho⟩:=hrel
   clear hX k0h k1h o1
   by_cases hlt : j < l.length
   ·have g2 : ((j : Int) < (l.length : Int)):=by omega
    have hdr:=classesE_drop pool l j hlt
    obtain ⟨off,vf,vd,vm,rfl,hcl,c0,c1,c2,c3,c4,c5⟩:=cl_cells (HR.out _ ho.out) hce.out hlt
    have HC0:=HC.out _ (ho.out.alloc (.cells #[.int .i64 l[j].flags,.string (str l[j].name),.string (str l[j].super),vf,vd,vm] 28)) l[j] (List.getElem_mem hlt) vf vd vm hcl
    obtain ⟨fo,fc,_,rfl,_⟩:=hcl.faces
    obtain ⟨dO,dc,_,rfl,_⟩:=hcl.fields
    obtain ⟨_,⟨mo,mc,_,rfl,_⟩,_⟩:=hcl.methods
    unfold clV at HC0
    have a0:=cell_alloc (.cells #[.int .i64 l[j].flags,.string (str l[j].name),.string (str l[j].super),.slice fo l[j].faces.length fc,.slice dO l[j].fields.length dc,.slice mo l[j].methods.length mc] 28) y0.out
    have a1:=hid (cell_alloc (.cells #[.int .i64 l[j].flags,.string (str l[j].name),.string (str l[j].super),.slice fo l[j].faces.length fc,.slice dO l[j].fields.length dc,.slice mo l[j].methods.length mc] 28) y1.out)
    have oA:=hid (ho.out.alloc (.cells #[.int .i64 l[j].flags,.string (str l[j].name),.string (str l[j].super),.slice fo l[j].faces.length fc,.slice dO l[j].fields.length dc,.slice mo l[j].methods.length mc] 28))
    have hwb : Hid (w.heap.size < wr.heap.size):=World.block_lt_of_cell? wr _ y0.out
    clear hcl
    generalize l[j] = c at *
    generalize classE pool c = x at *
    replace HC0:=hid HC0
    have A0:=hid a0
    go_wp2_with fail
    refine HC0.out.mono ?_
    rintro e w2 ⟨v,rfl,hev,ho2⟩
    rcases hev.nil_iff with ⟨e1,rfl⟩ | ⟨e1,t,u,rfl⟩
    ·rw [if_pos e1] at hdr
     rw [hdr] at hq
     replace hdr:=hid hdr
     go_wp2_with fail
     refine ⟨⟨j + 1,by omega,by go_num,hq,hid ((ho2.cell (p:=⟨w.heap.size,0,none⟩) (by have:=hwb.out; simp; omega) (by simp)).trans A0.out),hid ((ho2.cell (p:=⟨w.heap.size,1,none⟩) (by have:=hwb.out; simp; omega) (by simp)).trans a1.out),hid (oA.out.next ho2 (by simp))⟩,by simp [intOf]; omega⟩
    ·rw [if_neg e1] at hdr
     rw [hdr,orE_left (by exact e1)] at hq
     have o2:=hid (oA.out.next ho2 (by simp))
     have HI:=hid (inClass_any (hg.out.only0 o2.out) (B:=wr.heap.size) (by have:=ho2.size; simp at this; omega) (hev.down (by simp)) e1 (j : Int))
     clear hdr
     go_wp2_with fail
     refine HI.out.mono ?_
     rintro e w3 ⟨p,hp,rfl,hb,ho3,hp3⟩
     go_wp2_with fail
     go_ret
     refine ⟨_,rfl,?_,o2.out.next ho3 (by simp; have:=hwb.out; omega)⟩
     rw [hq.out]
     exact .bad e1 (by have:=hwb.out; omega) hb
   ·have g2 : ¬ ((j : Int) < (l.length : Int)):=by omega
    rw [List.drop_eq_nil_of_le (by omega)] at hq
    have hq2 : Hid (X = twiceE (l.take 0) (l.drop 0)):=by rw [hq.out]; rfl
    have k1:=y1.out
    clear hq HC
    go_wp2_with fail
    clear k1
    go_loopw [51] (fun i wr=>∃ (j : Nat),j≤l.length∧i = .int .i64 (j : Int)∧Hid (X = twiceE (l.take j) (l.drop j))∧Hid (wr.cell? ⟨w.heap.size,1,none⟩ = some (.slice co l.length cc))∧Hid (Only [] w wr)) (fun i _=>l.length - (intOf i).toNat)
    case atStart=>exact ⟨0,by omega,rfl,hq2,y1,ho⟩
    case round=>
     obtain ⟨j',hj',rfl,hq,z1,ho'⟩:=hrel
     clear hq2 y0 y1 ho
     by_cases hlt : j' < l.length
     ·have g4 : ((j' : Int) < (l.length : Int)):=by omega
      have hdr:=twiceE_drop l j' hlt
      rw [← hq.out] at hdr
      have hR:=HR.out _ ho'.out
      obtain ⟨off,vf,vd,vm,rfl,hcl,c0,c1,c2,c3,c4,c5⟩:=cl_cells hR hce.out hlt
      obtain ⟨fo,fc,_,rfl,_⟩:=hcl.faces
      obtain ⟨dO,dc,_,rfl,_⟩:=hcl.fields
      obtain ⟨_,⟨mo,mc,_,rfl,_⟩,_⟩:=hcl.methods
      have oA:=hid ((Only.refl [] wr).alloc (.cells #[.int .i64 l[j'].flags,.string (str l[j'].name),.string (str l[j'].super),.slice fo l[j'].faces.length fc,.slice dO l[j'].fields.length dc,.slice mo l[j'].methods.length mc] 28))
      have hwb : Hid (w.heap.size < wr.heap.size):=World.block_lt_of_cell? wr _ z1.out
      have hlt2 : (l.take j').length = j':=by rw [List.length_take]; omega
      have HQ:=contains_cl (cap:=cc) ((hR.take (j' * 6)).only0 oA.out) (hce.out.take j' (by omega)) (by omega) wr.heap.size l[j'].name ((clBlk_new wr l[j'] _ _ _).c1)
      rw [hlt2] at HQ
      have ks:=hsl.out j' (by omega)
      have a1:=cell_alloc (.cells #[.int .i64 l[j'].flags,.string (str l[j'].name),.string (str l[j'].super),.slice fo l[j'].faces.length fc,.slice dO l[j'].fields.length dc,.slice mo l[j'].methods.length mc] 28) z1.out
      have A1:=hid a1
      clear hcl hR hlt2 hq
      generalize ((l.take j').any fun d=>decide (d.name = l[j'].name)) = z at *
      generalize l[j'] = c at *
      replace HQ:=hid HQ
      cases z with
      | true=>
       rw [if_pos rfl] at hdr
       go_wp2_with fail
       refine HQ.out.mono ?_
       rintro e w2 ⟨rfl,ho2⟩
       have o2:=hid (ho'.out.next (oA.out.next ho2 (by simp)) (by simp))
       have HI:=hid (inClass_any (hg.out.only0 o2.out) (B:=wr.heap.size) (by have:=ho2.size; simp at this; omega) (.num (e:=20) (by decide)) (by decide) (j' : Int))
       clear ks hsl
       go_wp2_with fail
       refine HI.out.mono ?_
       rintro e w3 ⟨p,hp,rfl,hb,ho3,hp3⟩
       go_wp2_with fail
       go_ret
       refine ⟨_,rfl,?_,o2.out.next ho3 (by simp; have:=hwb.out; omega)⟩
       rw [hdr]
       exact .bad (by simp) (by have:=hwb.out; omega) hb
      | false=>
       rw [if_neg (by simp)] at hdr
       replace hdr:=hid hdr
       go_wp2_with fail
       refine HQ.out.mono ?_
       rintro e w2 ⟨rfl,ho2⟩
       go_wp2_with fail
       refine ⟨⟨j' + 1,by omega,by go_num,hdr,hid ((ho2.cell (p:=⟨w.heap.size,1,none⟩) (by have:=hwb.out; simp; omega) (by simp)).trans A1.out),hid (ho'.out.next (oA.out.next ho2 (by simp)) (by simp))⟩,by simp [intOf]; omega⟩
     ·have g4 : ¬ ((j' : Int) < (l.length : Int)):=by omega
      rw [List.drop_eq_nil_of_le (by omega)] at hq
      go_wp2_with fail
      go_ret
      refine ⟨_,rfl,?_,ho'.out⟩
      rw [hq.out]
      exact .no rfl
 ·have ge : (ce == 0) = false:=by simpa using h1
  rw [orE_left (by exact h1),if_neg h1] at hX
  go_wp2_with fail
  go_ret
  refine ⟨_,rfl,?_,o1.out.alloc _⟩
  rw [hX.out]
  exact .bad h1 o1.out.size (bad_new w1 0 0 ca ce)

end Go.Proofs.YtildemmkhndhjaaGreatDoor
