/-
  What the proof leans on, part 33 of 48. The conditions stand in each theorem.
-/
import Derived.Test.YtildemmkhndhjaaGreatDoorB17
import Derived.Test.YtildemmkhndhjaaGreatDoorB22
import Derived.Test.YtildemmkhndhjaaGreatDoorB20
import Derived.Test.YtildemmkhndhjaaGreatDoorB27
import Derived.Test.YtildemmkhndhjaaGreatDoorB12
namespace Go.Proofs.YtildemmkhndhjaaGreatDoor
open Go.RowKit

set_option maxHeartbeats 4000000 in
theorem rows_fd {w : World} {sb r d : Nat} {t : St} (h : Sc w sb r d t) (most : Nat) (hmost : most≤100000) :
  Calls Tryz.prog 141 #[.pointer (some ⟨sb,0,none⟩),.func (.func 80) #[.pointer (some ⟨r,0,none⟩)] #[],.int .i64 (most : Int),.func (.func 142) #[.pointer (some ⟨sb,0,none⟩)] #[]] w
   fun e w'=>∃ (xs : List Fd) (t' : St) (ao : Option Addr) (cap : Nat),e = .returned (.slice ao xs.length cap)∧w'.ownsRow w.heap.size 44 4 (.slice ao xs.length cap) xs.length (fcs xs)∧(∀ x∈xs,(x.2.1.length≤262144∧x.2.2.2.length≤262144))∧xs.length≤65536∧Sc w' sb r d t'∧Out (pRows 1 most pField) t xs t'∧Only [sb,r] w w':=by
 have c0:=h.c0
 have hl:=hid h.lt
 have HA:=hid (sc_at h)
 have HU:=hid (sc_u1 h)
 clear h
 go_enter Tryz.func141,Tryz.ntmps141
 go_wp2_with fail
 refine HA.out.mono ?_
 rintro e w1 ⟨at_,rfl,hat,rfl⟩
 go_wp2_with fail
 refine HU.out.mono ?_
 rintro e w1 ⟨n,t0,rfl,hn,h0,hO,ho1⟩
 clear HA HU c0
 have o1 : Hid (Only [sb,r] w w1):=ho1.mono (by simp)
 replace hat:=hid hat
 replace hO:=hid hO
 by_cases hm : most < n
 ·have gm : (most : Int) < (n : Int):=by omega
  have HR:=hid (refuse_src h0 (at_ : Int) 4 (by decide))
  go_wp2_with fail
  refine HR.out.mono ?_
  rintro e w2 ⟨rfl,hS2,ho2⟩
  clear HR
  have hSt:=hid hS2
  have oSt:=hid (o1.out.trans ho2 (by simp))
  clear hS2 ho2 ho1 h0
  go_wp2_with fail
  go_loopw [11] (fun l wr=>∃ (xs : List Fd) (t1 : St) (ao : Option Addr) (cap : Nat),l = .slice ao xs.length cap∧xs.length≤n∧Hid (wr.ownsRow w.heap.size 44 4 (.slice ao xs.length cap) xs.length (fcs xs))∧Hid (xs = []→ao = none)∧Hid (∀ x∈xs,(x.2.1.length≤262144∧x.2.2.2.length≤262144))∧Hid (Sc wr sb r d t1)∧Hid ((most < n∧t1 = tRefuse (at_ : Int) 4 t0∧xs = [])∨(¬ most < n∧Far pField n t0 xs t1))∧Hid (Only [sb,r] w wr)) (fun l _=>n - sliceLen l)
  case atStart=>exact ⟨[],_,none,0,rfl,by simp,World.ownsRow_nil _ _ _ _,hid (fun _=>rfl),hid (by simp),hSt,hid (.inl ⟨hm,rfl,rfl⟩),oSt⟩
  case round=>
   obtain ⟨xs,t1,ao,cap,rfl,hxn,hown,hnil,hlen,hS,hF,hO1⟩:=hrel
   clear hSt oSt
   have HFi:=hid (fine_src hS.out)
   by_cases hlt : xs.length < n
   ·have g1 : ((xs.length : Int) < (n : Int)):=by omega
    cases hfi : isFine t1 with
    | true=>
     rw [hfi] at HFi
     have hFar : Hid (¬ most < n∧Far pField n t0 xs t1):=by
      rcases hF.out with ⟨_,h2,_⟩ | h2
      ·rw [h2] at hfi
       cases t0 <;> cases hfi
      ·exact h2
     have HR:=hid (rfield_any hS.out)
     unfold fdV at HR
     have c0:=hS.out.c0
     go_wp2_with fail
     refine HFi.out.mono ?_
     rintro e w2 ⟨rfl,rfl⟩
     go_wp2_with fail
     refine HR.out.mono ?_
     rintro e w2 ⟨x,t2,rfl,hxl,hS2,hOx,ho2⟩
     clear HR c0
     have hl1:=hl.out
     have hown2:=rows_only hown.out (ho2.alloc (.cells #[.int .i64 x.1,.string (str x.2.1),.int .i64 x.2.2.1,.string (str x.2.2.2)] 44)) (fun g hg=>by have:=(hown.out.lt g hg).1; simp; omega)
     have o2:=hid ((hO1.out.trans ho2 (by simp)).alloc (.cells #[.int .i64 x.1,.string (str x.2.1),.int .i64 x.2.2.1,.string (str x.2.2.2)] 44))
     have hR:=RS.fresh w2 #[.int .i64 x.1,.string (str x.2.1),.int .i64 x.2.2.1,.string (str x.2.2.2)] 44
     have hS3:=hid (hS2.only0 ((Only.refl [] w2).alloc (.cells #[.int .i64 x.1,.string (str x.2.1),.int .i64 x.2.2.1,.string (str x.2.2.2)] 44)))
     have hOw:=hid hown2
     go_wp2_with (at_builtin; refine wpList_append_any (ys:=fcs [x]) rfl (.tmp 33) (.tmp 36) elFd Tryz.underlying25 rfl rfl rfl hown2 hR rfl (by simp [fcs,fdC,Value.oneCell']) (by simp) (by omega) (by have:=o2.out.size; omega) ?_; rintro ao3 cap3 w3 hA3)
     have hfin : Hid (Sc w3 sb r d t2):=by
      cases xs with
      | nil=>
       have hno:=hnil.out rfl
       subst hno
       exact hS3.out.only0 hA3.only
      | cons y ys=>exact hS3.out.row hOw.out hA3 (by omega) (u:=.string (str y.2.1)) (by simp) (fun _=>.inr (.inl rfl))
     have o3:=hid (o2.out.next hA3.only (fun z hz=>by
      cases ao with
      | none=>simp [Value.ownBlock] at hz
      | some a=>
       simp [Value.ownBlock] at hz
       subst hz
       exact (hOw.out.lt a.block rfl).1))
     have hown3:=hA3.own
     have ee : fcs xs ++ fcs [x] = fcs (xs ++ [x]):=by simp [fcs]
     rw [ee] at hown3
     have hnone:=hA3.none
     go_wp2_with fail
     refine ⟨⟨xs ++ [x],t2,ao3,cap3,by simp,by simp; omega,by simpa [Hid] using hown3,hid (by simp),hid (by
      intro y hy
      rcases List.mem_append.1 hy with hy | hy
      ·exact hlen.out y hy
      ·rw [List.mem_singleton.1 hy]; exact hxl),hfin,hid (.inr ⟨hFar.out.1,far_step hFar.out.2 hfi hOx hlt⟩),o3⟩,by simp [sliceLen]; omega⟩
    | false=>
     rw [hfi] at HFi
     go_wp2_with fail
     refine HFi.out.mono ?_
     rintro e w2 ⟨rfl,rfl⟩
     go_wp2_with fail
     go_ret
     refine ⟨xs,t1,ao,cap,rfl,hown.out,(by first | exact hlen.out | (intros; exact hlen.out _ (by assumption))),by omega,hS.out,out_rows hO.out hat.out ?_,hO1.out⟩
     rcases hF.out with ⟨h1,h2,_⟩ | ⟨h1,h2⟩
     ·exact .inl ⟨h1,h2⟩
     ·exact .inr ⟨h1,h2,fun hf=>by rw [hfi] at hf; cases hf⟩
   ·have g1 : ¬ ((xs.length : Int) < (n : Int)):=by omega
    go_wp2_with fail
    go_ret
    refine ⟨xs,t1,ao,cap,rfl,hown.out,(by first | exact hlen.out | (intros; exact hlen.out _ (by assumption))),by omega,hS.out,out_rows hO.out hat.out ?_,hO1.out⟩
    rcases hF.out with ⟨h1,h2,_⟩ | ⟨h1,h2⟩
    ·exact .inl ⟨h1,h2⟩
    ·exact .inr ⟨h1,h2,fun _=>by omega⟩
 ·have gm : ¬ (most : Int) < (n : Int):=by omega
  have hSt:=hid h0
  have oSt:=o1
  clear ho1 h0
  go_wp2_with fail
  go_loopw [11] (fun l wr=>∃ (xs : List Fd) (t1 : St) (ao : Option Addr) (cap : Nat),l = .slice ao xs.length cap∧xs.length≤n∧Hid (wr.ownsRow w.heap.size 44 4 (.slice ao xs.length cap) xs.length (fcs xs))∧Hid (xs = []→ao = none)∧Hid (∀ x∈xs,(x.2.1.length≤262144∧x.2.2.2.length≤262144))∧Hid (Sc wr sb r d t1)∧Hid ((most < n∧t1 = tRefuse (at_ : Int) 4 t0∧xs = [])∨(¬ most < n∧Far pField n t0 xs t1))∧Hid (Only [sb,r] w wr)) (fun l _=>n - sliceLen l)
  case atStart=>exact ⟨[],_,none,0,rfl,by simp,World.ownsRow_nil _ _ _ _,hid (fun _=>rfl),hid (by simp),hSt,hid (.inr ⟨hm,far_start _ _ _⟩),oSt⟩
  case round=>
   obtain ⟨xs,t1,ao,cap,rfl,hxn,hown,hnil,hlen,hS,hF,hO1⟩:=hrel
   clear hSt oSt
   have HFi:=hid (fine_src hS.out)
   by_cases hlt : xs.length < n
   ·have g1 : ((xs.length : Int) < (n : Int)):=by omega
    cases hfi : isFine t1 with
    | true=>
     rw [hfi] at HFi
     have hFar : Hid (¬ most < n∧Far pField n t0 xs t1):=by
      rcases hF.out with ⟨_,h2,_⟩ | h2
      ·rw [h2] at hfi
       cases t0 <;> cases hfi
      ·exact h2
     have HR:=hid (rfield_any hS.out)
     unfold fdV at HR
     have c0:=hS.out.c0
     go_wp2_with fail
     refine HFi.out.mono ?_
     rintro e w2 ⟨rfl,rfl⟩
     go_wp2_with fail
     refine HR.out.mono ?_
     rintro e w2 ⟨x,t2,rfl,hxl,hS2,hOx,ho2⟩
     clear HR c0
     have hl1:=hl.out
     have hown2:=rows_only hown.out (ho2.alloc (.cells #[.int .i64 x.1,.string (str x.2.1),.int .i64 x.2.2.1,.string (str x.2.2.2)] 44)) (fun g hg=>by have:=(hown.out.lt g hg).1; simp; omega)
     have o2:=hid ((hO1.out.trans ho2 (by simp)).alloc (.cells #[.int .i64 x.1,.string (str x.2.1),.int .i64 x.2.2.1,.string (str x.2.2.2)] 44))
     have hR:=RS.fresh w2 #[.int .i64 x.1,.string (str x.2.1),.int .i64 x.2.2.1,.string (str x.2.2.2)] 44
     have hS3:=hid (hS2.only0 ((Only.refl [] w2).alloc (.cells #[.int .i64 x.1,.string (str x.2.1),.int .i64 x.2.2.1,.string (str x.2.2.2)] 44)))
     have hOw:=hid hown2
     go_wp2_with (at_builtin; refine wpList_append_any (ys:=fcs [x]) rfl (.tmp 33) (.tmp 36) elFd Tryz.underlying25 rfl rfl rfl hown2 hR rfl (by simp [fcs,fdC,Value.oneCell']) (by simp) (by omega) (by have:=o2.out.size; omega) ?_; rintro ao3 cap3 w3 hA3)
     have hfin : Hid (Sc w3 sb r d t2):=by
      cases xs with
      | nil=>
       have hno:=hnil.out rfl
       subst hno
       exact hS3.out.only0 hA3.only
      | cons y ys=>exact hS3.out.row hOw.out hA3 (by omega) (u:=.string (str y.2.1)) (by simp) (fun _=>.inr (.inl rfl))
     have o3:=hid (o2.out.next hA3.only (fun z hz=>by
      cases ao with
      | none=>simp [Value.ownBlock] at hz
      | some a=>
       simp [Value.ownBlock] at hz
       subst hz
       exact (hOw.out.lt a.block rfl).1))
     have hown3:=hA3.own
     have ee : fcs xs ++ fcs [x] = fcs (xs ++ [x]):=by simp [fcs]
     rw [ee] at hown3
     have hnone:=hA3.none
     go_wp2_with fail
     refine ⟨⟨xs ++ [x],t2,ao3,cap3,by simp,by simp; omega,by simpa [Hid] using hown3,hid (by simp),hid (by
      intro y hy
      rcases List.mem_append.1 hy with hy | hy
      ·exact hlen.out y hy
      ·rw [List.mem_singleton.1 hy]; exact hxl),hfin,hid (.inr ⟨hFar.out.1,far_step hFar.out.2 hfi hOx hlt⟩),o3⟩,by simp [sliceLen]; omega⟩
    | false=>
     rw [hfi] at HFi
     go_wp2_with fail
     refine HFi.out.mono ?_
     rintro e w2 ⟨rfl,rfl⟩
     go_wp2_with fail
     go_ret
     refine ⟨xs,t1,ao,cap,rfl,hown.out,(by first | exact hlen.out | (intros; exact hlen.out _ (by assumption))),by omega,hS.out,out_rows hO.out hat.out ?_,hO1.out⟩
     rcases hF.out with ⟨h1,h2,_⟩ | ⟨h1,h2⟩
     ·exact .inl ⟨h1,h2⟩
     ·exact .inr ⟨h1,h2,fun hf=>by rw [hfi] at hf; cases hf⟩
   ·have g1 : ¬ ((xs.length : Int) < (n : Int)):=by omega
    go_wp2_with fail
    go_ret
    refine ⟨xs,t1,ao,cap,rfl,hown.out,(by first | exact hlen.out | (intros; exact hlen.out _ (by assumption))),by omega,hS.out,out_rows hO.out hat.out ?_,hO1.out⟩
    rcases hF.out with ⟨h1,h2,_⟩ | ⟨h1,h2⟩
    ·exact .inl ⟨h1,h2⟩
    ·exact .inr ⟨h1,h2,fun _=>by omega⟩


theorem WTo.alloc {w0 w : World} {B p g : Nat} {s : List UInt8 × Int} (h : WTo w0 B p g w s) (o : Obj) : WTo w0 B p g (w.alloc o) s:=by
 obtain ⟨g',h1,h2,h3⟩:=h
 exact ⟨g',h1.only ((Only.refl [] w).alloc o) (by simp) (by simp),h2,h3.alloc o⟩

theorem WTo.only {w0 w : World} {B p g : Nat} {s : List UInt8 × Int} (h : WTo w0 B p g w s) : Only [p,g] w0 w:=h.choose_spec.2.2

/-- A call that goes on from where a writer came to. -/
theorem WTo.step {w0 w : World} {B p g : Nat} {s s' : List UInt8 × Int} (h : WTo w0 B p g w s) {f : FuncId} {args : Array Value} (hc : ∀ g',WrE w B p g' s→(g' = g∨w0.heap.size≤g')→Calls Tryz.prog f args w fun e w'=>e = .returned (.tuple #[])∧WTo w B p g' w' s') :
  Calls Tryz.prog f args w fun e w'=>e = .returned (.tuple #[])∧WTo w0 B p g w' s':=by
 obtain ⟨g',h1,h2,h3⟩:=h
 exact (hc g' h1 h2).mono fun _ _ h=>⟨h.1,wto_trans h3 h2 h.2⟩

/-- The same, where a block was laid ahead of the call. -/
theorem WTo.step1 {w0 w : World} {B p g : Nat} {s s' : List UInt8 × Int} (h : WTo w0 B p g w s) (o : Obj) {f : FuncId} {args : Array Value} (hc : ∀ g',WrE (w.alloc o) B p g' s→g' < w.heap.size→p < w.heap.size→Calls Tryz.prog f args (w.alloc o) fun e w'=>e = .returned (.tuple #[])∧WTo (w.alloc o) B p g' w' s') :
  Calls Tryz.prog f args (w.alloc o) fun e w'=>e = .returned (.tuple #[])∧WTo w0 B p g w' s':=by
 obtain ⟨g',h1,h2,h3⟩:=h
 have hl:=h1.lt
 exact (hc g' (h1.only ((Only.refl [] w).alloc o) (by simp) (by simp)) hl.2.1 hl.1).mono fun _ _ h=>⟨h.1,wto_trans (h3.alloc o) h2 h.2⟩

theorem wAll_fit {k : Nat} (enc : Int→List UInt8) (he : ∀ n,enc n = toBE n.toNat k) : ∀ (ns : List Int) (out : List UInt8),(∀ n∈ns,0≤n∧n < (256 : Int) ^ k)→wAll k (out,0) ns = (out ++ ns.flatMap enc,0):=by
 intro ns
 induction ns with
 | nil=>intro out _; simp [wAll]
 | cons n ns ih=>
  intro out h
  have hn:=h n (by simp)
  have h1 : wOne k (out,0) n = (out ++ enc n,0):=by
   unfold wOne
   rw [if_pos rfl,if_neg (by omega),he]
  have:=ih (out ++ enc n) fun x hx=>h x (by simp [hx])
  unfold wAll at this ⊢
  rw [List.foldl_cons,h1,this,List.flatMap_cons,List.append_assoc]

theorem e1_be (n : Int) : e1 n = toBE n.toNat 1:=by simp [e1,toBE]
theorem e2_be (n : Int) : e2 n = toBE n.toNat 2:=rfl

theorem wTx_fit : ∀ (ss : List (List UInt8)) (out : List UInt8),(∀ s∈ss,s.length≤255)→wTx (out,0) (ss.map str) = (out ++ ss.flatMap eT,0):=by
 intro ss
 induction ss with
 | nil=>intro out _; simp [wTx]
 | cons s ss ih=>
  intro out h
  have hs:=h s (by simp)
  have h1 : wTx1 (out,0) (str s) = (out ++ eT s,0):=by
   unfold wTx1
   rw [if_pos rfl,if_neg (by rw [str_size]; omega),str_size,str_data]
   rfl
  have:=ih (out ++ eT s) fun x hx=>h x (by simp [hx])
  unfold wTx at this ⊢
  rw [List.map_cons,List.foldl_cons,h1,this,List.flatMap_cons,List.append_assoc]

theorem nx_new (w : World) (k : IntKind) (ns : List Int) (t : TypeId) : NX k (w.alloc (.cells (ns.map fun n=>Value.int k n).toArray t)) (some ⟨w.heap.size,0,none⟩) ns w.heap.size:=
 .inr ⟨0,rfl,fun j hj=>by rw [Nat.zero_add,cell_new]; simp [hj]⟩

theorem sx_new (w : World) (ss : List (List UInt8)) (t : TypeId) : SX (w.alloc (.cells (ss.map fun s=>Value.string (str s)).toArray t)) (some ⟨w.heap.size,0,none⟩) (ss.map str) w.heap.size:=
 .inr ⟨0,rfl,fun j hj=>by
  have hj' : j < ss.length:=by simpa using hj
  rw [Nat.zero_add,cell_new]
  simp [hj']⟩

theorem bs_of_rs {w : World} {ao : Option Addr} {bs : List UInt8} {d : Nat} (h : RS w ao (bcs bs) d) : BS w ao bs d:=by
 rcases h with h | ⟨off,ha,hc⟩
 ·left
  cases bs with
  | nil=>rfl
  | cons b l=>simp [bcs] at h
 ·exact .inr ⟨off,ha,fun j hj=>hc j _ (bcs_get bs j hj)⟩

theorem sx_of_rs {w : World} {ao : Option Addr} {ss : List (List UInt8)} {d : Nat} (h : RS w ao (scs ss) d) : SX w ao (ss.map str) d:=by
 rcases h with h | ⟨off,ha,hc⟩
 ·left
  cases ss with
  | nil=>rfl
  | cons b l=>simp [scs,scC] at h
 ·refine .inr ⟨off,ha,fun j hj=>?_⟩
  have hj' : j < ss.length:=by simpa using hj
  rw [hc j _ (scs_get ss j hj')]
  simp

/-- U1 of numbers. -/
theorem u1_lift {w0 w : World} {B p g : Nat} {out : List UInt8} (h : WTo w0 B p g w (out,0)) (ns : List Int) (hn : ∀ n∈ns,0≤n∧n < 256) (hsz : out.length + ns.length≤200000000000000) :
  Calls Tryz.prog 61 #[.pointer (some ⟨p,0,none⟩),.slice (some ⟨w.heap.size,0,none⟩) ns.length ns.length] (w.alloc (.cells (ns.map fun n=>Value.int .i64 n).toArray 3)) fun e w'=>e = .returned (.tuple #[])∧WTo w0 B p g w' (out ++ ns.flatMap e1,0):=by
 rw [← wAll_fit e1 e1_be ns out (by simpa using hn)]
 exact h.step1 _ fun g' hw hg hp=>wu1_any hw (nx_new w .i64 ns 3) (fun _=>by simp; omega) (by simp only; omega)

theorem u2_lift {w0 w : World} {B p g : Nat} {out : List UInt8} (h : WTo w0 B p g w (out,0)) (ns : List Int) (hn : ∀ n∈ns,0≤n∧n < 65536) (hsz : out.length + 2 * ns.length≤200000000000000) :
  Calls Tryz.prog 59 #[.pointer (some ⟨p,0,none⟩),.slice (some ⟨w.heap.size,0,none⟩) ns.length ns.length] (w.alloc (.cells (ns.map fun n=>Value.int .i64 n).toArray 3)) fun e w'=>e = .returned (.tuple #[])∧WTo w0 B p g w' (out ++ ns.flatMap e2,0):=by
 rw [← wAll_fit e2 e2_be ns out (by simpa using hn)]
 exact h.step1 _ fun g' hw hg hp=>wu2_any hw (nx_new w .i64 ns 3) (fun _=>by simp; omega) (by simp only; omega)

theorem n8_lift {w0 w : World} {B p g : Nat} {out : List UInt8} (h : WTo w0 B p g w (out,0)) (n : Int) (hsz : out.length + 8≤200000000000000) :
  Calls Tryz.prog 130 #[.pointer (some ⟨p,0,none⟩),.slice (some ⟨w.heap.size,0,none⟩) 1 1] (w.alloc (.cells #[.int .i64 n] 2)) fun e w'=>e = .returned (.tuple #[])∧WTo w0 B p g w' (out ++ e8 n,0):=by
 have e : wN8 (out,0) [n] = (out ++ e8 n,0):=by simp [wN8,wPut,e8]
 rw [← e]
 exact h.step1 _ fun g' hw hg hp=>wn8_any (ns:=[n]) hw (nx_new w .i64 [n] 2) (fun _=>by simp; omega) (by simp only [List.length_singleton]; omega)

theorem tx_lift {w0 w : World} {B p g : Nat} {out : List UInt8} (h : WTo w0 B p g w (out,0)) (ss : List (List UInt8)) (hs : ∀ s∈ss,s.length≤255) (hsz : out.length + 256 * ss.length≤200000000000000) :
  Calls Tryz.prog 129 #[.pointer (some ⟨p,0,none⟩),.slice (some ⟨w.heap.size,0,none⟩) ss.length ss.length] (w.alloc (.cells (ss.map fun s=>Value.string (str s)).toArray 9)) fun e w'=>e = .returned (.tuple #[])∧WTo w0 B p g w' (out ++ ss.flatMap eT,0):=by
 rw [← wTx_fit ss out hs]
 have:=h.step1 (s':=wTx (out,0) (ss.map str)) (.cells (ss.map fun s=>Value.string (str s)).toArray 9) (f:=129) (args:=#[.pointer (some ⟨p,0,none⟩),.slice (some ⟨w.heap.size,0,none⟩) (ss.map str).length ss.length]) fun g' hw hg hp=>
  wtext_any hw (sx_new w ss 9) (fun _=>by simp; omega) (by simp only [List.length_map]; omega) (fun b hb=>by
   obtain ⟨s,hs',rfl⟩:=List.mem_map.1 hb
   rw [str_size]
   have:=hs s hs'
   omega)
 rwa [List.length_map] at this

theorem txs_lift {w0 w : World} {B p g : Nat} {out : List UInt8} (h : WTo w0 B p g w (out,0)) {ao : Option Addr} {cap d : Nat} (ss : List (List UInt8)) (hR : RS w ao (scs ss) d) (hd : scs ss≠[]→d < B) (hs : ∀ s∈ss,s.length≤255) (hsz : out.length + 256 * ss.length≤200000000000000) :
  Calls Tryz.prog 129 #[.pointer (some ⟨p,0,none⟩),.slice ao ss.length cap] w fun e w'=>e = .returned (.tuple #[])∧WTo w0 B p g w' (out ++ ss.flatMap eT,0):=by
 rw [← wTx_fit ss out hs]
 have:=h.step (s':=wTx (out,0) (ss.map str)) (f:=129) (args:=#[.pointer (some ⟨p,0,none⟩),.slice ao (ss.map str).length cap]) fun g' hw hg=>
  wtext_any hw (sx_of_rs hR) (fun hne=>by
   have:=hd (fun e=>hne (by cases ss with | nil=>rfl | cons a l=>simp [scs,scC] at e))
   have:=hw.lt
   simp
   omega) (by simp only [List.length_map]; omega) (fun b hb=>by
   obtain ⟨s,hs',rfl⟩:=List.mem_map.1 hb
   rw [str_size]
   have:=hs s hs'
   omega)
 rwa [List.length_map] at this

theorem bytes_lift {w0 w : World} {B p g : Nat} {out : List UInt8} (h : WTo w0 B p g w (out,0)) {ao : Option Addr} {cap d : Nat} {bs : List UInt8} (hR : RS w ao (bcs bs) d) (hn : ao = none→cap = 0) (hsz : out.length + bs.length≤200000000000000) :
  Calls Tryz.prog 58 #[.pointer (some ⟨p,0,none⟩),.slice ao bs.length cap] w fun e w'=>e = .returned (.tuple #[])∧WTo w0 B p g w' (out ++ bs,0):=by
 have e : wPut (out,0) bs = (out ++ bs,0):=by simp [wPut]
 rw [← e]
 exact h.step fun g' hw hg=>wbytes_any hw (bs_of_rs hR) hn (by simp only; omega)


def tgV (p : Nat) : Value:=.agg #[.pointer (some ⟨p,0,none⟩)]

/-- A box of a call that writes stays as it is. -/
theorem WTo.box {w1 w : World} {B p g : Nat} {s : List UInt8 × Int} (h : WTo w1 B p g w s) {b i : Nat} {v : Value} (hb : w1.cell? ⟨b,i,none⟩ = some v) (hp : b≠p) (hg : b≠g) : w.cell? ⟨b,i,none⟩ = some v:=
 (h.only.cell (p:=⟨b,i,none⟩) (World.block_lt_of_cell? w1 _ hb) (by simp [hp,hg])).trans hb

theorem box2 (w : World) (cs : Array Value) (t : TypeId) (o : Obj) {i : Nat} {v : Value} (h : cs[i]? = some v) : ((w.alloc o).alloc (.cells cs t)).cell? ⟨w.heap.size + 1,i,none⟩ = some v:=by
 have:=cell_new (w.alloc o) cs t i
 rw [World.size_alloc] at this
 rw [this,h]

theorem box1 (w : World) (cs : Array Value) (t : TypeId) (o : Obj) {i : Nat} {v : Value} (h : cs[i]? = some v) : ((w.alloc (.cells cs t)).alloc o).cell? ⟨w.heap.size,i,none⟩ = some v:=
 cell_alloc _ (by rw [cell_new,h])

set_option maxHeartbeats 4000000 in
theorem wentry_any {w : World} {B p g : Nat} {out : List UInt8} (h : WrE w B p g (out,0)) (e : En) (he : EnGood e) (hsz : out.length≤100000000000000) :
  Calls Tryz.prog 60 #[tgV p,enV e] w fun r w'=>r = .returned (.tuple #[])∧WTo w B p g w' (out ++ encEn e,0):=by
 obtain ⟨k,s,nn,a,b,c⟩:=e
 obtain ⟨hk,_,ht,_,ha,hb,hc⟩:=he
 simp only at hk ht ha hb hc
 unfold enV encEn
 simp only
 have hl:=h.lt
 have hT1:=WTo.refl (h.only (((Only.refl [] w).alloc (.cells #[.pointer (some ⟨p,0,none⟩)] 76)).alloc (.cells #[.int .i64 k,.string (str s),.int .i64 nn,.int .i64 a,.int .i64 b,.int .i64 c] 90)) (by simp) (by simp))
 have hO:=hid (((Only.refl [p,g] w).alloc (.cells #[.pointer (some ⟨p,0,none⟩)] 76)).alloc (.cells #[.int .i64 k,.string (str s),.int .i64 nn,.int .i64 a,.int .i64 b,.int .i64 c] 90))
 have q:=box1 w #[.pointer (some ⟨p,0,none⟩)] 76 (.cells #[.int .i64 k,.string (str s),.int .i64 nn,.int .i64 a,.int .i64 b,.int .i64 c] 90) (i:=0) rfl
 have q0:=box2 w #[.int .i64 k,.string (str s),.int .i64 nn,.int .i64 a,.int .i64 b,.int .i64 c] 90 (.cells #[.pointer (some ⟨p,0,none⟩)] 76) (i:=0) rfl
 have q1:=box2 w #[.int .i64 k,.string (str s),.int .i64 nn,.int .i64 a,.int .i64 b,.int .i64 c] 90 (.cells #[.pointer (some ⟨p,0,none⟩)] 76) (i:=1) rfl
 have q2:=box2 w #[.int .i64 k,.string (str s),.int .i64 nn,.int .i64 a,.int .i64 b,.int .i64 c] 90 (.cells #[.pointer (some ⟨p,0,none⟩)] 76) (i:=2) rfl
 have q3:=box2 w #[.int .i64 k,.string (str s),.int .i64 nn,.int .i64 a,.int .i64 b,.int .i64 c] 90 (.cells #[.pointer (some ⟨p,0,none⟩)] 76) (i:=3) rfl
 have q4:=box2 w #[.int .i64 k,.string (str s),.int .i64 nn,.int .i64 a,.int .i64 b,.int .i64 c] 90 (.cells #[.pointer (some ⟨p,0,none⟩)] 76) (i:=4) rfl
 have q5:=box2 w #[.int .i64 k,.string (str s),.int .i64 nn,.int .i64 a,.int .i64 b,.int .i64 c] 90 (.cells #[.pointer (some ⟨p,0,none⟩)] 76) (i:=5) rfl
 have Q:=hid (And.intro q ((And.intro q0 (And.intro q1 (And.intro q2 (And.intro q3 (And.intro q4 q5)))))))
 clear q q0 q1 q2 q3 q4 q5
 have hp1 : w.heap.size≠p:=by omega
 have hg1 : w.heap.size≠g:=by omega
 have hp2 : w.heap.size + 1≠p:=by omega
 have hg2 : w.heap.size + 1≠g:=by omega
 unfold tgV
 have HU:=u1_lift hT1 [k] (by simp; omega) (by simp; omega)
 simp only [World.size_alloc] at HU
 simp only [List.map_cons,List.map_nil,List.length_cons,List.length_nil,Nat.zero_add,List.flatMap_cons,List.flatMap_nil,List.append_nil] at HU
 replace HU:=hid HU
 clear hT1
 by_cases k1 : k = 1
 ·subst k1
  rw [if_pos rfl]
  go_enter Tryz.func60,Tryz.ntmps60
  obtain ⟨q,q0,q1,q2,q3,q4,q5⟩:=Q.out
  go_wp2_with fail
  refine HU.out.mono ?_
  rintro e w2 ⟨rfl,hT2⟩
  obtain ⟨q,q0,q1,q2,q3,q4,q5⟩:=Q.out
  replace q:=hT2.box q hp1 hg1
  replace q0:=hT2.box q0 hp2 hg2
  replace q1:=hT2.box q1 hp2 hg2
  replace q2:=hT2.box q2 hp2 hg2
  replace q3:=hT2.box q3 hp2 hg2
  replace q4:=hT2.box q4 hp2 hg2
  replace q5:=hT2.box q5 hp2 hg2
  clear HU
  have HV:=tx_lift hT2 [s] (by simpa using ht) (by simp [e1]; omega)
  simp only [List.map_cons,List.map_nil,List.length_cons,List.length_nil,Nat.zero_add,List.flatMap_cons,List.flatMap_nil,List.append_nil] at HV
  replace HV:=hid HV
  go_wp2_with fail
  refine HV.out.mono ?_
  rintro e w3 ⟨rfl,hT3⟩
  go_wp2_with fail
  go_end0
  refine ⟨rfl,?_⟩
  have:=wto_trans hO.out (.inl rfl) hT3
  rwa [List.append_assoc] at this
 have k1' : (k == 1) = false:=by simpa using k1
 rw [if_neg k1]
 by_cases k2 : k = 2
 ·subst k2
  rw [if_pos rfl]
  go_enter Tryz.func60,Tryz.ntmps60
  obtain ⟨q,q0,q1,q2,q3,q4,q5⟩:=Q.out
  go_wp2_with fail
  refine HU.out.mono ?_
  rintro e w2 ⟨rfl,hT2⟩
  obtain ⟨q,q0,q1,q2,q3,q4,q5⟩:=Q.out
  replace q:=hT2.box q hp1 hg1
  replace q0:=hT2.box q0 hp2 hg2
  replace q1:=hT2.box q1 hp2 hg2
  replace q2:=hT2.box q2 hp2 hg2
  replace q3:=hT2.box q3 hp2 hg2
  replace q4:=hT2.box q4 hp2 hg2
  replace q5:=hT2.box q5 hp2 hg2
  clear HU
  have HV:=hid (n8_lift hT2 nn (by simp [e1]; omega))
  go_wp2_with fail
  refine HV.out.mono ?_
  rintro e w3 ⟨rfl,hT3⟩
  go_wp2_with fail
  go_end0
  refine ⟨rfl,?_⟩
  have:=wto_trans hO.out (.inl rfl) hT3
  rwa [List.append_assoc] at this
 have k2' : (k == 2) = false:=by simpa using k2
 rw [if_neg k2]
 by_cases k3 : k = 3∨k = 4
 ·rw [if_pos k3]
  rcases k3 with rfl | rfl
  all_goals
   go_enter Tryz.func60,Tryz.ntmps60
   obtain ⟨q,q0,q1,q2,q3,q4,q5⟩:=Q.out
   go_wp2_with fail
   refine HU.out.mono ?_
   rintro e w2 ⟨rfl,hT2⟩
   obtain ⟨q,q0,q1,q2,q3,q4,q5⟩:=Q.out
   replace q:=hT2.box q hp1 hg1
   replace q0:=hT2.box q0 hp2 hg2
   replace q1:=hT2.box q1 hp2 hg2
   replace q2:=hT2.box q2 hp2 hg2
   replace q3:=hT2.box q3 hp2 hg2
   replace q4:=hT2.box q4 hp2 hg2
   replace q5:=hT2.box q5 hp2 hg2
   clear HU
   have HV:=u2_lift hT2 [a] (by simpa using ha) (by simp [e1]; omega)
   simp only [List.map_cons,List.map_nil,List.length_cons,List.length_nil,Nat.zero_add,List.flatMap_cons,List.flatMap_nil,List.append_nil] at HV
   replace HV:=hid HV
   go_wp2_with fail
   refine HV.out.mono ?_
   rintro e w3 ⟨rfl,hT3⟩
   go_wp2_with fail
   go_end0
   refine ⟨rfl,?_⟩
   have:=wto_trans hO.out (.inl rfl) hT3
   rwa [List.append_assoc] at this
 ·rw [if_neg k3]
  have k5 : k = 5∨k = 6:=by omega
  clear k3 k1 k2 k1' k2'
  rcases k5 with rfl | rfl
  all_goals
   go_enter Tryz.func60,Tryz.ntmps60
   obtain ⟨q,q0,q1,q2,q3,q4,q5⟩:=Q.out
   go_wp2_with fail
   refine HU.out.mono ?_
   rintro e w2 ⟨rfl,hT2⟩
   obtain ⟨q,q0,q1,q2,q3,q4,q5⟩:=Q.out
   replace q:=hT2.box q hp1 hg1
   replace q0:=hT2.box q0 hp2 hg2
   replace q1:=hT2.box q1 hp2 hg2
   replace q2:=hT2.box q2 hp2 hg2
   replace q3:=hT2.box q3 hp2 hg2
   replace q4:=hT2.box q4 hp2 hg2
   replace q5:=hT2.box q5 hp2 hg2
   clear HU
   have HV:=u2_lift hT2 [a,b,c] (by simp; omega) (by simp [e1]; omega)
   simp only [List.map_cons,List.map_nil,List.length_cons,List.length_nil,Nat.zero_add,List.flatMap_cons,List.flatMap_nil,List.append_nil,Nat.reduceAdd] at HV
   replace HV:=hid HV
   go_wp2_with fail
   refine HV.out.mono ?_
   rintro e w3 ⟨rfl,hT3⟩
   go_wp2_with fail
   go_end0
   refine ⟨rfl,?_⟩
   have:=wto_trans hO.out (.inl rfl) hT3
   rwa [List.append_assoc] at this

set_option maxHeartbeats 4000000 in
theorem wfield_any {w : World} {B p g : Nat} {out : List UInt8} (h : WrE w B p g (out,0)) (f : Fd) (hf : FdGood f) (hsz : out.length≤100000000000000) :
  Calls Tryz.prog 131 #[tgV p,fdV f] w fun r w'=>r = .returned (.tuple #[])∧WTo w B p g w' (out ++ encFd f,0):=by
 obtain ⟨k,s,td,tn⟩:=f
 obtain ⟨hk,hs,ht⟩:=hf
 simp only at hk hs ht
 unfold fdV encFd
 simp only
 have hl:=h.lt
 have hT1:=WTo.refl (h.only (((Only.refl [] w).alloc (.cells #[.pointer (some ⟨p,0,none⟩)] 76)).alloc (.cells #[.int .i64 k,.string (str s),.int .i64 td,.string (str tn)] 44)) (by simp) (by simp))
 have hO:=hid (((Only.refl [p,g] w).alloc (.cells #[.pointer (some ⟨p,0,none⟩)] 76)).alloc (.cells #[.int .i64 k,.string (str s),.int .i64 td,.string (str tn)] 44))
 have q:=box1 w #[.pointer (some ⟨p,0,none⟩)] 76 (.cells #[.int .i64 k,.string (str s),.int .i64 td,.string (str tn)] 44) (i:=0) rfl
 have q0:=box2 w #[.int .i64 k,.string (str s),.int .i64 td,.string (str tn)] 44 (.cells #[.pointer (some ⟨p,0,none⟩)] 76) (i:=0) rfl
 have q1:=box2 w #[.int .i64 k,.string (str s),.int .i64 td,.string (str tn)] 44 (.cells #[.pointer (some ⟨p,0,none⟩)] 76) (i:=1) rfl
 have q2:=box2 w #[.int .i64 k,.string (str s),.int .i64 td,.string (str tn)] 44 (.cells #[.pointer (some ⟨p,0,none⟩)] 76) (i:=2) rfl
 have q3:=box2 w #[.int .i64 k,.string (str s),.int .i64 td,.string (str tn)] 44 (.cells #[.pointer (some ⟨p,0,none⟩)] 76) (i:=3) rfl
 have Q:=hid (And.intro q ((And.intro q0 (And.intro q1 (And.intro q2 q3)))))
 clear q q0 q1 q2 q3
 have hp1 : w.heap.size≠p:=by omega
 have hg1 : w.heap.size≠g:=by omega
 have hp2 : w.heap.size + 1≠p:=by omega
 have hg2 : w.heap.size + 1≠g:=by omega
 unfold tgV
 have HK:=typeText_any (td,tn) (by have:=(check_fit ht).2.2; omega) (((w.alloc (.cells #[.pointer (some ⟨p,0,none⟩)] 76)).alloc (.cells #[.int .i64 k,.string (str s),.int .i64 td,.string (str tn)] 44)))
 have hL:=tyText_len ht
 have htt : ttR (td,tn) = tyText (td,tn):=by unfold ttR; rw [if_pos ht]
 rw [htt] at HK
 generalize tyText (td,tn) = tx at *
 unfold tyV at HK
 replace HK:=hid HK
 go_enter Tryz.func131,Tryz.ntmps131
 obtain ⟨q,q0,q1,q2,q3⟩:=Q.out
 go_wp2_with fail
 refine HK.out.mono ?_
 rintro e w1 ⟨rfl,ho1⟩
 have hT2 : WTo ((w.alloc (.cells #[.pointer (some ⟨p,0,none⟩)] 76)).alloc (.cells #[.int .i64 k,.string (str s),.int .i64 td,.string (str tn)] 44)) B p g w1 (out,0):=by
  obtain ⟨g',hw',hg',ho'⟩:=hT1
  exact ⟨g',hw'.only ho1 (by simp) (by simp),hg',ho'.next ho1 (by simp)⟩
 obtain ⟨q,q0,q1,q2,q3⟩:=Q.out
 replace q:=hT2.box q hp1 hg1
 replace q0:=hT2.box q0 hp2 hg2
 replace q1:=hT2.box q1 hp2 hg2
 replace q2:=hT2.box q2 hp2 hg2
 replace q3:=hT2.box q3 hp2 hg2
 have HU:=u1_lift hT2 [k] (by simp; omega) (by simp; omega)
 simp only [List.map_cons,List.map_nil,List.length_cons,List.length_nil,Nat.zero_add,List.flatMap_cons,List.flatMap_nil,List.append_nil] at HU
 replace HU:=hid HU
 go_wp2_with fail
 refine HU.out.mono ?_
 rintro e w2 ⟨rfl,hT3⟩
 obtain ⟨q,q0,q1,q2,q3⟩:=Q.out
 replace q:=hT3.box q hp1 hg1
 replace q0:=hT3.box q0 hp2 hg2
 replace q1:=hT3.box q1 hp2 hg2
 replace q2:=hT3.box q2 hp2 hg2
 replace q3:=hT3.box q3 hp2 hg2
 have HV:=tx_lift hT3 [s,tx] (by simp; omega) (by simp [e1]; omega)
 simp only [List.map_cons,List.map_nil,List.length_cons,List.length_nil,Nat.zero_add,List.flatMap_cons,List.flatMap_nil,List.append_nil,Nat.reduceAdd] at HV
 replace HV:=hid HV
 go_wp2_with fail
 refine HV.out.mono ?_
 rintro e w3 ⟨rfl,hT4⟩
 go_wp2_with fail
 go_end0
 refine ⟨rfl,?_⟩
 have:=wto_trans hO.out (.inl rfl) hT4
 rwa [List.append_assoc] at this

end Go.Proofs.YtildemmkhndhjaaGreatDoor
