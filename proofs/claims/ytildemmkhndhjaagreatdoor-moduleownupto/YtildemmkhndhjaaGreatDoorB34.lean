/-
  What the proof leans on, part 34 of 48. The conditions stand in each theorem.
-/
import Derived.Test.YtildemmkhndhjaaGreatDoorB33
import Derived.Test.YtildemmkhndhjaaGreatDoorB15
import Derived.Test.YtildemmkhndhjaaGreatDoorB27
import Derived.Test.YtildemmkhndhjaaGreatDoorB30
namespace Go.Proofs.YtildemmkhndhjaaGreatDoor
open Go.RowKit

theorem flat_le {α : Type} (f : α→List UInt8) (k : Nat) : ∀ l : List α,(∀ x∈l,(f x).length≤k)→(l.flatMap f).length≤l.length * k:=by
 intro l
 induction l with
 | nil=>intro _; simp
 | cons x l ih=>
  intro h
  have h1:=h x (by simp)
  have h2:=ih fun y hy=>h y (by simp [hy])
  rw [List.flatMap_cons,List.length_append,List.length_cons,Nat.add_mul]
  omega

theorem flat_take_succ {α β : Type} (f : α→List β) (l : List α) (j : Nat) (h : j < l.length) : (l.take (j + 1)).flatMap f = (l.take j).flatMap f ++ f l[j]:=by
 rw [List.take_succ_eq_append_getElem h,List.flatMap_append]
 simp

theorem encHd_len {h : Hd} (g : HdGood h) : (encHd h).length≤39:=by
 have:=g.name
 simp [encHd,e2,eT,toBE_length]
 omega

theorem WTo.quiet {w0 w w' : World} {B p g : Nat} {s : List UInt8 × Int} (h : WTo w0 B p g w s) (ho : Only [] w w') : WTo w0 B p g w' s:=by
 obtain ⟨g',h1,h2,h3⟩:=h
 exact ⟨g',h1.only ho (by simp) (by simp),h2,h3.next ho (by simp)⟩

/-- The same, a block laid first. -/
theorem WTo.hereA {w0 w : World} {B p g : Nat} {s : List UInt8 × Int} (h : WTo w0 B p g w s) (o : Obj) : ∃ g',WTo (w.alloc o) B p g' (w.alloc o) s∧g' < w.heap.size∧p < w.heap.size∧∀ w' s',WTo (w.alloc o) B p g' w' s'→WTo w0 B p g w' s':=by
 obtain ⟨g',h1,h2,h3⟩:=h
 exact ⟨g',WTo.refl (h1.only ((Only.refl [] w).alloc o) (by simp) (by simp)),h1.lt.2.1,h1.lt.1,fun w' s' h=>wto_trans (h3.alloc o) h2 h⟩

set_option maxHeartbeats 4000000 in
theorem wmeth_any {w : World} {B p g : Nat} {out : List UInt8} (h : WrE w B p g (out,0)) (m : Me) (hg : MeGood m) (hF : MeFit m) {P : Nat→Prop} {vp vc vh : Value} (hM : MeAt (SlR w P) vp vc vh m) (hPB : ∀ d,P d→d < B) (hsz : out.length≤100000000000000) :
  Calls Tryz.prog 132 #[tgV p,meV vp vc vh m] w fun r w'=>r = .returned (.tuple #[])∧WTo w B p g w' (out ++ encMe m,0):=by
 obtain ⟨po,pc,pd,rfl,hP0⟩:=hM.params
 obtain ⟨co,cc,cd,rfl,hC0⟩:=hM.code
 obtain ⟨ho,hc,hd,rfl,hH0⟩:=hM.hands
 clear hM
 have hFp:=hF.params
 have hFr:=hF.res
 clear hF
 obtain ⟨fl,nm,⟨ps,vo,td,tn⟩,st,lo,code,hs⟩:=m
 obtain ⟨hfl,hnm,hsg,htx,hno,hst0,hlo0,hcl,hhl,hhd⟩:=hg
 clear hno
 simp only at hfl hnm hsg htx hst0 hlo0 hcl hhl hhd hP0 hC0 hH0 hFp hFr
 unfold meV encMe
 simp only
 have hl:=h.lt
 have hT1:=WTo.refl (h.only (((Only.refl [] w).alloc (.cells #[.pointer (some ⟨p,0,none⟩)] 76)).alloc (.cells #[.int .i64 fl,.string (str nm),.slice po ps.length pc,.bool vo,.int .i64 td,.string (str tn),.int .i64 st,.int .i64 lo,.slice co code.length cc,.slice ho hs.length hc] 41)) (by simp) (by simp))
 have hO:=hid (((Only.refl [p,g] w).alloc (.cells #[.pointer (some ⟨p,0,none⟩)] 76)).alloc (.cells #[.int .i64 fl,.string (str nm),.slice po ps.length pc,.bool vo,.int .i64 td,.string (str tn),.int .i64 st,.int .i64 lo,.slice co code.length cc,.slice ho hs.length hc] 41))
 have q:=box1 w #[.pointer (some ⟨p,0,none⟩)] 76 (.cells #[.int .i64 fl,.string (str nm),.slice po ps.length pc,.bool vo,.int .i64 td,.string (str tn),.int .i64 st,.int .i64 lo,.slice co code.length cc,.slice ho hs.length hc] 41) (i:=0) rfl
 have q0:=box2 w #[.int .i64 fl,.string (str nm),.slice po ps.length pc,.bool vo,.int .i64 td,.string (str tn),.int .i64 st,.int .i64 lo,.slice co code.length cc,.slice ho hs.length hc] 41 (.cells #[.pointer (some ⟨p,0,none⟩)] 76) (i:=0) rfl
 have q1:=box2 w #[.int .i64 fl,.string (str nm),.slice po ps.length pc,.bool vo,.int .i64 td,.string (str tn),.int .i64 st,.int .i64 lo,.slice co code.length cc,.slice ho hs.length hc] 41 (.cells #[.pointer (some ⟨p,0,none⟩)] 76) (i:=1) rfl
 have q2:=box2 w #[.int .i64 fl,.string (str nm),.slice po ps.length pc,.bool vo,.int .i64 td,.string (str tn),.int .i64 st,.int .i64 lo,.slice co code.length cc,.slice ho hs.length hc] 41 (.cells #[.pointer (some ⟨p,0,none⟩)] 76) (i:=2) rfl
 have q3:=box2 w #[.int .i64 fl,.string (str nm),.slice po ps.length pc,.bool vo,.int .i64 td,.string (str tn),.int .i64 st,.int .i64 lo,.slice co code.length cc,.slice ho hs.length hc] 41 (.cells #[.pointer (some ⟨p,0,none⟩)] 76) (i:=3) rfl
 have q4:=box2 w #[.int .i64 fl,.string (str nm),.slice po ps.length pc,.bool vo,.int .i64 td,.string (str tn),.int .i64 st,.int .i64 lo,.slice co code.length cc,.slice ho hs.length hc] 41 (.cells #[.pointer (some ⟨p,0,none⟩)] 76) (i:=4) rfl
 have q5:=box2 w #[.int .i64 fl,.string (str nm),.slice po ps.length pc,.bool vo,.int .i64 td,.string (str tn),.int .i64 st,.int .i64 lo,.slice co code.length cc,.slice ho hs.length hc] 41 (.cells #[.pointer (some ⟨p,0,none⟩)] 76) (i:=5) rfl
 have q6:=box2 w #[.int .i64 fl,.string (str nm),.slice po ps.length pc,.bool vo,.int .i64 td,.string (str tn),.int .i64 st,.int .i64 lo,.slice co code.length cc,.slice ho hs.length hc] 41 (.cells #[.pointer (some ⟨p,0,none⟩)] 76) (i:=6) rfl
 have q7:=box2 w #[.int .i64 fl,.string (str nm),.slice po ps.length pc,.bool vo,.int .i64 td,.string (str tn),.int .i64 st,.int .i64 lo,.slice co code.length cc,.slice ho hs.length hc] 41 (.cells #[.pointer (some ⟨p,0,none⟩)] 76) (i:=7) rfl
 have q8:=box2 w #[.int .i64 fl,.string (str nm),.slice po ps.length pc,.bool vo,.int .i64 td,.string (str tn),.int .i64 st,.int .i64 lo,.slice co code.length cc,.slice ho hs.length hc] 41 (.cells #[.pointer (some ⟨p,0,none⟩)] 76) (i:=8) rfl
 have q9:=box2 w #[.int .i64 fl,.string (str nm),.slice po ps.length pc,.bool vo,.int .i64 td,.string (str tn),.int .i64 st,.int .i64 lo,.slice co code.length cc,.slice ho hs.length hc] 41 (.cells #[.pointer (some ⟨p,0,none⟩)] 76) (i:=9) rfl
 have Q:=hid (And.intro q ((And.intro q0 (And.intro q1 (And.intro q2 (And.intro q3 (And.intro q4 (And.intro q5 (And.intro q6 (And.intro q7 (And.intro q8 q9)))))))))))
 clear q q0 q1 q2 q3 q4 q5 q6 q7 q8 q9
 have hp1 : w.heap.size≠p:=by omega
 have hg1 : w.heap.size≠g:=by omega
 have hp2 : w.heap.size + 1≠p:=by omega
 have hg2 : w.heap.size + 1≠g:=by omega
 unfold tgV
 have hL : (sgText (ps,vo,td,tn)).length≤255:=htx
 have HK:=sigText_any (cap:=pc) (TS.of_rs (hP0.rs.only0 (((Only.refl [] w).alloc (.cells #[.pointer (some ⟨p,0,none⟩)] 76)).alloc (.cells #[.int .i64 fl,.string (str nm),.slice po ps.length pc,.bool vo,.int .i64 td,.string (str tn),.int .i64 st,.int .i64 lo,.slice co code.length cc,.slice ho hs.length hc] 41)))) (by have:=hP0.le; have:=hP0.max; omega) hFp vo (td,tn) hFr
 have hst : stR ps vo (td,tn) = sgText (ps,vo,td,tn):=by unfold stR; rw [if_pos hsg]; rfl
 rw [hst] at HK
 unfold sigV at HK
 generalize sgText (ps,vo,td,tn) = tx at *
 replace HK:=hid HK
 have hB:=hid hl
 clear hst hsg htx hP0 hFp hFr
 have RC:=hid hC0
 have RH:=hid hH0
 clear hC0 hH0
 have hHd:=hid hhd
 clear hhd
 by_cases f2 : fl = 2
 ·subst f2
  rw [if_pos rfl]
  clear RC RH
  go_enter Tryz.func132,Tryz.ntmps132
  obtain ⟨q,q0,q1,q2,q3,q4,q5,q6,q7,q8,q9⟩:=Q.out
  go_wp2_with fail
  refine HK.out.mono ?_
  rintro e w1 ⟨rfl,ho1⟩
  have hT2:=hT1.quiet ho1
  obtain ⟨q,q0,q1,q2,q3,q4,q5,q6,q7,q8,q9⟩:=Q.out
  replace q:=hT2.box q hp1 hg1
  replace q0:=hT2.box q0 hp2 hg2
  replace q1:=hT2.box q1 hp2 hg2
  replace q2:=hT2.box q2 hp2 hg2
  replace q3:=hT2.box q3 hp2 hg2
  replace q4:=hT2.box q4 hp2 hg2
  replace q5:=hT2.box q5 hp2 hg2
  replace q6:=hT2.box q6 hp2 hg2
  replace q7:=hT2.box q7 hp2 hg2
  replace q8:=hT2.box q8 hp2 hg2
  replace q9:=hT2.box q9 hp2 hg2
  have HV:=u1_lift hT2 [(2 : Int)] (by simp) (by simp; omega)
  simp only [List.map_cons,List.map_nil,List.length_cons,List.length_nil,Nat.zero_add,List.flatMap_cons,List.flatMap_nil,List.append_nil] at HV
  replace HV:=hid HV
  go_wp2_with fail
  refine HV.out.mono ?_
  rintro e w9 ⟨rfl,hT3⟩
  clear HV
  obtain ⟨q,q0,q1,q2,q3,q4,q5,q6,q7,q8,q9⟩:=Q.out
  replace q:=hT3.box q hp1 hg1
  replace q0:=hT3.box q0 hp2 hg2
  replace q1:=hT3.box q1 hp2 hg2
  replace q2:=hT3.box q2 hp2 hg2
  replace q3:=hT3.box q3 hp2 hg2
  replace q4:=hT3.box q4 hp2 hg2
  replace q5:=hT3.box q5 hp2 hg2
  replace q6:=hT3.box q6 hp2 hg2
  replace q7:=hT3.box q7 hp2 hg2
  replace q8:=hT3.box q8 hp2 hg2
  replace q9:=hT3.box q9 hp2 hg2
  have HV:=tx_lift hT3 [nm,tx] (by simp; omega) (by simp [e1]; omega)
  simp only [List.map_cons,List.map_nil,List.length_cons,List.length_nil,Nat.zero_add,List.flatMap_cons,List.flatMap_nil,List.append_nil,Nat.reduceAdd] at HV
  replace HV:=hid HV
  go_wp2_with fail
  refine HV.out.mono ?_
  rintro e w9 ⟨rfl,hT4⟩
  clear HV
  obtain ⟨q,q0,q1,q2,q3,q4,q5,q6,q7,q8,q9⟩:=Q.out
  replace q0:=hT4.box q0 hp2 hg2
  clear q q1 q2 q3 q4 q5 q6 q7 q8 q9
  go_wp2_with fail
  refine bodyPost_ret (results_none rfl _ _ _) rfl ?_
  refine ⟨rfl,?_⟩
  have:=wto_trans hO.out (.inl rfl) hT4
  simpa using this
 ·rw [if_neg f2]
  have f2' : (fl == 2) = false:=by simpa using f2
  go_enter Tryz.func132,Tryz.ntmps132
  obtain ⟨q,q0,q1,q2,q3,q4,q5,q6,q7,q8,q9⟩:=Q.out
  go_wp2_with fail
  refine HK.out.mono ?_
  rintro e w1 ⟨rfl,ho1⟩
  have hT2:=hT1.quiet ho1
  obtain ⟨q,q0,q1,q2,q3,q4,q5,q6,q7,q8,q9⟩:=Q.out
  replace q:=hT2.box q hp1 hg1
  replace q0:=hT2.box q0 hp2 hg2
  replace q1:=hT2.box q1 hp2 hg2
  replace q2:=hT2.box q2 hp2 hg2
  replace q3:=hT2.box q3 hp2 hg2
  replace q4:=hT2.box q4 hp2 hg2
  replace q5:=hT2.box q5 hp2 hg2
  replace q6:=hT2.box q6 hp2 hg2
  replace q7:=hT2.box q7 hp2 hg2
  replace q8:=hT2.box q8 hp2 hg2
  replace q9:=hT2.box q9 hp2 hg2
  have HV:=u1_lift hT2 [fl] (by simp; omega) (by simp; omega)
  simp only [List.map_cons,List.map_nil,List.length_cons,List.length_nil,Nat.zero_add,List.flatMap_cons,List.flatMap_nil,List.append_nil] at HV
  replace HV:=hid HV
  go_wp2_with fail
  refine HV.out.mono ?_
  rintro e w9 ⟨rfl,hT3⟩
  clear HV
  obtain ⟨q,q0,q1,q2,q3,q4,q5,q6,q7,q8,q9⟩:=Q.out
  replace q:=hT3.box q hp1 hg1
  replace q0:=hT3.box q0 hp2 hg2
  replace q1:=hT3.box q1 hp2 hg2
  replace q2:=hT3.box q2 hp2 hg2
  replace q3:=hT3.box q3 hp2 hg2
  replace q4:=hT3.box q4 hp2 hg2
  replace q5:=hT3.box q5 hp2 hg2
  replace q6:=hT3.box q6 hp2 hg2
  replace q7:=hT3.box q7 hp2 hg2
  replace q8:=hT3.box q8 hp2 hg2
  replace q9:=hT3.box q9 hp2 hg2
  have HV:=tx_lift hT3 [nm,tx] (by simp; omega) (by simp [e1]; omega)
  simp only [List.map_cons,List.map_nil,List.length_cons,List.length_nil,Nat.zero_add,List.flatMap_cons,List.flatMap_nil,List.append_nil,Nat.reduceAdd] at HV
  replace HV:=hid HV
  go_wp2_with fail
  refine HV.out.mono ?_
  rintro e w9 ⟨rfl,hT4⟩
  clear HV
  obtain ⟨q,q0,q1,q2,q3,q4,q5,q6,q7,q8,q9⟩:=Q.out
  replace q:=hT4.box q hp1 hg1
  replace q0:=hT4.box q0 hp2 hg2
  replace q1:=hT4.box q1 hp2 hg2
  replace q2:=hT4.box q2 hp2 hg2
  replace q3:=hT4.box q3 hp2 hg2
  replace q4:=hT4.box q4 hp2 hg2
  replace q5:=hT4.box q5 hp2 hg2
  replace q6:=hT4.box q6 hp2 hg2
  replace q7:=hT4.box q7 hp2 hg2
  replace q8:=hT4.box q8 hp2 hg2
  replace q9:=hT4.box q9 hp2 hg2
  have HV:=u1_lift hT4 [st,lo] (by simp; omega) (by simp [e1,eT]; omega)
  simp only [List.map_cons,List.map_nil,List.length_cons,List.length_nil,Nat.zero_add,List.flatMap_cons,List.flatMap_nil,List.append_nil,Nat.reduceAdd] at HV
  replace HV:=hid HV
  go_wp2_with fail
  refine HV.out.mono ?_
  rintro e w9 ⟨rfl,hT5⟩
  clear HV
  obtain ⟨q,q0,q1,q2,q3,q4,q5,q6,q7,q8,q9⟩:=Q.out
  replace q:=hT5.box q hp1 hg1
  replace q0:=hT5.box q0 hp2 hg2
  replace q1:=hT5.box q1 hp2 hg2
  replace q2:=hT5.box q2 hp2 hg2
  replace q3:=hT5.box q3 hp2 hg2
  replace q4:=hT5.box q4 hp2 hg2
  replace q5:=hT5.box q5 hp2 hg2
  replace q6:=hT5.box q6 hp2 hg2
  replace q7:=hT5.box q7 hp2 hg2
  replace q8:=hT5.box q8 hp2 hg2
  replace q9:=hT5.box q9 hp2 hg2
  have HV:=u2_lift hT5 [(code.length : Int)] (by simp; omega) (by simp [e1,eT]; omega)
  simp only [List.map_cons,List.map_nil,List.length_cons,List.length_nil,Nat.zero_add,List.flatMap_cons,List.flatMap_nil,List.append_nil] at HV
  replace HV:=hid HV
  go_wp2_with fail
  refine HV.out.mono ?_
  rintro e w9 ⟨rfl,hT6⟩
  clear HV
  obtain ⟨q,q0,q1,q2,q3,q4,q5,q6,q7,q8,q9⟩:=Q.out
  replace q:=hT6.box q hp1 hg1
  replace q0:=hT6.box q0 hp2 hg2
  replace q1:=hT6.box q1 hp2 hg2
  replace q2:=hT6.box q2 hp2 hg2
  replace q3:=hT6.box q3 hp2 hg2
  replace q4:=hT6.box q4 hp2 hg2
  replace q5:=hT6.box q5 hp2 hg2
  replace q6:=hT6.box q6 hp2 hg2
  replace q7:=hT6.box q7 hp2 hg2
  replace q8:=hT6.box q8 hp2 hg2
  replace q9:=hT6.box q9 hp2 hg2
  have RC2:=RC.out.rs.only (((((Only.refl [p,g] w).alloc (.cells #[.pointer (some ⟨p,0,none⟩)] 76)).alloc (.cells #[.int .i64 fl,.string (str nm),.slice po ps.length pc,.bool vo,.int .i64 td,.string (str tn),.int .i64 st,.int .i64 lo,.slice co code.length cc,.slice ho hs.length hc] 41)).trans hT6.only (by simp))) (fun hn=>by have:=hPB _ (RC.out.ok hn); have:=hB.out; simp; omega)
  have HV:=bytes_lift hT6 (cap:=cc) RC2 RC.out.no (by simp [e1,e2,eT,toBE_length]; omega)
  replace HV:=hid HV
  go_wp2_with fail
  refine HV.out.mono ?_
  rintro e w9 ⟨rfl,hT7⟩
  clear HV
  obtain ⟨q,q0,q1,q2,q3,q4,q5,q6,q7,q8,q9⟩:=Q.out
  replace q:=hT7.box q hp1 hg1
  replace q0:=hT7.box q0 hp2 hg2
  replace q1:=hT7.box q1 hp2 hg2
  replace q2:=hT7.box q2 hp2 hg2
  replace q3:=hT7.box q3 hp2 hg2
  replace q4:=hT7.box q4 hp2 hg2
  replace q5:=hT7.box q5 hp2 hg2
  replace q6:=hT7.box q6 hp2 hg2
  replace q7:=hT7.box q7 hp2 hg2
  replace q8:=hT7.box q8 hp2 hg2
  replace q9:=hT7.box q9 hp2 hg2
  have HV:=u1_lift hT7 [(hs.length : Int)] (by simp; omega) (by simp [e1,e2,eT,toBE_length]; omega)
  simp only [List.map_cons,List.map_nil,List.length_cons,List.length_nil,Nat.zero_add,List.flatMap_cons,List.flatMap_nil,List.append_nil] at HV
  replace HV:=hid HV
  go_wp2_with fail
  refine HV.out.mono ?_
  rintro e w9 ⟨rfl,hT8⟩
  clear HV
  obtain ⟨q,q0,q1,q2,q3,q4,q5,q6,q7,q8,q9⟩:=Q.out
  replace q:=hT8.box q hp1 hg1
  replace q0:=hT8.box q0 hp2 hg2
  replace q1:=hT8.box q1 hp2 hg2
  replace q2:=hT8.box q2 hp2 hg2
  replace q3:=hT8.box q3 hp2 hg2
  replace q4:=hT8.box q4 hp2 hg2
  replace q5:=hT8.box q5 hp2 hg2
  replace q6:=hT8.box q6 hp2 hg2
  replace q7:=hT8.box q7 hp2 hg2
  replace q8:=hT8.box q8 hp2 hg2
  replace q9:=hT8.box q9 hp2 hg2
  go_wp2_with fail
  obtain ⟨OUT,hOUT⟩ : ∃ O,O = out ++ e1 fl ++ (eT nm ++ eT tx) ++ (e1 st ++ e1 lo) ++ e2 (code.length : Int) ++ code ++ e1 (hs.length : Int):=⟨_,rfl⟩
  rw [← hOUT] at hT8
  have hlen : OUT.length≤out.length + 5000:=by rw [hOUT]; simp [e1,e2,eT,toBE_length]; omega
  replace hOUT:=hid hOUT
  have hst : Hid (WTo ((w.alloc (.cells #[.pointer (some ⟨p,0,none⟩)] 76)).alloc (.cells #[.int .i64 fl,.string (str nm),.slice po ps.length pc,.bool vo,.int .i64 td,.string (str tn),.int .i64 st,.int .i64 lo,.slice co code.length cc,.slice ho hs.length hc] 41)) B p g w9 (OUT ++ (hs.take 0).flatMap encHd,0)):=by simpa [Hid] using hT8
  clear q q0 q1 q2 q3 q4 q5 q6 q7 q8 q9 hT2 hT3 hT4 hT5 hT6 hT7 hT8 RC RC2
  go_loopw [60] (fun i wr=>∃ (j : Nat),j≤hs.length∧i = .int .i64 (j : Int)∧Hid (WTo ((w.alloc (.cells #[.pointer (some ⟨p,0,none⟩)] 76)).alloc (.cells #[.int .i64 fl,.string (str nm),.slice po ps.length pc,.bool vo,.int .i64 td,.string (str tn),.int .i64 st,.int .i64 lo,.slice co code.length cc,.slice ho hs.length hc] 41)) B p g wr (OUT ++ (hs.take j).flatMap encHd,0))) (fun i _=>hs.length - (intOf i).toNat)
  case atStart=>exact ⟨0,by omega,rfl,hst⟩
  case round=>
   obtain ⟨j,hj,rfl,hT⟩:=hrel
   clear hst
   by_cases hlt : j < hs.length
   ·have g4 : ((j : Int) < (hs.length : Int)):=by omega
    have RH2:=RH.out.rs.only (((((Only.refl [p,g] w).alloc (.cells #[.pointer (some ⟨p,0,none⟩)] 76)).alloc (.cells #[.int .i64 fl,.string (str nm),.slice po ps.length pc,.bool vo,.int .i64 td,.string (str tn),.int .i64 st,.int .i64 lo,.slice co code.length cc,.slice ho hs.length hc] 41)).trans hT.out.only (by simp))) (fun hn=>by have:=hPB _ (RH.out.ok hn); have:=hB.out; simp; omega)
    obtain ⟨off,rfl,y0,y1,y2,y3⟩:=hd_cells RH2 hlt
    have hy:=hHd.out hs[j] (List.getElem_mem hlt)
    have hfl : ((hs.take j).flatMap encHd).length≤2000:=by
     have:=flat_le encHd 39 (hs.take j) fun x hx=>encHd_len (hHd.out x (List.mem_of_mem_take hx))
     have h2 : (hs.take j).length≤32:=by rw [List.length_take]; omega
     omega
    have hsucc:=hid (flat_take_succ encHd hs j hlt)
    obtain ⟨q,_⟩:=Q.out
    replace q:=hT.out.box q hp1 hg1
    clear RH2
    generalize hs[j] = y at *
    generalize (hs.take j).flatMap encHd = fl2 at *
    obtain ⟨ya,yb,yc,ys⟩:=y
    obtain ⟨ha,hb,hc2,hn⟩:=hy
    simp only at ha hb hc2 hn y0 y1 y2 y3
    have qa:=cell_alloc (.cells #[.int .i64 ya,.int .i64 yb,.int .i64 yc,.string (str ys)] 46) q
    obtain ⟨g',hT2,hgl,hpl,hback⟩:=hT.out.hereA (.cells #[.int .i64 ya,.int .i64 yb,.int .i64 yc,.string (str ys)] 46)
    have z0 : (wr.alloc (.cells #[.int .i64 ya,.int .i64 yb,.int .i64 yc,.string (str ys)] 46)).cell? ⟨wr.heap.size,3,none⟩ = some (.string (str ys)):=by rw [cell_new]; rfl
    have HU:=u2_lift hT2 [ya,yb,yc] (by simp; omega) (by simp; omega)
    simp only [World.size_alloc] at HU
    simp only [List.map_cons,List.map_nil,List.length_cons,List.length_nil,Nat.zero_add,List.flatMap_cons,List.flatMap_nil,List.append_nil,Nat.reduceAdd] at HU
    replace HU:=hid HU
    go_wp2_with fail
    refine HU.out.mono ?_
    rintro e w2 ⟨rfl,hT3⟩
    clear HU
    have z1:=hT3.box z0 (by omega) (by omega)
    obtain ⟨q',_⟩:=Q.out
    replace q':=(hback _ _ hT3).box q' hp1 hg1
    have HV:=tx_lift hT3 [ys] (by simp; omega) (by simp [e2,toBE_length]; omega)
    simp only [List.map_cons,List.map_nil,List.length_cons,List.length_nil,Nat.zero_add,List.flatMap_cons,List.flatMap_nil,List.append_nil] at HV
    replace HV:=hid HV
    go_wp2_with fail
    refine HV.out.mono ?_
    rintro e w3 ⟨rfl,hT4⟩
    clear HV
    go_wp2_with fail
    refine ⟨⟨j + 1,by omega,by go_num,?_⟩,by simp [intOf]; omega⟩
    have:=hback _ _ hT4
    rw [hsucc.out]
    simpa [encHd,Hid] using this
   ·have g4 : ¬ ((j : Int) < (hs.length : Int)):=by omega
    go_wp2_with fail
    go_end0
    refine ⟨rfl,?_⟩
    have:=wto_trans hO.out (.inl rfl) hT.out
    rw [List.take_of_length_le (by omega),hOUT.out] at this
    simpa using this


theorem encFd_len {f : Fd} (g : FdGood f) : (encFd f).length≤300:=by
 have:=g.name
 have:=tyText_len g.type
 simp [encFd,e1,eT]
 omega

theorem encMe_len {m : Me} (g : MeGood m) : (encMe m).length≤3000:=by
 have h1:=g.name
 have h2:=g.text
 have h3:=g.code
 have h4:=flat_le encHd 39 m.hands fun x hx=>encHd_len (g.hands x hx)
 have h5:=g.many
 unfold encMe
 split
 ·simp [e1,eT]
  omega
 ·simp only [List.length_append,e1,e2,eT,toBE_length,List.length_cons,List.length_nil]
  omega

theorem encEn_len {e : En} (g : EnGood e) : (encEn e).length≤300:=by
 have h1:=g.text
 unfold encEn
 split
 ·simp [e1,eT]
  omega
 ·split
  ·simp [e1,e8,toBE_length]
  ·split
   ·simp [e1,e2,toBE_length]
   ·simp [e1,e2,toBE_length]

theorem encCl_len {c : Cl} (g : ClGood c) : (encCl c).length≤300000:=by
 have h1:=g.name
 have h2:=g.super
 have h3:=flat_le eT 40 c.faces fun x hx=>by have:=g.faces x hx; simp [eT]; omega
 have h4:=flat_le encFd 300 c.fields fun x hx=>encFd_len (g.fields x hx)
 have h5:=flat_le encMe 3000 c.methods fun x hx=>encMe_len (g.methods x hx)
 have h6:=g.manyF
 have h7:=g.manyD
 have h8:=g.manyM
 unfold encCl
 simp only [List.length_append,e1,eT,List.length_cons,List.length_nil] at h3 h4 h5 ⊢
 omega

set_option maxHeartbeats 4000000 in
theorem wcl_any {w : World} {B p g : Nat} {out : List UInt8} (h : WrE w B p g (out,0)) (c : Cl) (hg : ClGood c) (hF : ClFit c) {P : Nat→Prop} {vf vd vm : Value} (hC : ClAt (SlR w P) vf vd vm c) (hPB : ∀ d,P d→d < B) (hsz : out.length≤50000000000000) :
  Calls Tryz.prog 62 #[tgV p,clV vf vd vm c] w fun r w'=>r = .returned (.tuple #[])∧WTo w B p g w' (out ++ encCl c,0):=by
 obtain ⟨hc1,hc2,mcs,hc3,hME⟩:=hC
 obtain ⟨fo,fc,fd,rfl,hA0⟩:=hc1
 obtain ⟨dO,dc,dd,rfl,hF0⟩:=hc2
 obtain ⟨mo,mc,md,rfl,hM0⟩:=hc3
 have hmeF:=hF.methods
 clear hF
 obtain ⟨fl,nm,su,fa,fi,me⟩:=c
 obtain ⟨hfl,hnm,hsu,hmf,hmd,hmm,hfaG,hfiG,hmeG⟩:=hg
 simp only at hfl hnm hsu hmf hmd hmm hfaG hfiG hmeG hmeF hA0 hF0 hM0 hME
 unfold clV encCl
 simp only
 have hl:=h.lt
 have hT1:=WTo.refl (h.only (((Only.refl [] w).alloc (.cells #[.pointer (some ⟨p,0,none⟩)] 76)).alloc (.cells #[.int .i64 fl,.string (str nm),.string (str su),.slice fo fa.length fc,.slice dO fi.length dc,.slice mo me.length mc] 28)) (by simp) (by simp))
 have hO:=hid (((Only.refl [p,g] w).alloc (.cells #[.pointer (some ⟨p,0,none⟩)] 76)).alloc (.cells #[.int .i64 fl,.string (str nm),.string (str su),.slice fo fa.length fc,.slice dO fi.length dc,.slice mo me.length mc] 28))
 have q:=box1 w #[.pointer (some ⟨p,0,none⟩)] 76 (.cells #[.int .i64 fl,.string (str nm),.string (str su),.slice fo fa.length fc,.slice dO fi.length dc,.slice mo me.length mc] 28) (i:=0) rfl
 have q0:=box2 w #[.int .i64 fl,.string (str nm),.string (str su),.slice fo fa.length fc,.slice dO fi.length dc,.slice mo me.length mc] 28 (.cells #[.pointer (some ⟨p,0,none⟩)] 76) (i:=0) rfl
 have q1:=box2 w #[.int .i64 fl,.string (str nm),.string (str su),.slice fo fa.length fc,.slice dO fi.length dc,.slice mo me.length mc] 28 (.cells #[.pointer (some ⟨p,0,none⟩)] 76) (i:=1) rfl
 have q2:=box2 w #[.int .i64 fl,.string (str nm),.string (str su),.slice fo fa.length fc,.slice dO fi.length dc,.slice mo me.length mc] 28 (.cells #[.pointer (some ⟨p,0,none⟩)] 76) (i:=2) rfl
 have q3:=box2 w #[.int .i64 fl,.string (str nm),.string (str su),.slice fo fa.length fc,.slice dO fi.length dc,.slice mo me.length mc] 28 (.cells #[.pointer (some ⟨p,0,none⟩)] 76) (i:=3) rfl
 have q4:=box2 w #[.int .i64 fl,.string (str nm),.string (str su),.slice fo fa.length fc,.slice dO fi.length dc,.slice mo me.length mc] 28 (.cells #[.pointer (some ⟨p,0,none⟩)] 76) (i:=4) rfl
 have q5:=box2 w #[.int .i64 fl,.string (str nm),.string (str su),.slice fo fa.length fc,.slice dO fi.length dc,.slice mo me.length mc] 28 (.cells #[.pointer (some ⟨p,0,none⟩)] 76) (i:=5) rfl
 have Q:=hid (And.intro q ((And.intro q0 (And.intro q1 (And.intro q2 (And.intro q3 (And.intro q4 q5)))))))
 clear q q0 q1 q2 q3 q4 q5
 have hp1 : w.heap.size≠p:=by omega
 have hg1 : w.heap.size≠g:=by omega
 have hp2 : w.heap.size + 1≠p:=by omega
 have hg2 : w.heap.size + 1≠g:=by omega
 unfold tgV
 have hB:=hid hl
 have RA:=hid hA0
 have RF:=hid hF0
 have RM:=hid hM0
 have RME:=hid hME
 have hGa:=hid hfaG
 have hGf:=hid hfiG
 have hGm:=hid hmeG
 have hFm:=hid hmeF
 clear hA0 hF0 hM0 hME hfaG hfiG hmeG hmeF
 have hFlen : (fi.flatMap encFd).length≤19300:=by
  have:=flat_le encFd 300 fi fun x hx=>encFd_len (hGf.out x hx)
  omega
 have hAlen : (fa.flatMap eT).length≤700:=by
  have:=flat_le eT 40 fa fun x hx=>by have:=hGa.out x hx; simp [eT]; omega
  omega
 have HU:=u1_lift hT1 [fl] (by simp; omega) (by simp; omega)
 simp only [World.size_alloc] at HU
 simp only [List.map_cons,List.map_nil,List.length_cons,List.length_nil,Nat.zero_add,List.flatMap_cons,List.flatMap_nil,List.append_nil] at HU
 replace HU:=hid HU
 go_enter Tryz.func62,Tryz.ntmps62
 obtain ⟨q,q0,q1,q2,q3,q4,q5⟩:=Q.out
 go_wp2_with fail
 refine HU.out.mono ?_
 rintro e w2 ⟨rfl,hT2⟩
 clear HU
 obtain ⟨q,q0,q1,q2,q3,q4,q5⟩:=Q.out
 replace q:=hT2.box q hp1 hg1
 replace q0:=hT2.box q0 hp2 hg2
 replace q1:=hT2.box q1 hp2 hg2
 replace q2:=hT2.box q2 hp2 hg2
 replace q3:=hT2.box q3 hp2 hg2
 replace q4:=hT2.box q4 hp2 hg2
 replace q5:=hT2.box q5 hp2 hg2
 have HV:=tx_lift hT2 [nm,su] (by simp; omega) (by simp [e1]; omega)
 simp only [List.map_cons,List.map_nil,List.length_cons,List.length_nil,Nat.zero_add,List.flatMap_cons,List.flatMap_nil,List.append_nil,Nat.reduceAdd] at HV
 replace HV:=hid HV
 go_wp2_with fail
 refine HV.out.mono ?_
 rintro e w9 ⟨rfl,hT3⟩
 clear HV
 obtain ⟨q,q0,q1,q2,q3,q4,q5⟩:=Q.out
 replace q:=hT3.box q hp1 hg1
 replace q0:=hT3.box q0 hp2 hg2
 replace q1:=hT3.box q1 hp2 hg2
 replace q2:=hT3.box q2 hp2 hg2
 replace q3:=hT3.box q3 hp2 hg2
 replace q4:=hT3.box q4 hp2 hg2
 replace q5:=hT3.box q5 hp2 hg2
 have HV:=u1_lift hT3 [(fa.length : Int)] (by simp; omega) (by simp [e1,eT]; omega)
 simp only [List.map_cons,List.map_nil,List.length_cons,List.length_nil,Nat.zero_add,List.flatMap_cons,List.flatMap_nil,List.append_nil] at HV
 replace HV:=hid HV
 go_wp2_with fail
 refine HV.out.mono ?_
 rintro e w9 ⟨rfl,hT4⟩
 clear HV
 obtain ⟨q,q0,q1,q2,q3,q4,q5⟩:=Q.out
 replace q:=hT4.box q hp1 hg1
 replace q0:=hT4.box q0 hp2 hg2
 replace q1:=hT4.box q1 hp2 hg2
 replace q2:=hT4.box q2 hp2 hg2
 replace q3:=hT4.box q3 hp2 hg2
 replace q4:=hT4.box q4 hp2 hg2
 replace q5:=hT4.box q5 hp2 hg2
 have RA2:=RA.out.rs.only (((((Only.refl [p,g] w).alloc (.cells #[.pointer (some ⟨p,0,none⟩)] 76)).alloc (.cells #[.int .i64 fl,.string (str nm),.string (str su),.slice fo fa.length fc,.slice dO fi.length dc,.slice mo me.length mc] 28)).trans hT4.only (by simp))) (fun hn=>by have:=hPB _ (RA.out.ok hn); have:=hB.out; simp; omega)
 have HV:=txs_lift hT4 (cap:=fc) fa RA2 (fun hn=>hPB _ (RA.out.ok hn)) (fun s hs=>by have:=hGa.out s hs; omega) (by simp [e1,eT]; omega)
 replace HV:=hid HV
 go_wp2_with fail
 refine HV.out.mono ?_
 rintro e w9 ⟨rfl,hT5⟩
 clear HV
 obtain ⟨q,q0,q1,q2,q3,q4,q5⟩:=Q.out
 replace q:=hT5.box q hp1 hg1
 replace q0:=hT5.box q0 hp2 hg2
 replace q1:=hT5.box q1 hp2 hg2
 replace q2:=hT5.box q2 hp2 hg2
 replace q3:=hT5.box q3 hp2 hg2
 replace q4:=hT5.box q4 hp2 hg2
 replace q5:=hT5.box q5 hp2 hg2
 have HV:=u1_lift hT5 [(fi.length : Int)] (by simp; omega) (by simp [e1,eT] at hAlen ⊢; omega)
 simp only [List.map_cons,List.map_nil,List.length_cons,List.length_nil,Nat.zero_add,List.flatMap_cons,List.flatMap_nil,List.append_nil] at HV
 replace HV:=hid HV
 go_wp2_with fail
 refine HV.out.mono ?_
 rintro e w9 ⟨rfl,hT6⟩
 clear HV
 obtain ⟨q,q0,q1,q2,q3,q4,q5⟩:=Q.out
 replace q:=hT6.box q hp1 hg1
 replace q0:=hT6.box q0 hp2 hg2
 replace q1:=hT6.box q1 hp2 hg2
 replace q2:=hT6.box q2 hp2 hg2
 replace q3:=hT6.box q3 hp2 hg2
 replace q4:=hT6.box q4 hp2 hg2
 replace q5:=hT6.box q5 hp2 hg2
 go_wp2_with fail
 obtain ⟨OUT,hOUT⟩ : ∃ O,O = out ++ e1 fl ++ (eT nm ++ eT su) ++ e1 (fa.length : Int) ++ fa.flatMap eT ++ e1 (fi.length : Int):=⟨_,rfl⟩
 rw [← hOUT] at hT6
 have hlen : OUT.length≤out.length + 5000:=by rw [hOUT]; simp [e1,eT] at hAlen ⊢; omega
 replace hOUT:=hid hOUT
 have hst : Hid (WTo ((w.alloc (.cells #[.pointer (some ⟨p,0,none⟩)] 76)).alloc (.cells #[.int .i64 fl,.string (str nm),.string (str su),.slice fo fa.length fc,.slice dO fi.length dc,.slice mo me.length mc] 28)) B p g w9 (OUT ++ (fi.take 0).flatMap encFd,0)):=by simpa [Hid] using hT6
 clear q q0 q1 q2 q3 q4 q5 hT2 hT3 hT4 hT5 hT6 RA RA2 hAlen
 go_loopw [44] (fun i wr=>∃ (j : Nat),j≤fi.length∧i = .int .i64 (j : Int)∧Hid (WTo ((w.alloc (.cells #[.pointer (some ⟨p,0,none⟩)] 76)).alloc (.cells #[.int .i64 fl,.string (str nm),.string (str su),.slice fo fa.length fc,.slice dO fi.length dc,.slice mo me.length mc] 28)) B p g wr (OUT ++ (fi.take j).flatMap encFd,0))) (fun i _=>fi.length - (intOf i).toNat)
 case atStart=>exact ⟨0,by omega,rfl,hst⟩
 case round=>
  obtain ⟨j,hj,rfl,hT⟩:=hrel
  clear hst
  by_cases hlt : j < fi.length
  ·have g4 : ((j : Int) < (fi.length : Int)):=by omega
   have hOw:=((((Only.refl [p,g] w).alloc (.cells #[.pointer (some ⟨p,0,none⟩)] 76)).alloc (.cells #[.int .i64 fl,.string (str nm),.string (str su),.slice fo fa.length fc,.slice dO fi.length dc,.slice mo me.length mc] 28)).trans hT.out.only (by simp))
   have RH2:=RF.out.rs.only hOw (fun hn=>by have:=hPB _ (RF.out.ok hn); have:=hB.out; simp; omega)
   obtain ⟨off,rfl,c0,c1,c2,c3⟩:=fd_cells RH2 hlt
   have hy:=hGf.out fi[j] (List.getElem_mem hlt)
   have hfl : ((fi.take j).flatMap encFd).length≤20000:=by
    have:=flat_le encFd 300 (fi.take j) fun x hx=>encFd_len (hGf.out x (List.mem_of_mem_take hx))
    have h2 : (fi.take j).length≤64:=by rw [List.length_take]; omega
    omega
   have hsucc:=hid (flat_take_succ encFd fi j hlt)
   obtain ⟨q,_⟩:=Q.out
   replace q:=hT.out.box q hp1 hg1
   clear RH2
   generalize fi[j] = y at *
   generalize (fi.take j).flatMap encFd = fl2 at *
   have qa:=cell_alloc (.cells #[.int .i64 y.1,.string (str y.2.1),.int .i64 y.2.2.1,.string (str y.2.2.2)] 44) q
   obtain ⟨g',hT2,hgl,hpl,hback⟩:=hT.out.hereA (.cells #[.int .i64 y.1,.string (str y.2.1),.int .i64 y.2.2.1,.string (str y.2.2.2)] 44)
   obtain ⟨gz,hW2,hz2,hz3⟩:=hT2
   have HV:=(wfield_any hW2 y hy (by simp; omega)).mono fun _ _ h=>And.intro h.1 (wto_trans hz3 hz2 h.2)
   unfold tgV fdV at HV
   clear hOw
   replace HV:=hid HV
   go_wp2_with fail
   refine HV.out.mono ?_
   rintro e w3 ⟨rfl,hT4⟩
   clear HV
   go_wp2_with fail
   refine ⟨⟨j + 1,by omega,by go_num,?_⟩,by simp [intOf]; omega⟩
   have:=hback _ _ hT4
   rw [hsucc.out]
   simpa [Hid] using this
  ·have g4 : ¬ ((j : Int) < (fi.length : Int)):=by omega
   rw [List.take_of_length_le (by omega)] at hT
   have hT7:=hT.out
   obtain ⟨q,q0,q1,q2,q3,q4,q5⟩:=Q.out
   replace q:=hT7.box q hp1 hg1
   replace q0:=hT7.box q0 hp2 hg2
   replace q1:=hT7.box q1 hp2 hg2
   replace q2:=hT7.box q2 hp2 hg2
   replace q3:=hT7.box q3 hp2 hg2
   replace q4:=hT7.box q4 hp2 hg2
   replace q5:=hT7.box q5 hp2 hg2
   clear hT
   have HV:=u1_lift hT7 [(me.length : Int)] (by simp; omega) (by rw [List.length_append]; simp only [List.length_cons,List.length_nil]; omega)
   simp only [List.map_cons,List.map_nil,List.length_cons,List.length_nil,Nat.zero_add,List.flatMap_cons,List.flatMap_nil,List.append_nil] at HV
   replace HV:=hid HV
   go_wp2_with fail
   refine HV.out.mono ?_
   rintro e w10 ⟨rfl,hT8⟩
   clear HV
   obtain ⟨q,q0,q1,q2,q3,q4,q5⟩:=Q.out
   replace q:=hT8.box q hp1 hg1
   replace q0:=hT8.box q0 hp2 hg2
   replace q1:=hT8.box q1 hp2 hg2
   replace q2:=hT8.box q2 hp2 hg2
   replace q3:=hT8.box q3 hp2 hg2
   replace q4:=hT8.box q4 hp2 hg2
   replace q5:=hT8.box q5 hp2 hg2
   go_wp2_with fail
   obtain ⟨OUT2,hOUT2⟩ : ∃ O,O = OUT ++ fi.flatMap encFd ++ e1 (me.length : Int):=⟨_,rfl⟩
   rw [← hOUT2] at hT8
   have hlen2 : OUT2.length≤OUT.length + 20000:=by rw [hOUT2,List.length_append,List.length_append]; simp only [e1,List.length_cons,List.length_nil]; omega
   replace hOUT2:=hid hOUT2
   have hst : Hid (WTo ((w.alloc (.cells #[.pointer (some ⟨p,0,none⟩)] 76)).alloc (.cells #[.int .i64 fl,.string (str nm),.string (str su),.slice fo fa.length fc,.slice dO fi.length dc,.slice mo me.length mc] 28)) B p g w10 (OUT2 ++ (me.take 0).flatMap encMe,0)):=by simpa [Hid] using hT8
   clear q q0 q1 q2 q3 q4 q5 hT7 hT8
   go_loopw [62] (fun i wr=>∃ (j : Nat),j≤me.length∧i = .int .i64 (j : Int)∧Hid (WTo ((w.alloc (.cells #[.pointer (some ⟨p,0,none⟩)] 76)).alloc (.cells #[.int .i64 fl,.string (str nm),.string (str su),.slice fo fa.length fc,.slice dO fi.length dc,.slice mo me.length mc] 28)) B p g wr (OUT2 ++ (me.take j).flatMap encMe,0))) (fun i _=>me.length - (intOf i).toNat)
   case atStart=>exact ⟨0,by omega,rfl,hst⟩
   case round=>
    obtain ⟨j,hj,rfl,hT⟩:=hrel
    clear hst
    by_cases hlt : j < me.length
    ·have g4 : ((j : Int) < (me.length : Int)):=by omega
     have hOw:=((((Only.refl [p,g] w).alloc (.cells #[.pointer (some ⟨p,0,none⟩)] 76)).alloc (.cells #[.int .i64 fl,.string (str nm),.string (str su),.slice fo fa.length fc,.slice dO fi.length dc,.slice mo me.length mc] 28)).trans hT.out.only (by simp))
     have RH2:=RM.out.rs.only hOw (fun hn=>by have:=hPB _ (RM.out.ok hn); have:=hB.out; simp; omega)
     obtain ⟨off,vp,vc,vh,rfl,hMA,c0,c1,c2,c3,c4,c5,c6,c7,c8,c9⟩:=me_cells RH2 RME.out hlt
     obtain ⟨po,pc,_,rfl,_⟩:=hMA.params
     obtain ⟨co,cc,_,rfl,_⟩:=hMA.code
     obtain ⟨ho,hc,_,rfl,_⟩:=hMA.hands
     have hyF:=hFm.out me[j] (List.getElem_mem hlt)
     have hy:=hGm.out me[j] (List.getElem_mem hlt)
     have hfl : ((me.take j).flatMap encMe).length≤200000:=by
      have:=flat_le encMe 3000 (me.take j) fun x hx=>encMe_len (hGm.out x (List.mem_of_mem_take hx))
      have h2 : (me.take j).length≤64:=by rw [List.length_take]; omega
      omega
     have hsucc:=hid (flat_take_succ encMe me j hlt)
     obtain ⟨q,_⟩:=Q.out
     replace q:=hT.out.box q hp1 hg1
     clear RH2
     generalize me[j] = y at *
     generalize (me.take j).flatMap encMe = fl2 at *
     have qa:=cell_alloc (.cells #[.int .i64 y.flags,.string (str y.name),.slice po y.sig.1.length pc,.bool y.sig.2.1,.int .i64 y.sig.2.2.1,.string (str y.sig.2.2.2),.int .i64 y.stack,.int .i64 y.locals,.slice co y.code.length cc,.slice ho y.hands.length hc] 41) q
     obtain ⟨g',hT2,hgl,hpl,hback⟩:=hT.out.hereA (.cells #[.int .i64 y.flags,.string (str y.name),.slice po y.sig.1.length pc,.bool y.sig.2.1,.int .i64 y.sig.2.2.1,.string (str y.sig.2.2.2),.int .i64 y.stack,.int .i64 y.locals,.slice co y.code.length cc,.slice ho y.hands.length hc] 41)
     obtain ⟨gz,hW2,hz2,hz3⟩:=hT2
     have hMA2:=hMA.only (hOw.alloc (.cells #[.int .i64 y.flags,.string (str y.name),.slice po y.sig.1.length pc,.bool y.sig.2.1,.int .i64 y.sig.2.2.1,.string (str y.sig.2.2.2),.int .i64 y.stack,.int .i64 y.locals,.slice co y.code.length cc,.slice ho y.hands.length hc] 41)) (fun d hd=>by have:=hPB d hd; have:=hB.out; simp; omega)
     have HV:=(wmeth_any hW2 y hy hyF hMA2 hPB (by simp; omega)).mono fun _ _ h=>And.intro h.1 (wto_trans hz3 hz2 h.2)
     unfold tgV meV at HV
     clear hMA hMA2 hOw
     replace HV:=hid HV
     go_wp2_with fail
     refine HV.out.mono ?_
     rintro e w3 ⟨rfl,hT4⟩
     clear HV
     go_wp2_with fail
     refine ⟨⟨j + 1,by omega,by go_num,?_⟩,by simp [intOf]; omega⟩
     have:=hback _ _ hT4
     rw [hsucc.out]
     simpa [Hid] using this
    ·have g4 : ¬ ((j : Int) < (me.length : Int)):=by omega
     go_wp2_with fail
     go_end0
     refine ⟨rfl,?_⟩
     have:=wto_trans hO.out (.inl rfl) hT.out
     rw [List.take_of_length_le (by omega),hOUT2.out,hOUT.out] at this
     simpa using this


theorem any_false_take {α : Type} {p : α→Bool} {l : List α} {i : Nat} (h : ∀ k (hk : k < l.length),k < i→p l[k] = false) : (l.take i).any p = false:=by
 rw [List.any_eq_false]
 intro x hx
 obtain ⟨k,hk,rfl⟩:=List.getElem_of_mem hx
 have hk' : k < l.length∧k < i:=by simp at hk; omega
 rw [List.getElem_take]
 simp [h k hk'.1 hk'.2]

theorem any_true_take {α : Type} {p : α→Bool} {l : List α} {i k : Nat} (hk : k < l.length) (hi : k < i) (h : p l[k] = true) : (l.take i).any p = true:=
 List.any_eq_true.2 ⟨l[k],by rw [List.mem_take_iff_getElem]; exact ⟨k,by omega,rfl⟩,h⟩

set_option maxHeartbeats 2000000 in
set_option maxRecDepth 100000 in
theorem rface_any {w : World} {P : Nat→Prop} (c : Cl) (i : Nat) (hi : i < c.faces.length) (hF : ∀ s∈c.faces,s.length≤9223372036854775807) {vf vd vm : Value} (hC : SlV w P vf c.faces.length (scs c.faces)) :
  Calls Tryz.prog 153 #[clV vf vd vm c,.int .i64 (i : Int)] w fun e w'=>e = .returned (.int .i64 (faceE (c.faces.take i) c.faces[i]))∧Only [] w w':=by
 obtain ⟨fo,fc,rfl,hlen⟩:=hC.shape
 obtain ⟨d,hr⟩:=hC.rs
 have HN:=fun W=>rname_any c.faces[i] (hF _ (List.getElem_mem hi)) W
 have o0:=(Only.refl [] w).alloc (.cells #[.int .i64 c.flags,.string (str c.name),.string (str c.super),.slice fo c.faces.length fc,vd,vm] 28)
 have S0:=cl6_new w (.int .i64 c.flags) (.string (str c.name)) (.string (str c.super)) (.slice fo c.faces.length fc) vd vm 28
 obtain ⟨off,hao,y0⟩:=str_cells (hr.only0 o0) hi
 obtain ⟨R,hR⟩ : ∃ R,R = faceE (c.faces.take i) c.faces[i]:=⟨_,rfl⟩
 rw [← hR]
 unfold faceE at hR
 replace hR:=hid hR
 have gi : ((i : Int) < (c.faces.length : Int)):=by omega
 cases hnm : nameOK c.faces[i] with
 | false=>
  simp only [hnm] at HN
  have hRR : R = 14:=by rw [hR.out,hnm]; simp
  subst hRR hao
  replace HN:=hid HN
  obtain ⟨c0,c1,c2,c3,c4,c5,_,_,_,_,_,_⟩:=S0
  clear hR
  unfold clV
  go_enter Tryz.func153,Tryz.ntmps153
  go_wp2_with fail
  refine (HN.out _).mono ?_
  rintro e w' ⟨rfl,rfl⟩
  go_wp2_with fail
  go_ret
  exact ⟨rfl,o0⟩
 | true=>
  simp only [hnm] at HN
  replace HN:=hid HN
  subst hao
  replace hr:=hid hr
  replace o0:=hid o0
  obtain ⟨c0,c1,c2,c3,c4,c5,_,_,_,_,_,_⟩:=S0
  have S0:=hid (cl6_new w (.int .i64 c.flags) (.string (str c.name)) (.string (str c.super)) (.slice (some ⟨d,off,none⟩) c.faces.length fc) vd vm 28)
  unfold clV
  go_enter Tryz.func153,Tryz.ntmps153
  go_wp2_with fail
  refine (HN.out _).mono ?_
  rintro e w' ⟨rfl,rfl⟩
  go_wp2_with fail
  clear c0 c1 c2 c3 c4 c5 y0 HN
  go_loopw [5] (fun v wr=>∃ j : Nat,j≤i∧v = .int .i64 (j : Int)∧Hid (∀ k (hk : k < c.faces.length),k < j→decide (c.faces[k] = c.faces[i]) = false)∧Hid (Cl6 wr w.heap.size (.int .i64 c.flags) (.string (str c.name)) (.string (str c.super)) (.slice (some ⟨d,off,none⟩) c.faces.length fc) vd vm)∧Hid (Only [] w wr)) (fun v _=>i - (intOf v).toNat)
  case atStart=>exact ⟨0,by omega,rfl,hid (fun k hk h=>by omega),S0,o0⟩
  case round=>
   obtain ⟨j,hj,rfl,hno,hS,ho⟩:=hrel
   clear S0 o0
   obtain ⟨c0,c1,c2,c3,c4,c5,_,_,_,_,_,_⟩:=hS.out
   by_cases hlt : j < i
   ·have g1 : ((j : Int) < (i : Int)):=by omega
    have g2 : ((j : Int) < (c.faces.length : Int)):=by omega
    obtain ⟨off1,e1,y0⟩:=str_cells (hr.out.only0 ho.out) (j:=j) (by omega)
    obtain ⟨off2,e2,y1⟩:=str_cells (hr.out.only0 ho.out) hi
    simp only [Option.some.injEq,Addr.mk.injEq,true_and,and_true] at e1 e2
    subst e1
    subst e2
    by_cases hq : c.faces[j] = c.faces[i]
    ·have hRR : R = 20:=by
      rw [hR.out,if_pos hnm,if_pos]
      rw [List.mem_take_iff_getElem]
      exact ⟨j,by omega,hq⟩
     subst hRR
     clear hR hno
     rw [hq] at y0
     go_wp2_with fail
     go_region
     go_wp2
     go_ret
     exact ⟨rfl,ho.out.drew⟩
    ·have p1 : ¬ ((str c.faces[j]).toList = (str c.faces[i]).toList):=by rw [str_toList,str_toList]; exact hq
     have q1 : ((str c.faces[j]).toList == (str c.faces[i]).toList) = false:=by simpa using p1
     have hno2 : Hid (∀ k (hk : k < c.faces.length),k < j + 1→decide (c.faces[k] = c.faces[i]) = false):=by
      intro k hk h
      by_cases e : k = j
      ·subst e; simpa using hq
      ·exact hno.out k hk (by omega)
     generalize c.faces[j] = s at *
     clear hno hq
     go_wp2_with fail
     go_region
     go_wp2
     exact ⟨⟨j + 1,by omega,by go_num,hno2,hid (hS.out.only (Only.refl [] _).drew (by simp)),hid ho.out.drew⟩,by simp [intOf]; omega⟩
   ·have g1 : ¬ ((j : Int) < (i : Int)):=by omega
    have hRR : R = 0:=by
     obtain rfl : j = i:=by omega
     rw [hR.out,if_pos hnm,if_neg]
     rw [List.mem_take_iff_getElem]
     rintro ⟨k,hk,he⟩
     have:=hno.out k (by omega) (by omega)
     simp [he] at this
    subst hRR
    clear hR
    go_wp2
    go_ret
    exact ⟨rfl,ho.out⟩

end Go.Proofs.YtildemmkhndhjaaGreatDoor
