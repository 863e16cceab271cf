/-
  What the proof leans on, part 26 of 48. The conditions stand in each theorem.
-/
import Derived.Test.YtildemmkhndhjaaGreatDoorB12
import Derived.Test.YtildemmkhndhjaaGreatDoorB25
namespace Go.Proofs.YtildemmkhndhjaaGreatDoor
open Go.RowKit

theorem firstP_dims : ∀ (l : List UInt8) (n : Nat) (t : Ty) (r : List UInt8),firstP n l = some (t,r)→t.1≤8:=by
 intro l
 induction l with
 | nil=>intro n t r h; simp [firstP] at h
 | cons c l ih=>
  intro n t r h
  unfold firstP at h
  split at h
  ·cases h
  ·rename_i h8
   split at h
   ·exact ih _ _ _ h
   ·split at h
    ·simp only [Option.some.injEq,Prod.mk.injEq] at h
     obtain ⟨rfl,_⟩:=h
     simp only
     omega
    ·split at h
     ·unfold classP at h
      repeat' split at h
      all_goals first
       | (simp only [Option.some.injEq,Prod.mk.injEq] at h; obtain ⟨rfl,_⟩:=h; simp only; omega)
       | cases h
     ·cases h

theorem typeR_dims {s : List UInt8} : (typeR s).1.1≤8:=by
 unfold typeR
 split
 ·rename_i t h
  exact firstP_dims _ _ _ _ h
 ·decide

theorem typeAt_dims (l : List En) (n : Int) : (typeAtR l n).1.1≤8:=by
 unfold typeAtR
 split
 ·exact typeR_dims
 ·simp

set_option maxHeartbeats 400000 in
set_option maxRecDepth 100000 in
theorem rplace_any {w : World} {ao : Option Addr} {l : List In} {d cap : Nat} (hI : RS w ao (qcs l) d) (hl : l.length≤9223372036854775807) (x : Nat) :
  Calls Tryz.prog 219 #[.slice ao l.length cap,.int .i64 (x : Int)] w fun e w'=>(∃ k : Int,e = .returned (.int .i64 k)∧decide (k < 0) = !begunI l x)∧w' = w:=by
 go_enter Tryz.func219,Tryz.ntmps219
 go_wp2
 go_loopw [5] (fun i wr=>∃ j : Nat,j≤l.length∧i = .int .i64 (j : Int)∧Hid (begunI (l.take j) x = false)∧wr = w) (fun i _=>l.length - (intOf i).toNat)
 case atStart=>exact ⟨0,by omega,rfl,by simp [Hid,begunI],rfl⟩
 case round=>
  obtain ⟨j,hj,rfl,hq,rfl⟩:=hrel
  by_cases hlt : j < l.length
  ·have g2 : ((j : Int) < (l.length : Int)):=by omega
   obtain ⟨off,rfl,y0,y1,y2,y3⟩:=hI.inAt hlt
   clear hI
   have hm : Hid (l[j].1 = (x : Int)→begunI l x = true):=by
    intro h
    unfold begunI
    rw [List.any_eq_true]
    exact ⟨l[j],List.getElem_mem hlt,by simp [h]⟩
   have hnx : Hid (l[j].1≠(x : Int)→begunI (l.take (j + 1)) x = false):=by
    intro h1
    rw [List.take_succ_eq_append_getElem hlt,begun_snoc,hq.out]
    simp [h1]
   generalize l[j] = y at *
   obtain ⟨p,o,n,s⟩:=y
   simp only at y0 y1 y2 y3 hm hnx
   by_cases he : p = (x : Int)
   ·subst he
    have hm':=hid (hm.out rfl)
    clear hnx hm
    go_wp2
    go_ret
    exact ⟨⟨(j : Int),rfl,by rw [hm'.out]; simp⟩,rfl⟩
   ·have g3 : (p == (x : Int)) = false:=by simpa using he
    replace hnx:=hid (hnx.out he)
    clear hm
    go_wp2
    exact ⟨⟨j + 1,by omega,by go_num,hnx,by first | rfl | trivial⟩,by simp [intOf]; omega⟩
  ·have g2 : ¬ ((j : Int) < (l.length : Int)):=by omega
   have hn : Hid (begunI l x = false):=by
    have:=hq.out
    rw [List.take_of_length_le (by omega)] at this
    exact this
   clear hI
   go_wp2
   go_ret
   exact ⟨⟨-1,rfl,by rw [hn.out]; rfl⟩,rfl⟩

/-- Which operations are of which row. -/
theorem row_ops (op : Int) : (rowI op = 3→op = 1)∧(rowI op = 5→op = 25)∧(rowI op = 6→op = 26∨op = 27∨op = 28∨op = 29)∧(rowI op = 7→op = 30∨op = 36∨op = 37)∧(rowI op = 8→op = 38∨op = 39∨op = 40∨op = 41) ∧
  (rowI op = 0∨rowI op = 1∨rowI op = 2∨rowI op = 4→op≠1∧op≠25∧op≠26∧op≠27∧op≠28∧op≠29∧op≠30∧op≠36∧op≠37∧op≠38∧op≠39∧op≠40∧op≠41):=by
 unfold rowI
 repeat' split
 all_goals omega

set_option maxHeartbeats 1000000 in
set_option maxRecDepth 100000 in
theorem rentry_in {w : World} {ao : Option Addr} {l : List En} {d cap : Nat} (hE : ES w ao l d) (hl : l.length≤9223372036854775807) (hA : ∀ e∈l,e.2.1.length≤1048576) (a op n s : Int) :
  Calls Tryz.prog 220 #[inV (a,op,n,s),.slice ao l.length cap] w fun e w'=>e = .returned (.int .i64 (entryI l (a,op,n,s)))∧Only [] w w':=by
 have o0:=(Only.refl [] w).alloc (.cells #[.int .i64 a,.int .i64 op,.int .i64 n,.int .i64 s] 250)
 have I0:=hid (inAt_new w a op n s 250)
 have hE0:=hE.only o0 (by simp)
 have H3:=hid (rpnumber_any (cap:=cap) hE0 hl hA n)
 have H5:=hid (rpclass_any (cap:=cap) hE0 hl hA n)
 have H6:=hid (rpfield_any (cap:=cap) hE0 hl hA n)
 have H7:=rptype_any (cap:=cap) hE0 hl hA n
 have H8:=rpmethod_any (cap:=cap) hE0 hl hA n
 have hdm:=typeAt_dims l n
 obtain ⟨_,_,r0,r8⟩:=row_op op
 obtain ⟨q3,q5,q6,q7,q8,qn⟩:=row_ops op
 have ew : entryI l (a,op,n,s) = if rowI op = 3 then (numberR l n).2 else if rowI op = 5 then (classR l n).2 else if rowI op = 6 then (fieldR l n).2 else if rowI op = 7 then typeW l op n else if rowI op = 8 then methodW l op n else 0:=rfl
 rw [ew]
 unfold typeW methodW
 clear ew hE hE0 hA
 simp only [inV]
 generalize rowI op = r at *
 generalize numberR l n = X3 at *
 generalize classR l n = X5 at *
 generalize fieldR l n = X6 at *
 generalize typeAtR l n = X7 at *
 generalize methodR l n = X8 at *
 obtain ⟨x3,e3⟩:=X3
 obtain ⟨x5,e5⟩:=X5
 obtain ⟨⟨x6,y6,z6⟩,e6⟩:=X6
 obtain ⟨⟨td,tn⟩,te⟩:=X7
 obtain ⟨⟨xc,nm,ps,void,sd,sn⟩,er⟩:=X8
 have HN:=fun W=>dnumber_any (td,tn) W
 simp only [tyV,sigV] at H3 H5 H6 H7 H8 HN hdm ⊢
 replace H7:=hid H7
 replace H8:=hid H8
 rcases (by omega : (r = 0∨r = 1∨r = 2∨r = 4)∨r = 3∨r = 5∨r = 6∨r = 7∨r = 8) with hr | rfl | rfl | rfl | rfl | rfl
 ·obtain ⟨n1,n25,n26,n27,n28,n29,n30,n36,n37,n38,n39,n40,n41⟩:=qn hr
  rw [if_neg (by omega),if_neg (by omega),if_neg (by omega),if_neg (by omega),if_neg (by omega)]
  clear H3 H5 H6 H7 H8 HN q3 q5 q6 q7 q8 qn hr r0 r8 hdm
  have b1 : (op == 1) = false:=by simpa using n1
  have b25 : (op == 25) = false:=by simpa using n25
  have b26 : (op == 26) = false:=by simpa using n26
  have b27 : (op == 27) = false:=by simpa using n27
  have b28 : (op == 28) = false:=by simpa using n28
  have b29 : (op == 29) = false:=by simpa using n29
  have b30 : (op == 30) = false:=by simpa using n30
  have b36 : (op == 36) = false:=by simpa using n36
  have b37 : (op == 37) = false:=by simpa using n37
  have b38 : (op == 38) = false:=by simpa using n38
  have b39 : (op == 39) = false:=by simpa using n39
  have b40 : (op == 40) = false:=by simpa using n40
  have b41 : (op == 41) = false:=by simpa using n41
  go_enter Tryz.func220,Tryz.ntmps220
  go_wp2
  go_ret
  exact ⟨rfl,o0⟩
 ·obtain rfl:=q3 rfl
  clear H5 H6 H7 H8 HN q3 q5 q6 q7 q8 qn hdm
  go_enter Tryz.func220,Tryz.ntmps220
  go_wp2_with (go_at_call 227; refine H3.out.mono ?_; rintro e w2 ⟨rfl,ho2⟩)
  go_ret
  exact ⟨rfl,o0.next ho2 (by simp)⟩
 ·obtain rfl:=q5 rfl
  clear H3 H6 H7 H8 HN q3 q5 q6 q7 q8 qn hdm
  go_enter Tryz.func220,Tryz.ntmps220
  go_wp2_with (go_at_call 228; refine H5.out.mono ?_; rintro e w2 ⟨rfl,ho2⟩)
  go_ret
  exact ⟨rfl,o0.next ho2 (by simp)⟩
 ·have hq:=q6 rfl
  clear H3 H5 H7 H8 HN q3 q5 q6 q7 q8 qn hdm
  rcases hq with rfl | rfl | rfl | rfl
  all_goals
   go_enter Tryz.func220,Tryz.ntmps220
   go_wp2_with (go_at_call 229; refine H6.out.mono ?_; rintro e w2 ⟨rfl,ho2⟩)
   go_ret
   exact ⟨rfl,o0.next ho2 (by simp)⟩
 ·have hq:=q7 rfl
  clear H3 H5 H6 H8 q3 q5 q6 q7 q8 qn
  rw [if_neg (by decide),if_neg (by decide),if_neg (by decide),if_pos rfl]
  by_cases he : te = 0
  ·subst he
   rw [if_pos rfl]
   rcases hq with rfl | rfl | rfl
   ·rw [if_pos rfl]
    clear HN
    by_cases h8 : td = 8
    ·subst h8
     rw [if_pos rfl]
     go_enter Tryz.func220,Tryz.ntmps220
     go_wp2_with (first | (go_at_call 230; refine H7.out.mono ?_; rintro e w1 ⟨rfl,ho1⟩; obtain ⟨c0,c1,c2,c3⟩:=(I0.out.only ho1 (by simp)).alloc (.cells #[.int .i64 8,.string (str tn)] 35); simp only [Nat.zero_add] at c1 c2 c3) | fail)
     go_ret
     exact ⟨rfl,(o0.next ho1 (by simp)).alloc _⟩
    ·rw [if_neg h8]
     have g8 : ¬ (8≤td):=by omega
     clear h8
     go_enter Tryz.func220,Tryz.ntmps220
     go_wp2_with (first | (go_at_call 230; refine H7.out.mono ?_; rintro e w1 ⟨rfl,ho1⟩; obtain ⟨c0,c1,c2,c3⟩:=(I0.out.only ho1 (by simp)).alloc (.cells #[.int .i64 td,.string (str tn)] 35); simp only [Nat.zero_add] at c1 c2 c3) | fail)
     go_ret
     exact ⟨rfl,(o0.next ho1 (by simp)).alloc _⟩
   all_goals
    rw [if_neg (by decide)]
    by_cases hz : ((td,tn) : Ty) = (0,[])
    ·rw [if_pos hz]
     rw [decide_eq_true hz] at HN
     replace HN:=hid HN
     clear hz hdm
     go_enter Tryz.func220,Tryz.ntmps220
     go_wp2_with (first | (go_at_call 230; refine H7.out.mono ?_; rintro e w1 ⟨rfl,ho1⟩; obtain ⟨c0,c1,c2,c3⟩:=(I0.out.only ho1 (by simp)).alloc (.cells #[.int .i64 td,.string (str tn)] 35); simp only [Nat.zero_add] at c1 c2 c3) | (go_at_call 231; refine (HN.out _).mono ?_; rintro e w2 ⟨rfl,ho2⟩))
     go_ret
     exact ⟨rfl,((o0.next ho1 (by simp)).alloc _).next ho2 (by simp)⟩
    ·rw [if_neg hz]
     rw [decide_eq_false hz] at HN
     replace HN:=hid HN
     clear hz hdm
     go_enter Tryz.func220,Tryz.ntmps220
     go_wp2_with (first | (go_at_call 230; refine H7.out.mono ?_; rintro e w1 ⟨rfl,ho1⟩; obtain ⟨c0,c1,c2,c3⟩:=(I0.out.only ho1 (by simp)).alloc (.cells #[.int .i64 td,.string (str tn)] 35); simp only [Nat.zero_add] at c1 c2 c3) | (go_at_call 231; refine (HN.out _).mono ?_; rintro e w2 ⟨rfl,ho2⟩))
     go_ret
     exact ⟨rfl,((o0.next ho1 (by simp)).alloc _).next ho2 (by simp)⟩
  ·have ge : (te == 0) = false:=by simpa using he
   rw [if_neg he]
   clear HN hdm
   rcases hq with rfl | rfl | rfl
   all_goals
    go_enter Tryz.func220,Tryz.ntmps220
    go_wp2_with (first | (go_at_call 230; refine H7.out.mono ?_; rintro e w1 ⟨rfl,ho1⟩; obtain ⟨c0,c1,c2,c3⟩:=(I0.out.only ho1 (by simp)).alloc (.cells #[.int .i64 td,.string (str tn)] 35); simp only [Nat.zero_add] at c1 c2 c3) | fail)
    go_ret
    exact ⟨rfl,(o0.next ho1 (by simp)).alloc _⟩
 ·have hq:=q8 rfl
  clear H3 H5 H6 H7 HN q3 q5 q6 q7 q8 qn hdm
  rw [if_neg (by decide),if_neg (by decide),if_neg (by decide),if_neg (by decide),if_pos rfl]
  have hst:=str_toList nm
  have hci : (⟨#[60,105,110,105,116,62]⟩ : ByteArray).toList = initL:=str_toList initL
  by_cases he : er = 0
  ·subst he
   rw [if_pos rfl]
   by_cases hn : nm = initL
   ·subst hn
    rw [decide_eq_true rfl]
    have gn : (initL == initL) = true:=by decide
    generalize initL = nm at *
    rcases hq with rfl | rfl | rfl | rfl
    ·rw [if_neg (by decide)]
     go_enter Tryz.func220,Tryz.ntmps220
     go_wp2_with (go_at_call 232; refine H8.out.mono ?_; rintro e w1 ⟨vo,vc,rfl,hown,ho1⟩; clear hown; obtain ⟨c0,c1,c2,c3⟩:=(I0.out.only ho1 (by simp)).alloc (.cells #[.slice vo ps.length vc,.bool void,.int .i64 sd,.string (str sn)] 37); simp only [Nat.zero_add] at c1 c2 c3)
     go_ret
     exact ⟨rfl,(o0.next ho1 (by simp)).alloc _⟩
    ·rw [if_neg (by decide)]
     go_enter Tryz.func220,Tryz.ntmps220
     go_wp2_with (go_at_call 232; refine H8.out.mono ?_; rintro e w1 ⟨vo,vc,rfl,hown,ho1⟩; clear hown; obtain ⟨c0,c1,c2,c3⟩:=(I0.out.only ho1 (by simp)).alloc (.cells #[.slice vo ps.length vc,.bool void,.int .i64 sd,.string (str sn)] 37); simp only [Nat.zero_add] at c1 c2 c3)
     go_ret
     exact ⟨rfl,(o0.next ho1 (by simp)).alloc _⟩
    ·rw [if_neg (by decide)]
     go_enter Tryz.func220,Tryz.ntmps220
     go_wp2_with (go_at_call 232; refine H8.out.mono ?_; rintro e w1 ⟨vo,vc,rfl,hown,ho1⟩; clear hown; obtain ⟨c0,c1,c2,c3⟩:=(I0.out.only ho1 (by simp)).alloc (.cells #[.slice vo ps.length vc,.bool void,.int .i64 sd,.string (str sn)] 37); simp only [Nat.zero_add] at c1 c2 c3)
     go_ret
     exact ⟨rfl,(o0.next ho1 (by simp)).alloc _⟩
    ·rw [if_pos (by decide)]
     cases void with
     | true=>
      rw [if_neg (by simp)]
      go_enter Tryz.func220,Tryz.ntmps220
      go_wp2_with (go_at_call 232; refine H8.out.mono ?_; rintro e w1 ⟨vo,vc,rfl,hown,ho1⟩; clear hown; obtain ⟨c0,c1,c2,c3⟩:=(I0.out.only ho1 (by simp)).alloc (.cells #[.slice vo ps.length vc,.bool true,.int .i64 sd,.string (str sn)] 37); simp only [Nat.zero_add] at c1 c2 c3)
      go_ret
      exact ⟨rfl,(o0.next ho1 (by simp)).alloc _⟩
     | false=>
      rw [if_pos (by simp)]
      go_enter Tryz.func220,Tryz.ntmps220
      go_wp2_with (go_at_call 232; refine H8.out.mono ?_; rintro e w1 ⟨vo,vc,rfl,hown,ho1⟩; clear hown; obtain ⟨c0,c1,c2,c3⟩:=(I0.out.only ho1 (by simp)).alloc (.cells #[.slice vo ps.length vc,.bool false,.int .i64 sd,.string (str sn)] 37); simp only [Nat.zero_add] at c1 c2 c3)
      go_ret
      exact ⟨rfl,(o0.next ho1 (by simp)).alloc _⟩
   ·have gn : (nm == initL) = false:=by simpa using hn
    rw [decide_eq_false hn]
    rcases hq with rfl | rfl | rfl | rfl
    ·rw [if_pos (by decide),if_neg (by simp)]
     go_enter Tryz.func220,Tryz.ntmps220
     go_wp2_with (go_at_call 232; refine H8.out.mono ?_; rintro e w1 ⟨vo,vc,rfl,hown,ho1⟩; clear hown; obtain ⟨c0,c1,c2,c3⟩:=(I0.out.only ho1 (by simp)).alloc (.cells #[.slice vo ps.length vc,.bool void,.int .i64 sd,.string (str sn)] 37); simp only [Nat.zero_add] at c1 c2 c3)
     go_ret
     exact ⟨rfl,(o0.next ho1 (by simp)).alloc _⟩
    ·rw [if_pos (by decide),if_neg (by simp)]
     go_enter Tryz.func220,Tryz.ntmps220
     go_wp2_with (go_at_call 232; refine H8.out.mono ?_; rintro e w1 ⟨vo,vc,rfl,hown,ho1⟩; clear hown; obtain ⟨c0,c1,c2,c3⟩:=(I0.out.only ho1 (by simp)).alloc (.cells #[.slice vo ps.length vc,.bool void,.int .i64 sd,.string (str sn)] 37); simp only [Nat.zero_add] at c1 c2 c3)
     go_ret
     exact ⟨rfl,(o0.next ho1 (by simp)).alloc _⟩
    ·rw [if_pos (by decide),if_neg (by simp)]
     go_enter Tryz.func220,Tryz.ntmps220
     go_wp2_with (go_at_call 232; refine H8.out.mono ?_; rintro e w1 ⟨vo,vc,rfl,hown,ho1⟩; clear hown; obtain ⟨c0,c1,c2,c3⟩:=(I0.out.only ho1 (by simp)).alloc (.cells #[.slice vo ps.length vc,.bool void,.int .i64 sd,.string (str sn)] 37); simp only [Nat.zero_add] at c1 c2 c3)
     go_ret
     exact ⟨rfl,(o0.next ho1 (by simp)).alloc _⟩
    ·rw [if_neg (by decide)]
     go_enter Tryz.func220,Tryz.ntmps220
     go_wp2_with (go_at_call 232; refine H8.out.mono ?_; rintro e w1 ⟨vo,vc,rfl,hown,ho1⟩; clear hown; obtain ⟨c0,c1,c2,c3⟩:=(I0.out.only ho1 (by simp)).alloc (.cells #[.slice vo ps.length vc,.bool void,.int .i64 sd,.string (str sn)] 37); simp only [Nat.zero_add] at c1 c2 c3)
     go_ret
     exact ⟨rfl,(o0.next ho1 (by simp)).alloc _⟩
  ·have ge : (er == 0) = false:=by simpa using he
   rw [if_neg he]
   rcases hq with rfl | rfl | rfl | rfl
   all_goals
    go_enter Tryz.func220,Tryz.ntmps220
    go_wp2_with (go_at_call 232; refine H8.out.mono ?_; rintro e w1 ⟨vo,vc,rfl,hown,ho1⟩; clear hown; obtain ⟨c0,c1,c2,c3⟩:=(I0.out.only ho1 (by simp)).alloc (.cells #[.slice vo ps.length vc,.bool void,.int .i64 sd,.string (str sn)] 37); simp only [Nat.zero_add] at c1 c2 c3)
    go_ret
    exact ⟨rfl,(o0.next ho1 (by simp)).alloc _⟩

end Go.Proofs.YtildemmkhndhjaaGreatDoor
