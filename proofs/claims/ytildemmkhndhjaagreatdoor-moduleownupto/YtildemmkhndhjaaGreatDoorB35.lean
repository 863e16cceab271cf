/-
  What the proof leans on, part 35 of 48. The conditions stand in each theorem.
-/
import Derived.Test.YtildemmkhndhjaaGreatDoorB34
namespace Go.Proofs.YtildemmkhndhjaaGreatDoor
open Go.RowKit

/-- The four cells of a field's block. -/
structure Fd4 (w : World) (b : Nat) (f : Fd) : Prop where
 c0 : w.cell? ⟨b,0,none⟩ = some (.int .i64 f.1)
 c1 : w.cell? ⟨b,1,none⟩ = some (.string (str f.2.1))
 c2 : w.cell? ⟨b,2,none⟩ = some (.int .i64 f.2.2.1)
 c3 : w.cell? ⟨b,3,none⟩ = some (.string (str f.2.2.2))

theorem Fd4.only0 {w w' : World} {b : Nat} {f : Fd} (h : Fd4 w b f) (ho : Only [] w w') : Fd4 w' b f:=by
 have hl:=World.block_lt_of_cell? w _ h.c0
 exact ⟨(ho.cell (p:=⟨b,0,none⟩) hl (by simp)).trans h.c0,(ho.cell (p:=⟨b,1,none⟩) hl (by simp)).trans h.c1,(ho.cell (p:=⟨b,2,none⟩) hl (by simp)).trans h.c2,(ho.cell (p:=⟨b,3,none⟩) hl (by simp)).trans h.c3⟩

theorem fd4_new (w : World) (f : Fd) (t : TypeId) : Fd4 (w.alloc (.cells #[.int .i64 f.1,.string (str f.2.1),.int .i64 f.2.2.1,.string (str f.2.2.2)] t)) w.heap.size f:=
 ⟨by rw [cell_new]; rfl,by rw [cell_new]; rfl,by rw [cell_new]; rfl,by rw [cell_new]; rfl⟩

set_option maxHeartbeats 2000000 in
set_option maxRecDepth 100000 in
theorem rfield5_any {w : World} {P : Nat→Prop} (c : Cl) (i : Nat) (hi : i < c.fields.length) (hF : ∀ f∈c.fields,f.2.1.length≤9223372036854775807∧f.2.2.2.length≤9223372036854775807) {vf vd vm : Value} (hC : SlV w P vd c.fields.length (fcs c.fields)) :
  Calls Tryz.prog 154 #[clV vf vd vm c,.int .i64 (i : Int)] w fun e w'=>e = .returned (.int .i64 (fieldE (c.fields.take i) c.fields[i]))∧Only [] w w':=by
 obtain ⟨fo,fc,rfl,hlen⟩:=hC.shape
 obtain ⟨d,hr⟩:=hC.rs
 obtain ⟨f,hf⟩ : ∃ f,f = c.fields[i]:=⟨_,rfl⟩
 have hfit : f.2.1.length≤9223372036854775807∧f.2.2.2.length≤9223372036854775807:=by rw [hf]; exact hF _ (List.getElem_mem hi)
 have HN:=fun W=>rname_any f.2.1 hfit.1 W
 have HT:=fun W=>rcheck_any f.2.2 hfit.2 W
 have o0:=(Only.refl [] w).alloc (.cells #[.int .i64 c.flags,.string (str c.name),.string (str c.super),vf,.slice fo c.fields.length fc,vm] 28)
 obtain ⟨off,hao,y0,y1,y2,y3⟩:=fd_cells (hr.only0 o0) hi
 subst hao
 rw [← hf] at y0 y1 y2 y3 ⊢
 have S0:=cl6_new w (.int .i64 c.flags) (.string (str c.name)) (.string (str c.super)) vf (.slice (some ⟨d,off,none⟩) c.fields.length fc) vm 28
 have o1:=o0.alloc (.cells #[.int .i64 f.1,.string (str f.2.1),.int .i64 f.2.2.1,.string (str f.2.2.2)] 44)
 have F1:=fd4_new (w.alloc (.cells #[.int .i64 c.flags,.string (str c.name),.string (str c.super),vf,.slice (some ⟨d,off,none⟩) c.fields.length fc,vm] 28)) f 44
 rw [World.size_alloc] at F1
 have S1:=hid (S0.only ((Only.refl [] _).alloc (.cells #[.int .i64 f.1,.string (str f.2.1),.int .i64 f.2.2.1,.string (str f.2.2.2)] 44)) (by simp))
 obtain ⟨c0,c1,c2,c3,c4,c5,_,_,_,_,_,_⟩:=S0
 obtain ⟨R,hR⟩ : ∃ R,R = fieldE (c.fields.take i) f:=⟨_,rfl⟩
 rw [← hR]
 unfold fieldE at hR
 replace hR:=hid hR
 have gi : ((i : Int) < (c.fields.length : Int)):=by omega
 unfold tyV at HT
 replace HN:=hid HN
 replace HT:=hid HT
 replace hr:=hid hr
 replace hf:=hid hf
 obtain ⟨fl,fn,td,tn⟩:=f
 simp only at *
 unfold clV
 by_cases hfl : fl≠0∧fl≠4
 ·have hRR : R = 21:=by rw [hR.out,if_pos hfl]
  subst hRR
  obtain ⟨g0,g4⟩:=hfl
  have g0' : (fl == 0) = false:=by simpa using g0
  have g4' : (fl == 4) = false:=by simpa using g4
  have n0 : (fl != 0) = true:=by simpa using g0
  have n4 : (fl != 4) = true:=by simpa using g4
  clear hR HN HT
  go_enter Tryz.func154,Tryz.ntmps154
  go_wp2
  go_ret
  exact ⟨rfl,o1⟩
 ·have hfl' : fl = 0∨fl = 4:=by omega
  have hR1 : Hid (R = if nameOK fn = true then if tyCheck (td,tn) = 0 then if (c.fields.take i).any (fun g=>decide (g.2.1 = fn)) = true then 20 else 0 else tyCheck (td,tn) else 14):=by
   unfold Hid
   rw [hR.out,if_neg hfl]
  clear hR hfl
  rcases hfl' with rfl | rfl
  ·cases hnm : nameOK fn with
   | false=>
    rw [hnm] at HN hR1
    have hRR : R = 14:=by rw [hR1.out]; simp
    subst hRR
    clear hR1 HT
    go_enter Tryz.func154,Tryz.ntmps154
    go_wp2_with fail
    refine (HN.out _).mono ?_
    rintro e w' ⟨rfl,rfl⟩
    go_wp2_with fail
    go_ret
    exact ⟨rfl,o1⟩
   | true=>
    rw [hnm] at HN hR1
    generalize hte : tyCheck (td,tn) = te at *
    have F1h:=hid F1
    by_cases h0 : te = 0
    ·subst h0
     go_enter Tryz.func154,Tryz.ntmps154
     go_wp2_with fail
     refine (HN.out _).mono ?_
     rintro e w' ⟨rfl,rfl⟩
     go_wp2_with fail
     refine (HT.out _).mono ?_
     rintro e w3 ⟨rfl,o3⟩
     have S3:=hid (S1.out.only o3 (by simp))
     have F3:=hid (F1h.out.only0 o3)
     have oo:=hid (o1.trans o3 (by simp))
     clear HN HT c0 c1 c2 c3 c4 c5 y0 y1 y2 y3 S1 F1h F1 o1 o3
     go_wp2_with fail
     go_loopw [7] (fun v wr=>∃ j : Nat,j≤i∧v = .int .i64 (j : Int)∧Hid (∀ k (hk : k < c.fields.length),k < j→decide (c.fields[k].2.1 = fn) = false)∧Hid (Cl6 wr w.heap.size (.int .i64 c.flags) (.string (str c.name)) (.string (str c.super)) vf (.slice (some ⟨d,off,none⟩) c.fields.length fc) vm)∧Hid (Fd4 wr (w.heap.size + 1) (0,fn,td,tn))∧Hid (Only [] w wr)) (fun v _=>i - (intOf v).toNat)
     case atStart=>exact ⟨0,by omega,rfl,hid (fun k hk h=>by omega),S3,F3,oo⟩
     case round=>
      obtain ⟨j,hj,rfl,hno,hS,hF4,ho⟩:=hrel
      clear S3 F3 oo
      obtain ⟨c0,c1,c2,c3,c4,c5,_,_,_,_,_,_⟩:=hS.out
      obtain ⟨f0,f1,f2,f3⟩:=hF4.out
      by_cases hlt : j < i
      ·have g1 : ((j : Int) < (i : Int)):=by omega
       have g2 : ((j : Int) < (c.fields.length : Int)):=by omega
       obtain ⟨off1,e1,y0,y1,y2,y3⟩:=fd_cells (hr.out.only0 ho.out) (j:=j) (by omega)
       simp only [Option.some.injEq,Addr.mk.injEq,true_and,and_true] at e1
       subst e1
       by_cases hq : c.fields[j].2.1 = fn
       ·have hRR : R = 20:=by
         rw [hR1.out,if_pos trivial,if_pos trivial,if_pos (any_true_take (k:=j) (by omega) hlt (by simpa using hq))]
        subst hRR
        clear hR1 hno
        rw [hq] at y1
        go_wp2_with fail
        go_region
        go_wp2
        go_ret
        exact ⟨rfl,ho.out.drew⟩
       ·have p1 : ¬ ((str c.fields[j].2.1).toList = (str fn).toList):=by rw [str_toList,str_toList]; exact hq
        have q1 : ((str c.fields[j].2.1).toList == (str fn).toList) = false:=by simpa using p1
        have hno2 : Hid (∀ k (hk : k < c.fields.length),k < j + 1→decide (c.fields[k].2.1 = fn) = false):=by
         intro k hk h
         by_cases e : k = j
         ·subst e; simpa using hq
         ·exact hno.out k hk (by omega)
        generalize c.fields[j].2.1 = s at *
        clear hno hq
        go_wp2_with fail
        go_region
        go_wp2
        exact ⟨⟨j + 1,by omega,by go_num,hno2,hid (hS.out.only (Only.refl [] _).drew (by simp)),hid (hF4.out.only0 (Only.refl [] _).drew),hid ho.out.drew⟩,by simp [intOf]; omega⟩
      ·have g1 : ¬ ((j : Int) < (i : Int)):=by omega
       have hRR : R = 0:=by
        obtain rfl : j = i:=by omega
        rw [hR1.out,if_pos trivial,if_pos trivial,if_neg]
        rw [any_false_take hno.out]
        simp
       subst hRR
       clear hR1
       go_wp2
       go_ret
       exact ⟨rfl,ho.out⟩
    ·have h0' : (te == 0) = false:=by simpa using h0
     have h0n : (te != 0) = true:=by simpa using h0
     have hRR : R = te:=by rw [hR1.out,if_pos rfl,if_neg h0]
     subst hRR
     clear hR1 hte
     go_enter Tryz.func154,Tryz.ntmps154
     go_wp2_with fail
     refine (HN.out _).mono ?_
     rintro e w' ⟨rfl,rfl⟩
     go_wp2_with fail
     refine (HT.out _).mono ?_
     rintro e w3 ⟨rfl,o3⟩
     go_wp2_with fail
     go_ret
     exact ⟨rfl,o1.trans o3 (by simp)⟩
  ·cases hnm : nameOK fn with
   | false=>
    rw [hnm] at HN hR1
    have hRR : R = 14:=by rw [hR1.out]; simp
    subst hRR
    clear hR1 HT
    go_enter Tryz.func154,Tryz.ntmps154
    go_wp2_with fail
    refine (HN.out _).mono ?_
    rintro e w' ⟨rfl,rfl⟩
    go_wp2_with fail
    go_ret
    exact ⟨rfl,o1⟩
   | true=>
    rw [hnm] at HN hR1
    generalize hte : tyCheck (td,tn) = te at *
    have F1h:=hid F1
    by_cases h0 : te = 0
    ·subst h0
     go_enter Tryz.func154,Tryz.ntmps154
     go_wp2_with fail
     refine (HN.out _).mono ?_
     rintro e w' ⟨rfl,rfl⟩
     go_wp2_with fail
     refine (HT.out _).mono ?_
     rintro e w3 ⟨rfl,o3⟩
     have S3:=hid (S1.out.only o3 (by simp))
     have F3:=hid (F1h.out.only0 o3)
     have oo:=hid (o1.trans o3 (by simp))
     clear HN HT c0 c1 c2 c3 c4 c5 y0 y1 y2 y3 S1 F1h F1 o1 o3
     go_wp2_with fail
     go_loopw [7] (fun v wr=>∃ j : Nat,j≤i∧v = .int .i64 (j : Int)∧Hid (∀ k (hk : k < c.fields.length),k < j→decide (c.fields[k].2.1 = fn) = false)∧Hid (Cl6 wr w.heap.size (.int .i64 c.flags) (.string (str c.name)) (.string (str c.super)) vf (.slice (some ⟨d,off,none⟩) c.fields.length fc) vm)∧Hid (Fd4 wr (w.heap.size + 1) (4,fn,td,tn))∧Hid (Only [] w wr)) (fun v _=>i - (intOf v).toNat)
     case atStart=>exact ⟨0,by omega,rfl,hid (fun k hk h=>by omega),S3,F3,oo⟩
     case round=>
      obtain ⟨j,hj,rfl,hno,hS,hF4,ho⟩:=hrel
      clear S3 F3 oo
      obtain ⟨c0,c1,c2,c3,c4,c5,_,_,_,_,_,_⟩:=hS.out
      obtain ⟨f0,f1,f2,f3⟩:=hF4.out
      by_cases hlt : j < i
      ·have g1 : ((j : Int) < (i : Int)):=by omega
       have g2 : ((j : Int) < (c.fields.length : Int)):=by omega
       obtain ⟨off1,e1,y0,y1,y2,y3⟩:=fd_cells (hr.out.only0 ho.out) (j:=j) (by omega)
       simp only [Option.some.injEq,Addr.mk.injEq,true_and,and_true] at e1
       subst e1
       by_cases hq : c.fields[j].2.1 = fn
       ·have hRR : R = 20:=by
         rw [hR1.out,if_pos trivial,if_pos trivial,if_pos (any_true_take (k:=j) (by omega) hlt (by simpa using hq))]
        subst hRR
        clear hR1 hno
        rw [hq] at y1
        go_wp2_with fail
        go_region
        go_wp2
        go_ret
        exact ⟨rfl,ho.out.drew⟩
       ·have p1 : ¬ ((str c.fields[j].2.1).toList = (str fn).toList):=by rw [str_toList,str_toList]; exact hq
        have q1 : ((str c.fields[j].2.1).toList == (str fn).toList) = false:=by simpa using p1
        have hno2 : Hid (∀ k (hk : k < c.fields.length),k < j + 1→decide (c.fields[k].2.1 = fn) = false):=by
         intro k hk h
         by_cases e : k = j
         ·subst e; simpa using hq
         ·exact hno.out k hk (by omega)
        generalize c.fields[j].2.1 = s at *
        clear hno hq
        go_wp2_with fail
        go_region
        go_wp2
        exact ⟨⟨j + 1,by omega,by go_num,hno2,hid (hS.out.only (Only.refl [] _).drew (by simp)),hid (hF4.out.only0 (Only.refl [] _).drew),hid ho.out.drew⟩,by simp [intOf]; omega⟩
      ·have g1 : ¬ ((j : Int) < (i : Int)):=by omega
       have hRR : R = 0:=by
        obtain rfl : j = i:=by omega
        rw [hR1.out,if_pos trivial,if_pos trivial,if_neg]
        rw [any_false_take hno.out]
        simp
       subst hRR
       clear hR1
       go_wp2
       go_ret
       exact ⟨rfl,ho.out⟩
    ·have h0' : (te == 0) = false:=by simpa using h0
     have h0n : (te != 0) = true:=by simpa using h0
     have hRR : R = te:=by rw [hR1.out,if_pos rfl,if_neg h0]
     subst hRR
     clear hR1 hte
     go_enter Tryz.func154,Tryz.ntmps154
     go_wp2_with fail
     refine (HN.out _).mono ?_
     rintro e w' ⟨rfl,rfl⟩
     go_wp2_with fail
     refine (HT.out _).mono ?_
     rintro e w3 ⟨rfl,o3⟩
     go_wp2_with fail
     go_ret
     exact ⟨rfl,o1.trans o3 (by simp)⟩

end Go.Proofs.YtildemmkhndhjaaGreatDoor
