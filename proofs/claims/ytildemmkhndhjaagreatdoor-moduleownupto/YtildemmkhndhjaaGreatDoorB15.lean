/-
  What the proof leans on, part 15 of 48. The conditions stand in each theorem.
-/
import Derived.Test.YtildemmkhndhjaaGreatDoorB12
import Derived.Test.YtildemmkhndhjaaGreatDoorB09
namespace Go.Proofs.YtildemmkhndhjaaGreatDoor
open Go.RowKit

theorem any_take_succ {α : Type} (p : α→Bool) (l : List α) (k : Nat) (h : k < l.length) : (l.take (k + 1)).any p = ((l.take k).any p || p l[k]):=by
 rw [List.take_succ_eq_append_getElem h,List.any_append]
 simp

theorem any_of_get {α : Type} (p : α→Bool) (l : List α) (k : Nat) (h : k < l.length) (hp : p l[k] = true) : l.any p = true:=List.any_eq_true.2 ⟨l[k],List.getElem_mem h,hp⟩

theorem fd_cells {w : World} {ao : Option Addr} {l : List Fd} {d : Nat} (h : RS w ao (fcs l) d) {j : Nat} (hj : j < l.length) :
  ∃ off,ao = some ⟨d,off,none⟩∧w.cell? ⟨d,off + j * 4,none⟩ = some (.int .i64 l[j].1)∧w.cell? ⟨d,off + j * 4 + 1,none⟩ = some (.string (str l[j].2.1))∧w.cell? ⟨d,off + j * 4 + 2,none⟩ = some (.int .i64 l[j].2.2.1)∧w.cell? ⟨d,off + j * 4 + 3,none⟩ = some (.string (str l[j].2.2.2)):=by
 obtain ⟨off,ha,hc⟩:=h.piece 4 j ((els_flat fdC (fun _=>rfl) l).el j hj) (by simp [fdC])
 exact ⟨off,ha,hc 0 _ rfl,hc 1 _ rfl,hc 2 _ rfl,hc 3 _ rfl⟩

theorem hd_cells {w : World} {ao : Option Addr} {l : List Hd} {d : Nat} (h : RS w ao (hcs l) d) {j : Nat} (hj : j < l.length) :
  ∃ off,ao = some ⟨d,off,none⟩∧w.cell? ⟨d,off + j * 4,none⟩ = some (.int .i64 l[j].1)∧w.cell? ⟨d,off + j * 4 + 1,none⟩ = some (.int .i64 l[j].2.1)∧w.cell? ⟨d,off + j * 4 + 2,none⟩ = some (.int .i64 l[j].2.2.1)∧w.cell? ⟨d,off + j * 4 + 3,none⟩ = some (.string (str l[j].2.2.2)):=by
 obtain ⟨off,ha,hc⟩:=h.piece 4 j ((els_flat hdC (fun _=>rfl) l).el j hj) (by simp [hdC])
 exact ⟨off,ha,hc 0 _ rfl,hc 1 _ rfl,hc 2 _ rfl,hc 3 _ rfl⟩

theorem me_cells {R : Rp} {w : World} {ao : Option Addr} {l : List Me} {cs : List Value} {d : Nat} (h : RS w ao cs d) (he : Els 10 (MeC R) cs l) {j : Nat} (hj : j < l.length) :
  ∃ off vp vc vh,ao = some ⟨d,off,none⟩∧MeAt R vp vc vh l[j]∧w.cell? ⟨d,off + j * 10,none⟩ = some (.int .i64 l[j].flags)∧w.cell? ⟨d,off + j * 10 + 1,none⟩ = some (.string (str l[j].name))∧w.cell? ⟨d,off + j * 10 + 2,none⟩ = some vp∧w.cell? ⟨d,off + j * 10 + 3,none⟩ = some (.bool l[j].sig.2.1) ∧
   w.cell? ⟨d,off + j * 10 + 4,none⟩ = some (.int .i64 l[j].sig.2.2.1)∧w.cell? ⟨d,off + j * 10 + 5,none⟩ = some (.string (str l[j].sig.2.2.2))∧w.cell? ⟨d,off + j * 10 + 6,none⟩ = some (.int .i64 l[j].stack)∧w.cell? ⟨d,off + j * 10 + 7,none⟩ = some (.int .i64 l[j].locals)∧w.cell? ⟨d,off + j * 10 + 8,none⟩ = some vc∧w.cell? ⟨d,off + j * 10 + 9,none⟩ = some vh:=by
 obtain ⟨vp,vc,vh,hcs,hm⟩:=he.el j hj
 obtain ⟨off,ha,hc⟩:=h.piece 10 j hcs (by simp [meC])
 exact ⟨off,vp,vc,vh,ha,hm,hc 0 _ rfl,hc 1 _ rfl,hc 2 _ rfl,hc 3 _ rfl,hc 4 _ rfl,hc 5 _ rfl,hc 6 _ rfl,hc 7 _ rfl,hc 8 _ rfl,hc 9 _ rfl⟩

theorem cl_cells {R : Rp} {w : World} {ao : Option Addr} {l : List Cl} {cs : List Value} {d : Nat} (h : RS w ao cs d) (he : Els 6 (ClC R) cs l) {j : Nat} (hj : j < l.length) :
  ∃ off vf vd vm,ao = some ⟨d,off,none⟩∧ClAt R vf vd vm l[j]∧w.cell? ⟨d,off + j * 6,none⟩ = some (.int .i64 l[j].flags)∧w.cell? ⟨d,off + j * 6 + 1,none⟩ = some (.string (str l[j].name))∧w.cell? ⟨d,off + j * 6 + 2,none⟩ = some (.string (str l[j].super))∧w.cell? ⟨d,off + j * 6 + 3,none⟩ = some vf∧w.cell? ⟨d,off + j * 6 + 4,none⟩ = some vd∧w.cell? ⟨d,off + j * 6 + 5,none⟩ = some vm:=by
 obtain ⟨vf,vd,vm,hcs,hm⟩:=he.el j hj
 obtain ⟨off,ha,hc⟩:=h.piece 6 j hcs (by simp [clC])
 exact ⟨off,vf,vd,vm,ha,hm,hc 0 _ rfl,hc 1 _ rfl,hc 2 _ rfl,hc 3 _ rfl,hc 4 _ rfl,hc 5 _ rfl⟩

set_option maxHeartbeats 1000000 in
theorem fd_clo {w : World} (g : Fd) (b : Nat) (n : List UInt8) (hb : w.cell? ⟨b,1,none⟩ = some (.string (str n))) :
  Calls Tryz.prog 119 #[fdV g,.pointer (some ⟨b,0,none⟩)] w fun e w'=>e = .returned (.bool (decide (g.2.1 = n)))∧Only [] w w':=by
 obtain ⟨fl,nm,td,tn⟩:=g
 unfold fdV
 simp only
 have o0:=(Only.refl [] w).alloc (.cells #[.int .i64 fl,.string (str nm),.int .i64 td,.string (str tn)] 44)
 have hb':=cell_alloc (.cells #[.int .i64 fl,.string (str nm),.int .i64 td,.string (str tn)] 44) hb
 have t1:=str_toList n
 have t2:=str_toList nm
 by_cases hq : nm = n
 ·subst hq
  rw [decide_eq_true rfl]
  go_enter Tryz.func119,Tryz.ntmps119
  go_wp2
  go_ret
  exact ⟨rfl,o0⟩
 ·rw [decide_eq_false hq]
  have hq' : (nm == n) = false:=by simpa using hq
  go_enter Tryz.func119,Tryz.ntmps119
  go_wp2
  go_ret
  exact ⟨rfl,o0⟩

set_option maxHeartbeats 1000000 in
theorem cl_clo {w : World} (g : Cl) (vf vd vm : Value) (b : Nat) (n : List UInt8) (hb : w.cell? ⟨b,1,none⟩ = some (.string (str n))) :
  Calls Tryz.prog 23 #[clV vf vd vm g,.pointer (some ⟨b,0,none⟩)] w fun e w'=>e = .returned (.bool (decide (g.name = n)))∧Only [] w w':=by
 obtain ⟨fl,nm,su,_,_,_⟩:=g
 unfold clV
 simp only
 have o0:=(Only.refl [] w).alloc (.cells #[.int .i64 fl,.string (str nm),.string (str su),vf,vd,vm] 28)
 have hb':=cell_alloc (.cells #[.int .i64 fl,.string (str nm),.string (str su),vf,vd,vm] 28) hb
 have t1:=str_toList n
 have t2:=str_toList nm
 by_cases hq : nm = n
 ·subst hq
  rw [decide_eq_true rfl]
  go_enter Tryz.func23,Tryz.ntmps23
  go_wp2
  go_ret
  exact ⟨rfl,o0⟩
 ·rw [decide_eq_false hq]
  have hq' : (nm == n) = false:=by simpa using hq
  go_enter Tryz.func23,Tryz.ntmps23
  go_wp2
  go_ret
  exact ⟨rfl,o0⟩

/-- A method in a block: what a closure reads of it. -/
structure MeBlk (w : World) (b : Nat) (vp : Value) (m : Me) : Prop where
 c1 : w.cell? ⟨b,1,none⟩ = some (.string (str m.name))
 c2 : w.cell? ⟨b,2,none⟩ = some vp
 c3 : w.cell? ⟨b,3,none⟩ = some (.bool m.sig.2.1)
 c4 : w.cell? ⟨b,4,none⟩ = some (.int .i64 m.sig.2.2.1)
 c5 : w.cell? ⟨b,5,none⟩ = some (.string (str m.sig.2.2.2))

theorem MeBlk.only {w w' : World} {S : List Nat} {b : Nat} {vp : Value} {m : Me} (h : MeBlk w b vp m) (ho : Only S w w') (hb : b ∉ S) : MeBlk w' b vp m:=by
 have hl : b < w.heap.size:=World.block_lt_of_cell? w _ h.c1
 exact ⟨(ho.cell (p:=⟨b,1,none⟩) hl hb).trans h.c1,(ho.cell (p:=⟨b,2,none⟩) hl hb).trans h.c2,(ho.cell (p:=⟨b,3,none⟩) hl hb).trans h.c3,(ho.cell (p:=⟨b,4,none⟩) hl hb).trans h.c4,(ho.cell (p:=⟨b,5,none⟩) hl hb).trans h.c5⟩

set_option maxHeartbeats 2000000 in
theorem me_clo {w : World} {P Q : Nat→Prop} (g : Me) {vp vc vh : Value} (hg : SlV w P vp g.sig.1.length (tcs g.sig.1)) (b : Nat) {vq : Value} {m : Me} (hb : MeBlk w b vq m) (hq : SlV w Q vq m.sig.1.length (tcs m.sig.1)) :
  Calls Tryz.prog 122 #[meV vp vc vh g,.pointer (some ⟨b,0,none⟩)] w fun e w'=>e = .returned (.bool (decide (g.name = m.name) && sameR g.sig m.sig))∧Only [] w w':=by
 obtain ⟨ao,ac,ad,rfl,hA⟩:=hg
 obtain ⟨bo,bc,bd,rfl,hB⟩:=hq
 obtain ⟨fl,nm,⟨ps,vo,td,tn⟩,st,lo,code,hs⟩:=g
 obtain ⟨fl2,nm2,⟨ps2,vo2,td2,tn2⟩,st2,lo2,code2,hs2⟩:=m
 unfold meV
 simp only at hA hB hb ⊢
 have o0:=(Only.refl [] w).alloc (.cells #[.int .i64 fl,.string (str nm),.slice ao ps.length ac,.bool vo,.int .i64 td,.string (str tn),.int .i64 st,.int .i64 lo,vc,vh] 41)
 have hb':=hb.only o0 (by simp)
 have HS:=hid (same_any (cap:=ac) (bap:=bc) (TS.of_rs (hA.rs.only0 o0)) (TS.of_rs (hB.rs.only0 o0)) (by have:=hA.le; have:=hA.max; omega) vo vo2 (td,tn) (td2,tn2))
 obtain ⟨k1,k2,k3,k4,k5⟩:=hb'
 simp only at k1 k2 k3 k4 k5
 have t1:=str_toList nm
 have t2:=str_toList nm2
 clear hA hB hb
 by_cases hn : nm = nm2
 ·subst hn
  rw [decide_eq_true rfl,Bool.true_and]
  generalize sameR (ps,vo,td,tn) (ps2,vo2,td2,tn2) = z at *
  unfold sigV at HS
  cases z with
  | true=>
   go_enter Tryz.func122,Tryz.ntmps122
   go_wp2_with fail
   refine HS.out.mono ?_
   rintro e w1 ⟨rfl,ho⟩
   go_wp2_with fail
   go_ret
   exact ⟨rfl,o0.next ho (by simp)⟩
  | false=>
   go_enter Tryz.func122,Tryz.ntmps122
   go_wp2_with fail
   refine HS.out.mono ?_
   rintro e w1 ⟨rfl,ho⟩
   go_wp2_with fail
   go_ret
   exact ⟨rfl,o0.next ho (by simp)⟩
 ·rw [decide_eq_false hn,Bool.false_and]
  have hn' : (nm == nm2) = false:=by simpa using hn
  clear HS
  go_enter Tryz.func122,Tryz.ntmps122
  go_wp2_with fail
  go_ret
  exact ⟨rfl,o0⟩

set_option maxHeartbeats 2000000 in
theorem index_fd {w : World} {ao : Option Addr} {l : List Fd} {d cap : Nat} (hS : RS w ao (fcs l) d) (hl : l.length≤9223372036854775807) (b : Nat) (n : List UInt8) (hb : w.cell? ⟨b,1,none⟩ = some (.string (str n))) :
  Calls Tryz.prog 164 #[.slice ao l.length cap,.func (.func 119) #[] #[.pointer (some ⟨b,0,none⟩)]] w fun e w'=>∃ k : Int,e = .returned (.int .i64 k)∧decide (0≤k) = l.any (fun g=>decide (g.2.1 = n))∧Only [] w w':=by
 have HS:=hid hS
 have HB:=hid hb
 clear hS hb
 go_enter Tryz.func164,Tryz.ntmps164
 go_wp2
 go_loopw [8] (fun i wr=>∃ k : Nat,k≤l.length∧i = .int .i64 (k : Int)∧(l.take k).any (fun g=>decide (g.2.1 = n)) = false∧Only [] w wr) (fun i _=>l.length - (intOf i).toNat)
 case atStart=>exact ⟨0,Nat.zero_le _,rfl,by simp,Only.refl _ _⟩
 case round=>
  obtain ⟨k,hk,rfl,hn,ho⟩:=hrel
  by_cases hlt : k < l.length
  ·have HA:=hid (any_take_succ (fun g=>decide (g.2.1 = n)) l k hlt)
   have HG:=hid (any_of_get (fun g=>decide (g.2.1 = n)) l k hlt)
   have HN:=hid hn
   obtain ⟨off,rfl,c0,c1,c2,c3⟩:=fd_cells (HS.out.only0 ho) hlt
   have hb2 : wr.cell? ⟨b,1,none⟩ = some (.string (str n)):=(ho.cell (p:=⟨b,1,none⟩) (World.block_lt_of_cell? w _ HB.out) (by simp)).trans HB.out
   generalize l[k] = g at *
   have HC:=hid (fd_clo g b n hb2)
   unfold fdV at HC
   clear hb2
   go_wp2_with fail
   refine HC.out.mono ?_
   rintro e w1 ⟨rfl,ho1⟩
   by_cases hq : (fun g=>decide (g.2.1 = n)) g = true
   ·simp only at hq
    rw [hq]
    go_wp2_with fail
    go_ret
    exact ⟨k,rfl,by rw [HG.out hq]; simp,ho.next ho1 (by simp)⟩
   ·have hq' : (fun g=>decide (g.2.1 = n)) g = false:=by simpa using hq
    simp only at hq'
    rw [hq']
    go_wp2_with fail
    refine ⟨⟨k + 1,by omega,by go_num,?_,ho.next ho1 (by simp)⟩,by simp [intOf]; omega⟩
    rw [HA.out,HN.out]
    simpa using hq'
  ·go_wp2
   go_ret
   rw [List.take_of_length_le (by omega)] at hn
   exact ⟨-1,rfl,by rw [hn]; simp,ho⟩

theorem contains_fd {w : World} {ao : Option Addr} {l : List Fd} {d cap : Nat} (hS : RS w ao (fcs l) d) (hl : l.length≤9223372036854775807) (b : Nat) (n : List UInt8) (hb : w.cell? ⟨b,1,none⟩ = some (.string (str n))) :
  Calls Tryz.prog 118 #[.slice ao l.length cap,.func (.func 119) #[] #[.pointer (some ⟨b,0,none⟩)]] w fun e w'=>e = .returned (.bool (l.any (fun g=>decide (g.2.1 = n))))∧Only [] w w':=by
 have HI:=hid (index_fd (cap:=cap) hS hl b n hb)
 go_enter Tryz.func118,Tryz.ntmps118
 go_wp2_with (go_at_call 164; refine HI.out.mono ?_; rintro e w' ⟨k,rfl,hk,ho⟩; replace hk:=hid hk)
 go_ret
 exact ⟨by rw [← hk.out]; rfl,ho⟩

set_option maxHeartbeats 2000000 in
theorem index_cl {w : World} {R : Rp} {ao : Option Addr} {l : List Cl} {cs : List Value} {d cap : Nat} (hS : RS w ao cs d) (hE : Els 6 (ClC R) cs l) (hl : l.length≤9223372036854775807) (b : Nat) (n : List UInt8) (hb : w.cell? ⟨b,1,none⟩ = some (.string (str n))) :
  Calls Tryz.prog 57 #[.slice ao l.length cap,.func (.func 23) #[] #[.pointer (some ⟨b,0,none⟩)]] w fun e w'=>∃ k : Int,e = .returned (.int .i64 k)∧decide (0≤k) = l.any (fun g=>decide (g.name = n))∧Only [] w w':=by
 have HS:=hid hS
 have HE:=hid hE
 have HB:=hid hb
 clear hS hb hE
 go_enter Tryz.func57,Tryz.ntmps57
 go_wp2
 go_loopw [8] (fun i wr=>∃ k : Nat,k≤l.length∧i = .int .i64 (k : Int)∧(l.take k).any (fun g=>decide (g.name = n)) = false∧Only [] w wr) (fun i _=>l.length - (intOf i).toNat)
 case atStart=>exact ⟨0,Nat.zero_le _,rfl,by simp,Only.refl _ _⟩
 case round=>
  obtain ⟨k,hk,rfl,hn,ho⟩:=hrel
  by_cases hlt : k < l.length
  ·have HA:=hid (any_take_succ (fun g=>decide (g.name = n)) l k hlt)
   have HG:=hid (any_of_get (fun g=>decide (g.name = n)) l k hlt)
   have HN:=hid hn
   obtain ⟨off,vf,vd,vm,rfl,_,c0,c1,c2,c3,c4,c5⟩:=cl_cells (HS.out.only0 ho) HE.out hlt
   have hb2 : wr.cell? ⟨b,1,none⟩ = some (.string (str n)):=(ho.cell (p:=⟨b,1,none⟩) (World.block_lt_of_cell? w _ HB.out) (by simp)).trans HB.out
   generalize l[k] = g at *
   have HC:=hid (cl_clo g vf vd vm b n hb2)
   unfold clV at HC
   clear hb2
   go_wp2_with fail
   refine HC.out.mono ?_
   rintro e w1 ⟨rfl,ho1⟩
   by_cases hq : (fun g=>decide (g.name = n)) g = true
   ·simp only at hq
    rw [hq]
    go_wp2_with fail
    go_ret
    exact ⟨k,rfl,by rw [HG.out hq]; simp,ho.next ho1 (by simp)⟩
   ·have hq' : (fun g=>decide (g.name = n)) g = false:=by simpa using hq
    simp only at hq'
    rw [hq']
    go_wp2_with fail
    refine ⟨⟨k + 1,by omega,by go_num,?_,ho.next ho1 (by simp)⟩,by simp [intOf]; omega⟩
    rw [HA.out,HN.out]
    simpa using hq'
  ·go_wp2
   go_ret
   rw [List.take_of_length_le (by omega)] at hn
   exact ⟨-1,rfl,by rw [hn]; simp,ho⟩

theorem contains_cl {w : World} {R : Rp} {ao : Option Addr} {l : List Cl} {cs : List Value} {d cap : Nat} (hS : RS w ao cs d) (hE : Els 6 (ClC R) cs l) (hl : l.length≤9223372036854775807) (b : Nat) (n : List UInt8) (hb : w.cell? ⟨b,1,none⟩ = some (.string (str n))) :
  Calls Tryz.prog 22 #[.slice ao l.length cap,.func (.func 23) #[] #[.pointer (some ⟨b,0,none⟩)]] w fun e w'=>e = .returned (.bool (l.any (fun g=>decide (g.name = n))))∧Only [] w w':=by
 have HI:=hid (index_cl (cap:=cap) hS hE hl b n hb)
 go_enter Tryz.func22,Tryz.ntmps22
 go_wp2_with (go_at_call 57; refine HI.out.mono ?_; rintro e w' ⟨k,rfl,hk,ho⟩; replace hk:=hid hk)
 go_ret
 exact ⟨by rw [← hk.out]; rfl,ho⟩

set_option maxHeartbeats 2000000 in
theorem index_me {w : World} {P Q : Nat→Prop} {ao : Option Addr} {l : List Me} {cs : List Value} {d cap : Nat} (hS : RS w ao cs d) (hE : Els 10 (MeC (SlR w P)) cs l) (hl : l.length≤9223372036854775807) (b : Nat) {vq : Value} {m : Me} (hb : MeBlk w b vq m) (hq : SlV w Q vq m.sig.1.length (tcs m.sig.1)) :
  Calls Tryz.prog 167 #[.slice ao l.length cap,.func (.func 122) #[] #[.pointer (some ⟨b,0,none⟩)]] w fun e w'=>∃ k : Int,e = .returned (.int .i64 k)∧decide (0≤k) = l.any (fun g=>decide (g.name = m.name) && sameR g.sig m.sig)∧Only [] w w':=by
 have HS:=hid hS
 have HE:=hid hE
 have HB:=hid hb
 have HQ:=hid hq
 clear hS hb hE hq
 go_enter Tryz.func167,Tryz.ntmps167
 go_wp2
 go_loopw [8] (fun i wr=>∃ k : Nat,k≤l.length∧i = .int .i64 (k : Int)∧(l.take k).any (fun g=>decide (g.name = m.name) && sameR g.sig m.sig) = false∧Only [] w wr) (fun i _=>l.length - (intOf i).toNat)
 case atStart=>exact ⟨0,Nat.zero_le _,rfl,by simp,Only.refl _ _⟩
 case round=>
  obtain ⟨k,hk,rfl,hn,ho⟩:=hrel
  by_cases hlt : k < l.length
  ·have HA:=hid (any_take_succ (fun g=>decide (g.name = m.name) && sameR g.sig m.sig) l k hlt)
   have HG:=hid (any_of_get (fun g=>decide (g.name = m.name) && sameR g.sig m.sig) l k hlt)
   have HN:=hid hn
   obtain ⟨off,vp,vc,vh,rfl,hM,c0,c1,c2,c3,c4,c5,c6,c7,c8,c9⟩:=me_cells (HS.out.only0 ho) HE.out hlt
   have hb2:=HB.out.only ho (by simp)
   have hp:=SlV.only hM.params ho (by simp)
   clear hM
   have hq2:=HQ.out.only ho (by simp)
   generalize l[k] = g at *
   have HC:=hid (me_clo (vc:=vc) (vh:=vh) g hp b hb2 hq2)
   unfold meV at HC
   clear hb2 hp hq2
   go_wp2_with fail
   refine HC.out.mono ?_
   rintro e w1 ⟨rfl,ho1⟩
   by_cases hq : (fun g=>decide (g.name = m.name) && sameR g.sig m.sig) g = true
   ·simp only at hq
    rw [hq]
    go_wp2_with fail
    go_ret
    exact ⟨k,rfl,by rw [HG.out hq]; simp,ho.next ho1 (by simp)⟩
   ·have hq' : (fun g=>decide (g.name = m.name) && sameR g.sig m.sig) g = false:=by simpa using hq
    simp only at hq'
    rw [hq']
    go_wp2_with fail
    refine ⟨⟨k + 1,by omega,by go_num,?_,ho.next ho1 (by simp)⟩,by simp [intOf]; omega⟩
    rw [HA.out,HN.out]
    simpa using hq'
  ·go_wp2
   go_ret
   rw [List.take_of_length_le (by omega)] at hn
   exact ⟨-1,rfl,by rw [hn]; simp,ho⟩

theorem contains_me {w : World} {P Q : Nat→Prop} {ao : Option Addr} {l : List Me} {cs : List Value} {d cap : Nat} (hS : RS w ao cs d) (hE : Els 10 (MeC (SlR w P)) cs l) (hl : l.length≤9223372036854775807) (b : Nat) {vq : Value} {m : Me} (hb : MeBlk w b vq m) (hq : SlV w Q vq m.sig.1.length (tcs m.sig.1)) :
  Calls Tryz.prog 121 #[.slice ao l.length cap,.func (.func 122) #[] #[.pointer (some ⟨b,0,none⟩)]] w fun e w'=>e = .returned (.bool (l.any (fun g=>decide (g.name = m.name) && sameR g.sig m.sig)))∧Only [] w w':=by
 have HI:=hid (index_me (cap:=cap) hS hE hl b hb hq)
 go_enter Tryz.func121,Tryz.ntmps121
 go_wp2_with (go_at_call 167; refine HI.out.mono ?_; rintro e w' ⟨k,rfl,hk,ho⟩; replace hk:=hid hk)
 go_ret
 exact ⟨by rw [← hk.out]; rfl,ho⟩

end Go.Proofs.YtildemmkhndhjaaGreatDoor
