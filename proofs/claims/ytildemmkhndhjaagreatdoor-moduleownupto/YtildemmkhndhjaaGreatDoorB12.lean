/-
  What the proof leans on, part 12 of 48. The conditions stand in each theorem.
-/
import Derived.Test.YtildemmkhndhjaaGreatDoorB09
import Derived.Test.YtildemmkhndhjaaGreatDoorB11
import Derived.Test.YtildemmkhndhjaaGreatDoorB06
import Derived.Test.YtildemmkhndhjaaGreatDoorB08
import Derived.Test.YtildemmkhndhjaaGreatDoorB05
namespace Go.Proofs.YtildemmkhndhjaaGreatDoor
open Go.RowKit

/-- Does an instruction begin there? -/
def begunI (l : List In) (k : Nat) : Bool:=l.any fun i=>decide (i.1 = (k : Int))
def wrongI (all : List In) (l : List En) (locals : Int) (i : In) : Int:=if rowI i.2.1 = 2 then (if locals≤i.2.2.1 then 43 else 0) else if rowI i.2.1 = 4 then (if begunI all i.2.2.1.toNat = true then 0 else 18) else entryI l i
def checkL (all : List In) (l : List En) (locals : Int) : List In→Int × Int
 | []=>(0,0)
 | i :: r=>if wrongI all l locals i = 0 then checkL all l locals r else (i.1,wrongI all l locals i)
def checkI (code : List UInt8) (l : List En) (locals : Int) : Int × Int:=if code = [] then (0,46) else if 1024 < code.length then (0,5) else if (allR code).2.2 = 0 then checkL (allR code).1 l locals (allR code).1 else ((allR code).2.1,(allR code).2.2)

theorem wrongB_eq {bl : List Bool} {all : List In} (h : ∀ k,bl.getD k false = begunI all k) (l : List En) (locals : Int) (i : In) : wrongB bl l locals i = wrongI all l locals i:=by
 unfold wrongB wrongI
 rw [h]

theorem begun_snoc (l : List In) (i : In) (k : Nat) : begunI (l ++ [i]) k = (begunI l k || decide (i.1 = (k : Int))):=by simp [begunI]

theorem begun_set {bl : List Bool} {l : List In} {i : In} {p : Nat} (h : ∀ k,bl.getD k false = begunI l k) (hi : i.1 = (p : Int)) (hp : p < bl.length) : ∀ k,(bl.set p true).getD k false = begunI (l ++ [i]) k:=by
 intro k
 rw [begun_snoc,← h k,hi]
 by_cases hk : k = p
 ·subst hk
  simp [List.getD,hp]
 ·have : ¬ ((p : Int) = (k : Int)):=by omega
  simp [List.getD,Ne.symm hk,this]

theorem checkL_drop {all : List In} {l : List En} {locals : Int} {r : List In} {j : Nat} (h : j < r.length) : checkL all l locals (r.drop j) = if wrongI all l locals r[j] = 0 then checkL all l locals (r.drop (j + 1)) else (r[j].1,wrongI all l locals r[j]):=by
 rw [List.drop_eq_getElem_cons h,checkL]

theorem elBool : ElT 4 (.bool false) 1 1:=⟨by kernel_rfl,rfl,by decide,by decide⟩

theorem lcs_replicate (n : Nat) : (madeCells (Value.bool false).cells (n * 1)).toList = lcs (List.replicate n false):=by
 have : (Value.bool false).cells = #[Value.bool false]:=rfl
 rw [this,Nat.mul_one,toList_madeCells_one]
 simp [lcs]

theorem lcs_set (l : List Bool) (k : Nat) (b : Bool) : (lcs l).set k (.bool b) = lcs (l.set k b):=by
 simp [lcs,List.map_set]

/-- The bounds of a method in memory. -/
structure BdAt (w : World) (b : Nat) (x y z : Value) : Prop where
 c0 : w.cell? ⟨b,0,none⟩ = some x
 c1 : w.cell? ⟨b,1,none⟩ = some y
 c2 : w.cell? ⟨b,2,none⟩ = some z

theorem bdAt_new (w : World) (x y z : Value) (t : TypeId) : BdAt (w.alloc (.cells #[x,y,z] t)) w.heap.size x y z:=
 ⟨by rw [cell_new]; rfl,by rw [cell_new]; rfl,by rw [cell_new]; rfl⟩

theorem BdAt.only {w w' : World} {S : List Nat} {b : Nat} {x y z : Value} (h : BdAt w b x y z) (ho : Only S w w') (hb : b ∉ S) : BdAt w' b x y z:=by
 have hl : b < w.heap.size:=World.block_lt_of_cell? w _ h.c0
 exact ⟨by rw [ho.cell hl hb]; exact h.c0,by rw [ho.cell hl hb]; exact h.c1,by rw [ho.cell hl hb]; exact h.c2⟩

theorem begun_nil (n : Nat) : ∀ k,(List.replicate n false).getD k false = begunI [] k:=by
 intro k
 simp only [begunI,List.any_nil,List.getD,List.getElem?_replicate]
 split <;> rfl

set_option maxHeartbeats 2000000 in
set_option maxRecDepth 100000 in
theorem icheck_any {w : World} {ao eo : Option Addr} {code : List UInt8} {l : List En} {d de cap ecap : Nat} (hB : RS w ao (bcs code) d) (hc : code.length≤cap) (hcl : cap≤9223372036854775807)
  (hE : ES w eo l de) (hl : l.length≤9223372036854775807) (hA : ∀ e∈l,e.2.1.length≤9223372036854775807) (locals : Int) :
  Calls Tryz.prog 125 #[.slice ao code.length cap,.slice eo l.length ecap,.int .i64 locals] w fun e w'=>e = .returned (.tuple #[.int .i64 (checkI code l locals).1,.int .i64 (checkI code l locals).2])∧Only [] w w':=by
 unfold checkI
 by_cases h0 : code = []
 ·subst h0
  rw [if_pos rfl]
  clear hB hE
  go_enter Tryz.func125,Tryz.ntmps125
  go_wp2
  go_ret2
  exact ⟨rfl,Only.refl _ _⟩
 rw [if_neg h0]
 have hpos:=List.length_pos_iff.2 h0
 have g0 : ¬ ((code.length : Int) = 0):=by omega
 have g0' : ((code.length : Int) == 0) = false:=by simpa using g0
 clear h0
 by_cases h1 : 1024 < code.length
 ·rw [if_pos h1]
  have g1 : (1024 < (code.length : Int)):=by omega
  clear hB hE
  go_enter Tryz.func125,Tryz.ntmps125
  go_wp2
  go_ret2
  exact ⟨rfl,Only.refl _ _⟩
 rw [if_neg h1]
 have g1 : ¬ (1024 < (code.length : Int)):=by omega
 have HA:=hid (all_any hB hc hcl (by omega))
 have hev:=all_each code
 have hln:=all_len code
 generalize allR code = X at *
 obtain ⟨al,aa,ae⟩:=X
 simp only at hev hln ⊢
 clear hB
 by_cases hae : ae = 0
 ·subst hae
  rw [if_pos rfl]
  have HW:=hid (fun W (hW : Only [] w W) (go : Option Addr) (bl : List Bool) (dg gc : Nat) (hG : RS W go (lcs bl) dg) (hbl : bl.length≤9223372036854775807) (i : In) (hn : 0≤i.2.2.1)=>wrong_in (cap:=ecap) (gc:=gc) (hE.only hW (by simp)) hl hA hG hbl locals i.1 i.2.1 i.2.2.1 i.2.2.2 hn)
  clear hE hA
  obtain ⟨i0,hi,hz0,hz1,hz2⟩:=elBool.parts
  obtain ⟨x,hx⟩ : ∃ x,x = checkL al l locals al:=⟨_,rfl⟩
  rw [← hx]
  have hr : Hid (x = checkL al l locals (al.drop 0)):=by rw [hx]; rfl
  clear hx
  replace hev:=hid hev
  go_enter Tryz.func125,Tryz.ntmps125
  go_wp2_with (first | (go_at_call 169; refine HA.out.mono ?_; rintro e w1 ⟨ao1,cap1,rfl,hown1,ho1⟩) | (at_make; refine wpList_make_full _ rfl (.tmp 36) (.tmp 36) 246 rfl w1.heap.size 4 i0 (.bool false) 1 Tryz.underlying246 hi hz0 hz1 .i64 .i64 _ _ code.length rfl rfl rfl rfl (by rw [hz2]; omega) (by unfold maxLen; omega) (Nat.le_refl _) ?_; intro w2 hownG hgr) | fail)
  have hG0:=hownG
  rw [lcs_replicate] at hG0
  have s2:=hgr.size
  have hg2 : w1.heap.size < w2.heap.size:=by
   have:=hG0.lt w1.heap.size rfl
   omega
  have o2:=hid ((ho1.next (Only.of_grown hgr) (by simp)).alloc (.cells #[.slice eo l.length ecap,.int .i64 locals,.slice (some ⟨w1.heap.size,0,none⟩) code.length code.length] 248))
  obtain ⟨d1,hR1⟩ : ∃ d,RS w1 ao1 (qcs al) d:=⟨_,(RS.of_owns hown1).1⟩
  have hd1 : al≠[]→d1 < w1.heap.size:=fun h=>hR1.lt (qcs_ne h)
  have R1:=hid (hR1.only0 ((Only.of_grown hgr).next ((Only.refl [] w2).alloc (.cells #[.slice eo l.length ecap,.int .i64 locals,.slice (some ⟨w1.heap.size,0,none⟩) code.length code.length] 248)) (by simp)))
  have B1:=hid (bdAt_new w2 (.slice eo l.length ecap) (.int .i64 locals) (.slice (some ⟨w1.heap.size,0,none⟩) code.length code.length) 248)
  have G1:=hid (hG0.alloc (.cells #[.slice eo l.length ecap,.int .i64 locals,.slice (some ⟨w1.heap.size,0,none⟩) code.length code.length] 248))
  have hN0:=hid (begun_nil code.length)
  have hlt1:=ho1.size
  clear hownG hG0 hgr hown1 hR1 HA
  replace hd1:=hid hd1
  go_loopw [41] (fun i wr=>∃ (j : Nat) (bl : List Bool),j≤al.length∧i = .int .i64 (j : Int)∧Hid (bl.length = code.length)∧Hid (∀ k,bl.getD k false = begunI (al.take j) k)∧Hid (wr.ownsRow w1.heap.size 4 1 (.slice (some ⟨w1.heap.size,0,none⟩) code.length code.length) code.length (lcs bl))∧Hid (BdAt wr w2.heap.size (.slice eo l.length ecap) (.int .i64 locals) (.slice (some ⟨w1.heap.size,0,none⟩) code.length code.length))∧Hid (RS wr ao1 (qcs al) d1)∧Hid (Only [] w wr)) (fun i _=>al.length - (intOf i).toNat)
  case atStart=>exact ⟨0,List.replicate code.length false,by omega,rfl,by simp [Hid],hN0,G1,B1,R1,o2⟩
  case round=>
   obtain ⟨j,bl,hj,rfl,hbl,hbg,hG,hBd,hR,hor⟩:=hrel
   clear G1 B1 R1 o2 hN0
   by_cases hlt : j < al.length
   ·have g2 : ((j : Int) < (al.length : Int)):=by omega
    obtain ⟨off,rfl,y0,y1,y2,y3⟩:=hR.out.inAt hlt
    obtain ⟨v0,v1,_,_,_,v5,_,_⟩:=hev.out al[j] (List.getElem_mem hlt)
    have htk:=List.take_succ_eq_append_getElem hlt
    have hd:=hd1.out (fun e=>by rw [e] at hlt; simp at hlt)
    clear hev HW hr
    generalize al[j] = i at *
    obtain ⟨p,o,n,s⟩:=i
    simp only at y0 y1 y2 y3 v0 v1 v5
    obtain ⟨p,rfl⟩ : ∃ q : Nat,p = (q : Int):=⟨p.toNat,by omega⟩
    have hp : p < code.length:=by omega
    have hgl : w1.heap.size < wr.heap.size:=((hG.out.lt w1.heap.size rfl)).2
    have z0 : wr.cell? ⟨w1.heap.size,p,none⟩ = some (.bool (bl[p]'(by rw [hbl.out]; exact hp))):=by
     rw [hG.out.cellAt p (by omega),lcs_get bl p (by rw [hbl.out]; exact hp)]
    have z0':=fun o=>cell_alloc o z0
    have zf : ∀ o,(wr.alloc o).frozen? ⟨w1.heap.size,p,none⟩ = false:=fun o=>by rw [frozen_alloc o hgl]; exact hG.out.frozenAt p
    obtain ⟨b0,b1,b2⟩:=hBd.out
    have b2':=fun o=>cell_alloc o b2
    have g3 : ((p : Int) < (code.length : Int)):=by omega
    have hbg' : Hid (∀ k,(bl.set p true).getD k false = begunI (al.take (j + 1)) k):=by
     rw [htk]
     exact begun_set hbg.out rfl (by rw [hbl.out]; exact hp)
    have G2:=hG.out.stored p (.bool true)
    rw [lcs_set] at G2
    have oo:=hid (((Only.refl [w1.heap.size] wr).setCell (p:=⟨w1.heap.size,p,none⟩) (.inl (by simp)) (.bool true)).alloc (.cells #[.int .i64 (p : Int),.int .i64 o,.int .i64 n,.int .i64 s] 250))
    replace G2:=hid (G2.1.alloc (.cells #[.int .i64 (p : Int),.int .i64 o,.int .i64 n,.int .i64 s] 250))
    clear htk b0 b1 b2 z0 hd1
    go_wp2
    refine ⟨⟨j + 1,bl.set p true,by omega,by go_num,by simpa [Hid] using hbl.out,hbg',G2,hid (hBd.out.only oo.out (by simp; omega)),hid (hR.out.only oo.out (fun _=>by simp; omega)),hid ((hor.out.setCell (p:=⟨w1.heap.size,p,none⟩) (.inr hlt1) _).alloc _)⟩,by simp [intOf]; omega⟩
   ·have g2 : ¬ ((j : Int) < (al.length : Int)):=by omega
    have hbg' : Hid (∀ k,bl.getD k false = begunI al k):=by
     have:=hbg.out
     rw [List.take_of_length_le (by omega)] at this
     exact this
    have HW2:=hid (fun W (hW : Only [] w W) (hG : RS W (some ⟨w1.heap.size,0,none⟩) (lcs bl) w1.heap.size) (i : In) (hn : 0≤i.2.2.1)=>HW.out W hW _ bl _ code.length hG (by rw [hbl.out]; omega) i hn)
    simp only [hbl.out,inV,wrongB_eq hbg'.out] at HW2
    clear hbg hbg' HW
    go_wp2
    go_loopw [53] (fun i wr=>∃ (j : Nat),j≤al.length∧i = .int .i64 (j : Int)∧Hid (x = checkL al l locals (al.drop j))∧Hid (wr.ownsRow w1.heap.size 4 1 (.slice (some ⟨w1.heap.size,0,none⟩) code.length code.length) code.length (lcs bl))∧Hid (BdAt wr w2.heap.size (.slice eo l.length ecap) (.int .i64 locals) (.slice (some ⟨w1.heap.size,0,none⟩) code.length code.length))∧Hid (RS wr ao1 (qcs al) d1)∧Hid (Only [] w wr)) (fun i _=>al.length - (intOf i).toNat)
    case atStart=>exact ⟨0,by omega,rfl,hr,hG,hBd,hR,hor⟩
    case round=>
     obtain ⟨j',hj',rfl,hq,hG',hBd',hR',hor'⟩:=hrel
     clear hr hG hBd hR hor
     by_cases hlt' : j' < al.length
     ·have g4 : ((j' : Int) < (al.length : Int)):=by omega
      obtain ⟨off,rfl,y0,y1,y2,y3⟩:=hR'.out.inAt hlt'
      obtain ⟨_,_,_,_,_,_,v6,_⟩:=hev.out al[j'] (List.getElem_mem hlt')
      have hdr:=checkL_drop (all:=al) (l:=l) (locals:=locals) hlt'
      rw [← hq.out] at hdr
      clear hq hev hd1
      generalize al[j'] = i at *
      obtain ⟨p,o,n,s⟩:=i
      simp only at y0 y1 y2 y3 v6 hdr
      have oo:=hid ((Only.refl [] wr).alloc (.cells #[.int .i64 p,.int .i64 o,.int .i64 n,.int .i64 s] 250))
      have I0:=hid (inAt_new wr p o n s 250)
      obtain ⟨b0,b1,b2⟩:=hBd'.out
      have b0':=fun o=>cell_alloc o b0
      have b1':=fun o=>cell_alloc o b1
      have b2':=fun o=>cell_alloc o b2
      have HW3:=HW2.out _ (hor'.out.next oo.out (by simp)) (RS.of_owns (rows_only hG'.out oo.out (by simp))).1 (p,o,n,s) v6
      simp only at HW3
      generalize wrongI al l locals (p,o,n,s) = er at *
      replace HW3:=hid HW3
      by_cases he : er = 0
      ·subst he
       rw [if_pos rfl] at hdr
       replace hdr:=hid hdr
       go_wp2_with (go_at_call 170; refine HW3.out.mono ?_; rintro e w5 ⟨rfl,ho5⟩)
       exact ⟨⟨j' + 1,by omega,by go_num,hdr,hid (rows_only hG'.out (oo.out.next ho5 (by simp)) (by simp)),hid (hBd'.out.only (oo.out.next ho5 (by simp)) (by simp)),hid (hR'.out.only0 (oo.out.next ho5 (by simp))),hid (hor'.out.next (oo.out.next ho5 (by simp)) (by simp))⟩,by simp [intOf]; omega⟩
      ·have ge : (er == 0) = false:=by simpa using he
       rw [if_neg he] at hdr
       subst hdr
       go_wp2_with (go_at_call 170; refine HW3.out.mono ?_; rintro e w5 ⟨rfl,ho5⟩; obtain ⟨c0,c1,c2,c3⟩:=I0.out.only ho5 (by simp))
       go_ret2
       exact ⟨rfl,hor'.out.next (oo.out.next ho5 (by simp)) (by simp)⟩
     ·have g4 : ¬ ((j' : Int) < (al.length : Int)):=by omega
      have hxx : x = (0,0):=by rw [hq.out,List.drop_eq_nil_of_le (by omega)]; rfl
      subst hxx
      clear hq hev hd1 HW2
      go_wp2
      go_ret2
      exact ⟨rfl,hor'.out⟩
 ·have ge : (ae == 0) = false:=by simpa using hae
  rw [if_neg hae]
  clear hE hA hev
  go_enter Tryz.func125,Tryz.ntmps125
  go_wp2_with (go_at_call 169; refine HA.out.mono ?_; rintro e w1 ⟨ao1,cap1,rfl,hown1,ho1⟩; clear hown1)
  go_ret2
  exact ⟨rfl,ho1⟩


abbrev Fd:=Int × List UInt8 × Ty
abbrev Hd:=Int × Int × Int × List UInt8
abbrev Sg:=List Ty × Bool × Ty

/-- A method, a class, a module. -/
structure Me where
 flags : Int
 name : List UInt8
 sig : Sg
 stack : Int
 locals : Int
 code : List UInt8
 hands : List Hd
 deriving DecidableEq

structure Cl where
 flags : Int
 name : List UInt8
 super : List UInt8
 faces : List (List UInt8)
 fields : List Fd
 methods : List Me
 deriving DecidableEq

structure Mo where
 pool : List En
 classes : List Cl
 deriving DecidableEq

/-- Why a module is none: class, member, place, error. -/
abbrev Bp:=Int × Int × Int × Int
def ok4 : Bp:=(0,0,0,0)

def objL : List UInt8:=[79,98,106,101,99,116]

def headE (c : Cl) : Int:=
 if c.flags≠0∧c.flags≠1∧c.flags≠2 then 21 else if nameOK c.name = false∨nameOK c.super = false then 14 else if 16 < c.faces.length then 4
 else if c.flags = 1∧c.super≠objL then 31 else if c.flags = 1∧0 < c.fields.length then 33 else 0

def faceE (ahead : List (List UInt8)) (n : List UInt8) : Int:=if nameOK n = true then (if n∈ahead then 20 else 0) else 14

def fieldE (ahead : List Fd) (f : Fd) : Int:=
 if f.1≠0∧f.1≠4 then 21 else if nameOK f.2.1 = true then (if tyCheck f.2.2 = 0 then (if ahead.any (fun g=>decide (g.2.1 = f.2.1)) = true then 20 else 0) else tyCheck f.2.2) else 14

/-- Begins an instruction at that place of the code? -/
def begE (all : List In) (n : Nat) (k : Int) : Bool:=decide (0≤k) && (decide (k < (n : Int)) && begunI all k.toNat)

def handE (all : List In) (n : Nat) (h : Hd) : Int:=
 if begE all n h.1 = false∨(begE all n h.2.1 = false∧h.2.1≠(n : Int))∨h.2.1≤h.1 then 19 else if begE all n h.2.2.1 = true then (if nameOK h.2.2.2 = true then 0 else 14) else 18

def handsE (all : List In) (n : Nat) : Nat→List Hd→Int × Int
 | _,[]=>(0,0)
 | i,h :: l=>if handE all n h = 0 then handsE all n (i + 1) l else ((i : Int),handE all n h)

def handedE (m : Me) : Int:=if m.flags = 4 then (m.sig.1.length : Int) else (m.sig.1.length : Int) + 1

def handlersE (m : Me) : Int × Int:=if 32 < m.hands.length then (0,4) else handsE (allR m.code).1 m.code.length 0 m.hands

def bodyE (l : List En) (m : Me) : Int × Int:=
 if m.flags = 2 then (if m.stack≠0∨m.locals≠0∨0 < m.code.length∨0 < m.hands.length then (0,1) else (0,0))
 else if m.stack < 0∨64 < m.stack∨m.locals < 0∨64 < m.locals then (0,1) else if m.locals < handedE m then (0,43)
 else if (checkI m.code l m.locals).2 = 0 then handlersE m else checkI m.code l m.locals

def headingE (ahead : List Me) (m : Me) : Int:=
 if m.flags≠0∧m.flags≠2∧m.flags≠4 then 21 else if methodOK m.name = true then
  (if sigCheck m.sig.1 m.sig.2.1 m.sig.2.2 = 0 then (if 255 < (sigText m.sig.1 m.sig.2.1 m.sig.2.2).length then 5 else if ahead.any (fun n=>decide (n.name = m.name) && sameR n.sig m.sig) = true then 20 else 0)
   else sigCheck m.sig.1 m.sig.2.1 m.sig.2.2)
 else 14

def flagsE (cf : Int) (m : Me) : Int:=
 if m.name = initL∧m.flags≠0 then 21 else if m.name = initL∧m.sig.2.1 = false then 15 else if cf = 1∧m.flags≠2 then 33 else if cf = 0∧m.flags = 2 then 21 else 0

def methodE (l : List En) (cf : Int) (ahead : List Me) (m : Me) : Int × Int:=
 if headingE ahead m = 0 then (if flagsE cf m = 0 then bodyE l m else (0,flagsE cf m)) else (0,headingE ahead m)

/-- The first of a list that is wrong, each held against those ahead of it. -/
def firstE {α : Type} (g : List α→α→Int × Int) : List α→List α→Bp
 | _,[]=>ok4
 | a,x :: l=>if (g a x).2 = 0 then firstE g (a ++ [x]) l else (0,(a.length : Int),(g a x).1,(g a x).2)

def at0 {α : Type} (g : List α→α→Int) (a : List α) (x : α) : Int × Int:=(0,g a x)

def membersE {α : Type} (most : Nat) (g : List α→α→Int × Int) (l : List α) : Bp:=if most < l.length then (0,0,0,4) else firstE g [] l

/-- The first of three that is wrong. -/
def orE (a b : Bp) : Bp:=if a.2.2.2 = 0 then b else a

def classE (l : List En) (c : Cl) : Bp:=
 orE (0,0,0,headE c) (orE (membersE 16 (at0 faceE) c.faces) (orE (membersE 64 (at0 fieldE) c.fields) (membersE 64 (methodE l c.flags) c.methods)))

def inC (i : Nat) (b : Bp) : Bp:=((i : Int),b.2.1,b.2.2.1,b.2.2.2)

def classesE (l : List En) : Nat→List Cl→Bp
 | _,[]=>ok4
 | i,c :: cs=>if (classE l c).2.2.2 = 0 then classesE l (i + 1) cs else inC i (classE l c)

def twiceE : List Cl→List Cl→Bp
 | _,[]=>ok4
 | a,c :: cs=>if a.any (fun d=>decide (d.name = c.name)) = true then ((a.length : Int),0,0,20) else twiceE (a ++ [c]) cs

def checkM (m : Mo) : Bp:=
 orE (0,0,(if (checkE m.pool).2 = 0 then 0 else (checkE m.pool).1),(checkE m.pool).2) (if 64 < m.classes.length then (0,0,0,4) else orE (classesE m.pool 0 m.classes) (twiceE [] m.classes))

theorem firstE_zero {α : Type} (g : List α→α→Int × Int) : ∀ (l a : List α),(firstE g a l).2.2.2 = 0→∀ j (hj : j < l.length),(g (a ++ l.take j) l[j]).2 = 0:=by
 intro l
 induction l with
 | nil=>intro a _ j hj; simp at hj
 | cons x l ih=>
  intro a h j hj
  simp only [firstE] at h
  split at h
  ·rename_i h0
   cases j with
   | zero=>simpa using h0
   | succ j=>
    have:=ih _ h j (by simpa using hj)
    simp only [List.take_succ_cons,List.getElem_cons_succ]
    rw [show a ++ x :: l.take j = (a ++ [x]) ++ l.take j by simp]
    exact this
  ·rename_i h0
   exact absurd h h0

theorem classesE_zero (p : List En) : ∀ (l : List Cl) (i : Nat),(classesE p i l).2.2.2 = 0→∀ c∈l,(classE p c).2.2.2 = 0:=by
 intro l
 induction l with
 | nil=>intro i _ c hc; cases hc
 | cons x l ih=>
  intro i h c hc
  simp only [classesE] at h
  split at h
  ·rename_i h0
   rcases List.mem_cons.1 hc with rfl | hc
   ·exact h0
   ·exact ih _ h c hc
  ·rename_i h0
   exact absurd h h0


/-- A slice that is read: n elements with these cells, in a block that obeys P. -/
structure Sl (w : World) (P : Nat→Prop) (ao : Option Addr) (n cap : Nat) (cs : List Value) (d : Nat) : Prop where
 rs : RS w ao cs d
 ok : cs≠[]→P d
 le : n≤cap
 max : cap≤9223372036854775807
 no : ao = none→cap = 0

def SlV (w : World) (P : Nat→Prop) (v : Value) (n : Nat) (cs : List Value) : Prop:=∃ ao cap d,v = .slice ao n cap∧Sl w P ao n cap cs d

theorem Sl.only {w w' : World} {P : Nat→Prop} {ao : Option Addr} {n cap : Nat} {cs : List Value} {d : Nat} {S : List Nat} (h : Sl w P ao n cap cs d) (ho : Only S w w') (hS : ∀ d,P d→d ∉ S) : Sl w' P ao n cap cs d:=
 ⟨h.rs.only ho fun hn=>hS d (h.ok hn),h.ok,h.le,h.max,h.no⟩

theorem Sl.mono {w : World} {P Q : Nat→Prop} {ao : Option Addr} {n cap : Nat} {cs : List Value} {d : Nat} (h : Sl w P ao n cap cs d) (hQ : ∀ d,P d→d < w.heap.size→Q d) : Sl w Q ao n cap cs d:=
 ⟨h.rs,fun hn=>hQ d (h.ok hn) (h.rs.lt hn),h.le,h.max,h.no⟩

theorem SlV.only {w w' : World} {P : Nat→Prop} {v : Value} {n : Nat} {cs : List Value} {S : List Nat} (h : SlV w P v n cs) (ho : Only S w w') (hS : ∀ d,P d→d ∉ S) : SlV w' P v n cs:=by
 obtain ⟨ao,cap,d,hv,h⟩:=h
 exact ⟨ao,cap,d,hv,h.only ho hS⟩

theorem SlV.mono {w : World} {P Q : Nat→Prop} {v : Value} {n : Nat} {cs : List Value} (h : SlV w P v n cs) (hQ : ∀ d,P d→d < w.heap.size→Q d) : SlV w Q v n cs:=by
 obtain ⟨ao,cap,d,hv,h⟩:=h
 exact ⟨ao,cap,d,hv,h.mono hQ⟩

theorem SlV.nil (w : World) (P : Nat→Prop) : SlV w P (.slice none 0 0) 0 []:=⟨none,0,0,rfl,RS.nil _ _ _,fun h=>absurd rfl h,Nat.le_refl _,by decide,fun _=>rfl⟩

theorem SlV.one {w : World} {P : Nat→Prop} {v : Value} {n : Nat} {cs : List Value} (h : SlV w P v n cs) : v.oneCell' = true:=by
 obtain ⟨ao,cap,d,rfl,_⟩:=h
 rfl

/-- Elements of k cells each, one behind the other. -/
structure Els {α : Type} (k : Nat) (A : List Value→α→Prop) (cs : List Value) (l : List α) : Prop where
 len : cs.length = l.length * k
 el : ∀ j (h : j < l.length),A ((cs.drop (j * k)).take k) l[j]

theorem Els.nil {α : Type} (k : Nat) (A : List Value→α→Prop) : Els k A [] ([] : List α):=⟨by simp,fun j h=>by simp at h⟩

theorem Els.snoc {α : Type} {k : Nat} {A : List Value→α→Prop} {cs c : List Value} {l : List α} {x : α} (h : Els k A cs l) (hc : c.length = k) (hx : A c x) : Els k A (cs ++ c) (l ++ [x]):=by
 refine ⟨by rw [List.length_append,List.length_append,List.length_singleton,h.len,hc,Nat.add_mul,Nat.one_mul],fun j hj=>?_⟩
 by_cases e : j < l.length
 ·rw [List.getElem_append_left e]
  have:=h.el j e
  have h1 : (j + 1) * k≤l.length * k:=Nat.mul_le_mul_right k e
  rw [Nat.add_mul,Nat.one_mul] at h1
  have hl:=h.len
  rw [List.drop_append_of_le_length (by omega),List.take_append_of_le_length (by rw [List.length_drop]; omega)]
  exact this
 ·have : j = l.length:=by simp at hj; omega
  subst this
  rw [List.getElem_append_right (Nat.le_refl _)]
  simp only [Nat.sub_self,List.getElem_cons_zero]
  rw [← h.len,List.drop_left,List.take_of_length_le (by omega)]
  exact hx

theorem Els.imp {α : Type} {k : Nat} {A B : List Value→α→Prop} {cs : List Value} {l : List α} (h : Els k A cs l) (hAB : ∀ c x,x∈l→A c x→B c x) : Els k B cs l:=
 ⟨h.len,fun j hj=>hAB _ _ (List.getElem_mem hj) (h.el j hj)⟩

theorem Els.take {α : Type} {k : Nat} {A : List Value→α→Prop} {cs : List Value} {l : List α} (h : Els k A cs l) (n : Nat) (hn : n≤l.length) : Els k A (cs.take (n * k)) (l.take n):=by
 have h1 : n * k≤l.length * k:=Nat.mul_le_mul_right k hn
 have hl:=h.len
 refine ⟨by rw [List.length_take,List.length_take]; rw [Nat.min_eq_left hn]; omega,fun j hj=>?_⟩
 have hj' : j < n:=by simp at hj; omega
 have h2 : (j + 1) * k≤n * k:=Nat.mul_le_mul_right k hj'
 rw [Nat.add_mul,Nat.one_mul] at h2
 have:=h.el j (by omega)
 rw [List.drop_take,List.take_take,Nat.min_eq_left (by omega),List.getElem_take]
 exact this

/-- A list of cells from those of its elements. -/
theorem els_flat {α : Type} {k : Nat} (f : α→List Value) (hf : ∀ x,(f x).length = k) : ∀ l : List α,Els k (fun c x=>c = f x) (l.flatMap f) l:=by
 intro l
 induction l with
 | nil=>exact Els.nil _ _
 | cons x l ih=>
  refine ⟨by rw [List.flatMap_cons,List.length_append,hf,ih.len,List.length_cons,Nat.add_mul]; omega,fun j hj=>?_⟩
  cases j with
  | zero=>
   rw [List.flatMap_cons,Nat.zero_mul,List.drop_zero,← hf x,List.take_left]
   rfl
  | succ j=>
   have:=ih.el j (by simpa using hj)
   rw [List.getElem_cons_succ,← this,List.flatMap_cons,Nat.add_mul,Nat.one_mul,Nat.add_comm,← hf x,← List.drop_drop,List.drop_left]

/-- The cells of the j-th element. -/
theorem RS.piece {w : World} {ao : Option Addr} {cs : List Value} {d : Nat} (h : RS w ao cs d) (k j : Nat) {c : List Value} (hc : (cs.drop (j * k)).take k = c) (hn : c≠[]) :
  ∃ off,ao = some ⟨d,off,none⟩∧∀ i u,c[i]? = some u→w.cell? ⟨d,off + j * k + i,none⟩ = some u:=by
 rcases h with h | ⟨off,ha,hcell⟩
 ·subst h
  simp at hc
  exact absurd hc hn
 ·refine ⟨off,ha,fun i u hu=>?_⟩
  rw [← hc,List.getElem?_take] at hu
  split at hu
  ·rw [List.getElem?_drop] at hu
   rw [Nat.add_assoc]
   exact hcell _ u hu
  ·cases hu

def scC (s : List UInt8) : List Value:=[.string (str s)]
def fdC (f : Fd) : List Value:=[.int .i64 f.1,.string (str f.2.1),.int .i64 f.2.2.1,.string (str f.2.2.2)]
def hdC (h : Hd) : List Value:=[.int .i64 h.1,.int .i64 h.2.1,.int .i64 h.2.2.1,.string (str h.2.2.2)]
def fdV (f : Fd) : Value:=.agg #[.int .i64 f.1,.string (str f.2.1),.int .i64 f.2.2.1,.string (str f.2.2.2)]
def hdV (h : Hd) : Value:=.agg #[.int .i64 h.1,.int .i64 h.2.1,.int .i64 h.2.2.1,.string (str h.2.2.2)]
def scs (l : List (List UInt8)) : List Value:=l.flatMap scC
def fcs (l : List Fd) : List Value:=l.flatMap fdC
def hcs (l : List Hd) : List Value:=l.flatMap hdC
def meC (vp vc vh : Value) (m : Me) : List Value:=[.int .i64 m.flags,.string (str m.name),vp,.bool m.sig.2.1,.int .i64 m.sig.2.2.1,.string (str m.sig.2.2.2),.int .i64 m.stack,.int .i64 m.locals,vc,vh]
def clC (vf vd vm : Value) (c : Cl) : List Value:=[.int .i64 c.flags,.string (str c.name),.string (str c.super),vf,vd,vm]

/-- How a slice of elements of that type, of so many cells, stands in memory: its length, its cells. -/
abbrev Rp:=TypeId→Nat→Value→Nat→List Value→Prop
/-- It is read. -/
def SlR (w : World) (P : Nat→Prop) : Rp:=fun _ _ v n cs=>SlV w P v n cs
/-- It is the call's own. -/
def OwR (w : World) (B : Nat) (P : Nat→Prop) : Rp:=fun e k v n cs=>w.ownsRow B e k v n cs∧∀ g,v.ownBlock = some g→P g

structure MeAt (R : Rp) (vp vc vh : Value) (m : Me) : Prop where
 params : R 35 2 vp m.sig.1.length (tcs m.sig.1)
 code : R 5 1 vc m.code.length (bcs m.code)
 hands : R 46 4 vh m.hands.length (hcs m.hands)

def MeC (R : Rp) (cs : List Value) (m : Me) : Prop:=∃ vp vc vh,cs = meC vp vc vh m∧MeAt R vp vc vh m

structure ClAt (R : Rp) (vf vd vm : Value) (c : Cl) : Prop where
 faces : R 9 1 vf c.faces.length (scs c.faces)
 fields : R 44 4 vd c.fields.length (fcs c.fields)
 methods : ∃ mcs,R 41 10 vm c.methods.length mcs∧Els 10 (MeC R) mcs c.methods

def ClC (R : Rp) (cs : List Value) (c : Cl) : Prop:=∃ vf vd vm,cs = clC vf vd vm c∧ClAt R vf vd vm c

structure MoAt (R : Rp) (vp vc : Value) (m : Mo) : Prop where
 pool : R 90 6 vp m.pool.length (ecs m.pool)
 classes : ∃ ccs,R 28 6 vc m.classes.length ccs∧Els 6 (ClC R) ccs m.classes

theorem MeAt.imp {R R' : Rp} {vp vc vh : Value} {m : Me} (h : MeAt R vp vc vh m) (hR : ∀ e k v n cs,R e k v n cs→R' e k v n cs) : MeAt R' vp vc vh m:=
 ⟨hR _ _ _ _ _ h.params,hR _ _ _ _ _ h.code,hR _ _ _ _ _ h.hands⟩

theorem MeC.imp {R R' : Rp} {cs : List Value} {m : Me} (h : MeC R cs m) (hR : ∀ e k v n cs,R e k v n cs→R' e k v n cs) : MeC R' cs m:=by
 obtain ⟨a,b,c,e,h⟩:=h
 exact ⟨a,b,c,e,h.imp hR⟩

theorem ClAt.imp {R R' : Rp} {vf vd vm : Value} {c : Cl} (h : ClAt R vf vd vm c) (hR : ∀ e k v n cs,R e k v n cs→R' e k v n cs) : ClAt R' vf vd vm c:=by
 obtain ⟨h1,h2,mcs,h3,h4⟩:=h
 exact ⟨hR _ _ _ _ _ h1,hR _ _ _ _ _ h2,mcs,hR _ _ _ _ _ h3,h4.imp fun _ _ _ h=>h.imp hR⟩

theorem ClC.imp {R R' : Rp} {cs : List Value} {m : Cl} (h : ClC R cs m) (hR : ∀ e k v n cs,R e k v n cs→R' e k v n cs) : ClC R' cs m:=by
 obtain ⟨a,b,c,e,h⟩:=h
 exact ⟨a,b,c,e,h.imp hR⟩

theorem MoAt.imp {R R' : Rp} {vp vc : Value} {m : Mo} (h : MoAt R vp vc m) (hR : ∀ e k v n cs,R e k v n cs→R' e k v n cs) : MoAt R' vp vc m:=by
 obtain ⟨h1,ccs,h3,h4⟩:=h
 exact ⟨hR _ _ _ _ _ h1,ccs,hR _ _ _ _ _ h3,h4.imp fun _ _ _ h=>h.imp hR⟩

theorem slr_only {w w' : World} {P : Nat→Prop} {S : List Nat} (ho : Only S w w') (hS : ∀ d,P d→d ∉ S) : ∀ e k v n cs,SlR w P e k v n cs→SlR w' P e k v n cs:=fun _ _ _ _ _ h=>SlV.only h ho hS
theorem slr_mono {w : World} {P Q : Nat→Prop} (hQ : ∀ d,P d→d < w.heap.size→Q d) : ∀ e k v n cs,SlR w P e k v n cs→SlR w Q e k v n cs:=fun _ _ _ _ _ h=>SlV.mono h hQ

theorem MoAt.only {w w' : World} {P : Nat→Prop} {vp vc : Value} {m : Mo} {S : List Nat} (h : MoAt (SlR w P) vp vc m) (ho : Only S w w') (hS : ∀ d,P d→d ∉ S) : MoAt (SlR w' P) vp vc m:=h.imp (slr_only ho hS)
theorem MoAt.mono {w : World} {P Q : Nat→Prop} {vp vc : Value} {m : Mo} (h : MoAt (SlR w P) vp vc m) (hQ : ∀ d,P d→d < w.heap.size→Q d) : MoAt (SlR w Q) vp vc m:=h.imp (slr_mono hQ)
theorem MoAt.only0 {w w' : World} {P : Nat→Prop} {vp vc : Value} {m : Mo} (h : MoAt (SlR w P) vp vc m) (ho : Only [] w w') : MoAt (SlR w' P) vp vc m:=h.only ho (by simp)
theorem ClAt.only {w w' : World} {P : Nat→Prop} {vf vd vm : Value} {c : Cl} {S : List Nat} (h : ClAt (SlR w P) vf vd vm c) (ho : Only S w w') (hS : ∀ d,P d→d ∉ S) : ClAt (SlR w' P) vf vd vm c:=h.imp (slr_only ho hS)
theorem ClAt.only0 {w w' : World} {P : Nat→Prop} {vf vd vm : Value} {c : Cl} (h : ClAt (SlR w P) vf vd vm c) (ho : Only [] w w') : ClAt (SlR w' P) vf vd vm c:=h.only ho (by simp)
theorem MeAt.only {w w' : World} {P : Nat→Prop} {vp vc vh : Value} {m : Me} {S : List Nat} (h : MeAt (SlR w P) vp vc vh m) (ho : Only S w w') (hS : ∀ d,P d→d ∉ S) : MeAt (SlR w' P) vp vc vh m:=h.imp (slr_only ho hS)
theorem MeAt.only0 {w w' : World} {P : Nat→Prop} {vp vc vh : Value} {m : Me} (h : MeAt (SlR w P) vp vc vh m) (ho : Only [] w w') : MeAt (SlR w' P) vp vc vh m:=h.only ho (by simp)

theorem owr_slice {w : World} {B : Nat} {P : Nat→Prop} {e k n : Nat} {v : Value} {cs : List Value} (h : OwR w B P e k v n cs) : SlR w P e k v n cs:=by
 obtain ⟨ao,cap,rfl⟩:=rows_slice h.1
 obtain ⟨q1,q2,q3,q4,q5⟩:=RS.of_owns h.1
 refine ⟨ao,cap,_,rfl,q1,fun hn=>?_,q2,by simp only [maxLen] at q3; omega,q4⟩
 cases ao with
 | none=>exact absurd q1.none_nil hn
 | some a=>exact h.2 a.block rfl

theorem owr_only {w w' : World} {B : Nat} {P : Nat→Prop} {S : List Nat} (ho : Only S w w') (hS : ∀ d,P d→d ∉ S) : ∀ e k v n cs,OwR w B P e k v n cs→OwR w' B P e k v n cs:=
 fun _ _ _ _ _ h=>⟨rows_only h.1 ho fun g hg=>hS g (h.2 g hg),h.2⟩

theorem owr_mono {w : World} {B C : Nat} {P Q : Nat→Prop} (hC : C≤B) (hQ : ∀ d,P d→B≤d→d < w.heap.size→Q d) : ∀ e k v n cs,OwR w B P e k v n cs→OwR w C Q e k v n cs:=
 fun _ _ _ _ _ h=>⟨rows_mono h.1 hC,fun g hg=>hQ g (h.2 g hg) (h.1.lt g hg).1 (h.1.lt g hg).2⟩

theorem TS.of_rs {w : World} {ao : Option Addr} {l : List Ty} {d : Nat} (h : RS w ao (tcs l) d) : TS w ao l d:=by
 rcases h with h | ⟨off,ha,hc⟩
 ·left
  cases l with
  | nil=>rfl
  | cons t l=>simp [tcs] at h
 ·refine .inr ⟨off,ha,fun j hj=>?_⟩
  obtain ⟨g0,g1⟩:=tcs_get l j hj
  exact ⟨hc _ _ g0,by rw [Nat.add_assoc]; exact hc _ _ g1⟩

theorem ES.of_rs {w : World} {ao : Option Addr} {l : List En} {d : Nat} (h : RS w ao (ecs l) d) : ES w ao l d:=by
 rcases h with h | ⟨off,ha,hc⟩
 ·left
  cases l with
  | nil=>rfl
  | cons t l=>simp [ecs] at h
 ·refine .inr ⟨off,ha,fun j hj=>?_⟩
  obtain ⟨g0,g1,g2,g3,g4,g5⟩:=ecs_get l j hj
  exact ⟨hc _ _ g0,by rw [Nat.add_assoc]; exact hc _ _ g1,by rw [Nat.add_assoc]; exact hc _ _ g2,by rw [Nat.add_assoc]; exact hc _ _ g3,by rw [Nat.add_assoc]; exact hc _ _ g4,by rw [Nat.add_assoc]; exact hc _ _ g5⟩

/-- No text, no list of a module is longer than a machine's numbers say. -/
structure MeFit (m : Me) : Prop where
 name : m.name.length≤9223372036854775807
 params : ∀ t∈m.sig.1,t.2.length≤9223372036854775807
 res : m.sig.2.2.2.length≤9223372036854775807
 hands : ∀ h∈m.hands,h.2.2.2.length≤9223372036854775807

structure ClFit (c : Cl) : Prop where
 name : c.name.length≤9223372036854775807
 super : c.super.length≤9223372036854775807
 faces : ∀ s∈c.faces,s.length≤9223372036854775807
 fields : ∀ f∈c.fields,f.2.1.length≤9223372036854775807∧f.2.2.2.length≤9223372036854775807
 methods : ∀ m∈c.methods,MeFit m

structure MoFit (m : Mo) : Prop where
 pool : ∀ e∈m.pool,e.2.1.length≤9223372036854775807
 classes : ∀ c∈m.classes,ClFit c


theorem scs_length (l : List (List UInt8)) : (scs l).length = l.length:=by
 induction l with
 | nil=>rfl
 | cons s l ih=>
  have : scs (s :: l) = .string (str s) :: scs l:=rfl
  rw [this,List.length_cons,List.length_cons,ih]

theorem scs_get (l : List (List UInt8)) (j : Nat) (h : j < l.length) : (scs l)[j]? = some (.string (str l[j])):=by
 have:=(els_flat scC (fun _=>rfl) l).el j h
 have h2:=congrArg (fun c=>c[0]?) this
 simpa [scC,List.getElem?_take,List.getElem?_drop,scs] using h2

theorem RS.str {w : World} {ao : Option Addr} {l : List (List UInt8)} {d : Nat} (h : RS w ao (scs l) d) {j : Nat} (hj : j < l.length) : ∃ off,ao = some ⟨d,off,none⟩∧w.cell? ⟨d,off + j,none⟩ = some (.string (str l[j])):=by
 obtain ⟨off,ha,hc⟩:=h.at (j:=j) (by rw [scs_length]; exact hj)
 exact ⟨off,ha,hc j _ (scs_get l j hj)⟩

set_option maxHeartbeats 1000000 in
theorem index_str {w : World} {ao : Option Addr} {l : List (List UInt8)} {d cap : Nat} (hS : RS w ao (scs l) d) (hl : l.length≤9223372036854775807) (n : List UInt8) :
  Calls Tryz.prog 163 #[.slice ao l.length cap,.string (str n)] w fun e w'=>∃ k : Int,e = .returned (.int .i64 k)∧decide (0≤k) = decide (n∈l)∧w' = w:=by
 have HS:=hid hS
 clear hS
 go_enter Tryz.func163,Tryz.ntmps163
 go_wp2
 go_loopw [8] (fun i wr=>∃ k : Nat,k≤l.length∧i = .int .i64 (k : Int)∧n ∉ l.take k∧w = wr) (fun i _=>l.length - (intOf i).toNat)
 case atStart=>exact ⟨0,Nat.zero_le _,rfl,by simp,rfl⟩
 case round=>
  obtain ⟨k,hk,rfl,hn,rfl⟩:=hrel
  by_cases hlt : k < l.length
  ·obtain ⟨off,rfl,hc⟩:=HS.out.str hlt
   have htk : l.take (k + 1) = l.take k ++ [l[k]]:=List.take_succ_eq_append_getElem hlt
   have hmem : l[k]∈l:=List.getElem_mem hlt
   generalize l[k] = x at *
   have t1:=str_toList n
   have t2:=str_toList x
   have HN:=hid hn
   have HT:=hid htk
   have HM:=hid hmem
   clear hn htk hmem
   by_cases hq : n = x
   ·subst hq
    go_wp2
    go_ret
    exact ⟨k,rfl,by rw [decide_eq_true HM.out]; simp,rfl⟩
   ·have hq' : (n == x) = false:=by simpa using hq
    go_wp2
    refine ⟨⟨k + 1,by omega,by go_num,?_,trivial⟩,by simp [intOf]; omega⟩
    rw [HT.out]
    simp [HN.out,hq]
  ·go_wp2
   go_ret
   rw [List.take_of_length_le (by omega)] at hn
   exact ⟨-1,rfl,by rw [decide_eq_false hn]; simp,rfl⟩

theorem contains_str {w : World} {ao : Option Addr} {l : List (List UInt8)} {d cap : Nat} (hS : RS w ao (scs l) d) (hl : l.length≤9223372036854775807) (n : List UInt8) :
  Calls Tryz.prog 116 #[.slice ao l.length cap,.string (str n)] w fun e w'=>e = .returned (.bool (decide (n∈l)))∧Only [] w w':=by
 have HI:=hid (index_str (cap:=cap) hS hl n)
 clear hS
 go_enter Tryz.func116,Tryz.ntmps116
 go_wp2_with (go_at_call 163; refine HI.out.mono ?_; rintro e w' ⟨k,rfl,hk,rfl⟩; replace hk:=hid hk)
 go_ret
 exact ⟨by rw [← hk.out]; rfl,Only.refl _ _⟩


/-- A Bad in block p. -/
structure BadAt (w : World) (p : Nat) (b : Bp) : Prop where
  c0 : w.cell? ⟨p,0,none⟩ = some (.int .i64 b.1)
  c1 : w.cell? ⟨p,1,none⟩ = some (.int .i64 b.2.1)
  c2 : w.cell? ⟨p,2,none⟩ = some (.int .i64 b.2.2.1)
  c3 : w.cell? ⟨p,3,none⟩ = some (.int .i64 b.2.2.2)
  f0 : w.frozen? ⟨p,0,none⟩ = false
  f1 : w.frozen? ⟨p,1,none⟩ = false
  f2 : w.frozen? ⟨p,2,none⟩ = false
  f3 : w.frozen? ⟨p,3,none⟩ = false

theorem BadAt.lt {w : World} {p : Nat} {b : Bp} (h : BadAt w p b) : p < w.heap.size:=World.block_lt_of_cell? w _ h.c0

theorem BadAt.only {w w' : World} {S : List Nat} {p : Nat} {b : Bp} (h : BadAt w p b) (ho : Only S w w') (hp : p ∉ S) : BadAt w' p b:=
  ⟨(ho.cell (p:=⟨p,0,none⟩) h.lt hp).trans h.c0,(ho.cell (p:=⟨p,1,none⟩) h.lt hp).trans h.c1,(ho.cell (p:=⟨p,2,none⟩) h.lt hp).trans h.c2,(ho.cell (p:=⟨p,3,none⟩) h.lt hp).trans h.c3,
   (ho.frozen (p:=⟨p,0,none⟩) h.lt hp).trans h.f0,(ho.frozen (p:=⟨p,1,none⟩) h.lt hp).trans h.f1,(ho.frozen (p:=⟨p,2,none⟩) h.lt hp).trans h.f2,(ho.frozen (p:=⟨p,3,none⟩) h.lt hp).trans h.f3⟩

theorem bad_new (w : World) (a b c e : Int) : BadAt (w.alloc (.cells #[.int .i64 a,.int .i64 b,.int .i64 c,.int .i64 e] 68)) w.heap.size (a,b,c,e):=
  ⟨by rw [cell_new]; rfl,by rw [cell_new]; rfl,by rw [cell_new]; rfl,by rw [cell_new]; rfl,frozen_new _ _ _ _,frozen_new _ _ _ _,frozen_new _ _ _ _,frozen_new _ _ _ _⟩

theorem BadAt.put0 {w : World} {p : Nat} {b : Bp} (h : BadAt w p b) (x : Int) : BadAt (w.setCell ⟨p,0,none⟩ (.int .i64 x)) p (x,b.2):=
  ⟨cell_setCell_same _ _ h.c0,by rw [cell_setCell_ne _ _ (by simp)]; exact h.c1,by rw [cell_setCell_ne _ _ (by simp)]; exact h.c2,by rw [cell_setCell_ne _ _ (by simp)]; exact h.c3,
   (frozen_setCell _ _ _ _).trans h.f0,(frozen_setCell _ _ _ _).trans h.f1,(frozen_setCell _ _ _ _).trans h.f2,(frozen_setCell _ _ _ _).trans h.f3⟩
theorem BadAt.put1 {w : World} {p : Nat} {b : Bp} (h : BadAt w p b) (x : Int) : BadAt (w.setCell ⟨p,1,none⟩ (.int .i64 x)) p (b.1,x,b.2.2):=
  ⟨by rw [cell_setCell_ne _ _ (by simp)]; exact h.c0,cell_setCell_same _ _ h.c1,by rw [cell_setCell_ne _ _ (by simp)]; exact h.c2,by rw [cell_setCell_ne _ _ (by simp)]; exact h.c3,
   (frozen_setCell _ _ _ _).trans h.f0,(frozen_setCell _ _ _ _).trans h.f1,(frozen_setCell _ _ _ _).trans h.f2,(frozen_setCell _ _ _ _).trans h.f3⟩
theorem BadAt.put3 {w : World} {p : Nat} {b : Bp} (h : BadAt w p b) (x : Int) : BadAt (w.setCell ⟨p,3,none⟩ (.int .i64 x)) p (b.1,b.2.1,b.2.2.1,x):=
  ⟨by rw [cell_setCell_ne _ _ (by simp)]; exact h.c0,by rw [cell_setCell_ne _ _ (by simp)]; exact h.c1,by rw [cell_setCell_ne _ _ (by simp)]; exact h.c2,cell_setCell_same _ _ h.c3,
   (frozen_setCell _ _ _ _).trans h.f0,(frozen_setCell _ _ _ _).trans h.f1,(frozen_setCell _ _ _ _).trans h.f2,(frozen_setCell _ _ _ _).trans h.f3⟩

/-- A bare number as an error. -/
def bareV (e : Int) : Value:=if e = 0 then .nilIface else .iface 63 (.int .i64 e)
def badV (p : Nat) : Value:=.iface 66 (.pointer (some ⟨p,0,none⟩))

/-- An error that says b: none, a bare number, or a Bad in a block from B on. -/
inductive EV (w : World) (B : Nat) : Value→Bp→Prop where
  | no {b : Bp} (h : b.2.2.2 = 0) : EV w B .nilIface b
  | num {e : Int} (h : e≠0) : EV w B (.iface 63 (.int .i64 e)) (0,0,0,e)
  | bad {b : Bp} {p : Nat} (h : b.2.2.2≠0) (hp : B≤p) (hb : BadAt w p b) : EV w B (badV p) b

theorem EV.bare (w : World) (B : Nat) (e : Int) : EV w B (bareV e) (0,0,0,e):=by
  unfold bareV
  by_cases h : e = 0
  · rw [if_pos h]
    exact .no h
  · rw [if_neg h]
    exact .num h

theorem EV.down {w : World} {B C : Nat} {v : Value} {b : Bp} (h : EV w B v b) (hC : C≤B) : EV w C v b:=by
  cases h with
  | no h=>exact .no h
  | num h=>exact .num h
  | bad h hp hb=>exact .bad h (by omega) hb

set_option maxHeartbeats 1000000 in
theorem placed_bad {w : World} (hg : Ety w) (p : Nat) :
    Calls Tryz.prog 56 #[badV p] w fun e w'=>e = .returned (.pointer (some ⟨p,0,none⟩))∧Only [] w w':=by
  have o1:=(Only.refl [] w).alloc (.cells #[.pointer none] 66)
  have HA:=hid (as_hit ⟨p,0,none⟩ ⟨w.heap.size,0,none⟩ (.pointer none) _ (hg.only0 o1) (by rw [cell_new]; rfl) (frozen_new _ _ _ _))
  unfold badV
  go_enter Tryz.func56,Tryz.ntmps56
  go_wp2_with fail
  refine HA.out.mono ?_
  rintro e w' ⟨rfl,w1,ho,rfl⟩
  have k1 : (w1.setCell ⟨w.heap.size,0,none⟩ (.pointer (some ⟨p,0,none⟩))).cell? ⟨w.heap.size,0,none⟩ = some (.pointer (some ⟨p,0,none⟩)):=cell_setCell_same _ _ ((ho.cell (p:=⟨w.heap.size,0,none⟩) (by simp) (by simp)).trans (by rw [cell_new]; rfl))
  go_wp2_with fail
  go_ret
  exact ⟨rfl,(o1.next ho (by simp)).setCell (.inr (Nat.le_refl _)) _⟩

set_option maxHeartbeats 1000000 in
theorem placed_num {w : World} (hg : Ety w) (x : Int) :
    Calls Tryz.prog 56 #[.iface 63 (.int .i64 x)] w fun e w'=>∃ q,w.heap.size≤q∧e = .returned (.pointer (some ⟨q,0,none⟩))∧BadAt w' q (0,0,0,x)∧Only [] w w':=by
  have o1:=(Only.refl [] w).alloc (.cells #[.pointer none] 66)
  have HA:=hid (as_miss x ⟨w.heap.size,0,none⟩ _ (hg.only0 o1))
  go_enter Tryz.func56,Tryz.ntmps56
  go_wp2_with fail
  refine HA.out.mono ?_
  rintro e w1 ⟨rfl,ho1⟩
  have hlt : w.heap.size < w1.heap.size:=Nat.lt_of_lt_of_le (by simp) ho1.size
  have c1 : w1.cell? ⟨w.heap.size,0,none⟩ = some (.pointer none):=(ho1.cell (p:=⟨w.heap.size,0,none⟩) (by simp) (by simp)).trans (by rw [cell_new]; rfl)
  have f1 : w1.frozen? ⟨w.heap.size,0,none⟩ = false:=(ho1.frozen (p:=⟨w.heap.size,0,none⟩) (by simp) (by simp)).trans (frozen_new _ _ _ _)
  have hsz : (w1.setCell ⟨w.heap.size,0,none⟩ (.pointer (some ⟨w1.heap.size,0,none⟩))).heap.size = w1.heap.size:=by simp [World.setCell]
  have o3:=((o1.next ho1 (by simp)).setCell (p:=⟨w.heap.size,0,none⟩) (.inr (Nat.le_refl _)) (.pointer (some ⟨w1.heap.size,0,none⟩))).alloc (.cells #[.int .i64 0,.int .i64 0,.int .i64 0,.int .i64 0] 68)
  have k3 : ((w1.setCell ⟨w.heap.size,0,none⟩ (.pointer (some ⟨w1.heap.size,0,none⟩))).alloc (.cells #[.int .i64 0,.int .i64 0,.int .i64 0,.int .i64 0] 68)).cell? ⟨w.heap.size,0,none⟩ = some (.pointer (some ⟨w1.heap.size,0,none⟩)):=cell_alloc _ (cell_setCell_same _ _ c1)
  have B3:=bad_new (w1.setCell ⟨w.heap.size,0,none⟩ (.pointer (some ⟨w1.heap.size,0,none⟩))) 0 0 0 0
  rw [hsz] at B3
  replace hsz:=hid hsz
  have HB:=hid B3
  obtain ⟨b0,b1,b2,b3,g0,g1,g2,g3⟩:=B3
  have HN:=hid (as_num x ⟨w1.heap.size,3,none⟩ (.int .i64 0) _ (hg.only0 o3) b3 g3)
  go_wp2_with fail
  refine HN.out.mono ?_
  rintro e w4 ⟨rfl,w5,ho5,rfl⟩
  have k5 : (w5.setCell ⟨w1.heap.size,3,none⟩ (.int .i64 x)).cell? ⟨w.heap.size,0,none⟩ = some (.pointer (some ⟨w1.heap.size,0,none⟩)):=by
    rw [cell_setCell_ne _ _ (by simp)]
    exact (ho5.cell (p:=⟨w.heap.size,0,none⟩) (by have:=hsz.out; simp at this ⊢; omega) (by simp)).trans k3
  go_wp2_with fail
  go_ret
  refine ⟨w1.heap.size,by omega,rfl,(HB.out.only ho5 (by simp)).put3 x,(o3.next ho5 (by simp)).setCell (.inr (by simp; omega)) _⟩

set_option maxHeartbeats 1000000 in
theorem inMember_any {w : World} (hg : Ety w) {B : Nat} (hB : B≤w.heap.size) {v : Value} {b : Bp} (h : EV w B v b) (he : b.2.2.2≠0) (i : Int) :
    Calls Tryz.prog 115 #[.int .i64 i,v] w fun e w'=>∃ p,B≤p∧e = .returned (badV p)∧BadAt w' p (b.1,i,b.2.2.1,b.2.2.2)∧Only [p] w w'∧p < w'.heap.size:=by
  cases h with
  | no h=>exact absurd h he
  | num h=>
    rename_i x
    have HP:=hid (placed_num hg x)
    go_enter Tryz.func115,Tryz.ntmps115
    go_wp2_with (go_at_call 56; refine HP.out.mono ?_; rintro e w1 ⟨q,hq,rfl,hb,ho⟩; have HB:=hid hb; obtain ⟨b0,b1,b2,b3,g0,g1,g2,g3⟩:=hb)
    go_ret
    exact ⟨q,by omega,rfl,HB.out.put1 i,(ho.mono (by simp)).setCell (.inl (by simp)) _,by simpa using HB.out.lt⟩
  | bad h hp hb=>
    rename_i p
    have HP:=hid (placed_bad hg p)
    have HB:=hid hb
    clear hb
    unfold badV at HP ⊢
    go_enter Tryz.func115,Tryz.ntmps115
    go_wp2_with (go_at_call 56; refine HP.out.mono ?_; rintro e w1 ⟨rfl,ho⟩; have HB1:=hid (HB.out.only ho (by simp)); obtain ⟨b0,b1,b2,b3,g0,g1,g2,g3⟩:=HB.out.only ho (by simp))
    go_ret
    exact ⟨p,hp,rfl,HB1.out.put1 i,(ho.mono (by simp)).setCell (.inl (by simp)) _,by simpa using HB1.out.lt⟩

set_option maxHeartbeats 1000000 in
theorem inClass_any {w : World} (hg : Ety w) {B : Nat} (hB : B≤w.heap.size) {v : Value} {b : Bp} (h : EV w B v b) (he : b.2.2.2≠0) (i : Int) :
    Calls Tryz.prog 21 #[.int .i64 i,v] w fun e w'=>∃ p,B≤p∧e = .returned (badV p)∧BadAt w' p (i,b.2)∧Only [p] w w'∧p < w'.heap.size:=by
  cases h with
  | no h=>exact absurd h he
  | num h=>
    rename_i x
    have HP:=hid (placed_num hg x)
    go_enter Tryz.func21,Tryz.ntmps21
    go_wp2_with (go_at_call 56; refine HP.out.mono ?_; rintro e w1 ⟨q,hq,rfl,hb,ho⟩; have HB:=hid hb; obtain ⟨b0,b1,b2,b3,g0,g1,g2,g3⟩:=hb)
    go_ret
    exact ⟨q,by omega,rfl,HB.out.put0 i,(ho.mono (by simp)).setCell (.inl (by simp)) _,by simpa using HB.out.lt⟩
  | bad h hp hb=>
    rename_i p
    have HP:=hid (placed_bad hg p)
    have HB:=hid hb
    clear hb
    unfold badV at HP ⊢
    go_enter Tryz.func21,Tryz.ntmps21
    go_wp2_with (go_at_call 56; refine HP.out.mono ?_; rintro e w1 ⟨rfl,ho⟩; have HB1:=hid (HB.out.only ho (by simp)); obtain ⟨b0,b1,b2,b3,g0,g1,g2,g3⟩:=HB.out.only ho (by simp))
    go_ret
    exact ⟨p,hp,rfl,HB1.out.put0 i,(ho.mono (by simp)).setCell (.inl (by simp)) _,by simpa using HB1.out.lt⟩


def clV (vf vd vm : Value) (c : Cl) : Value:=.agg #[.int .i64 c.flags,.string (str c.name),.string (str c.super),vf,vd,vm]
def meV (vp vc vh : Value) (m : Me) : Value:=.agg #[.int .i64 m.flags,.string (str m.name),vp,.bool m.sig.2.1,.int .i64 m.sig.2.2.1,.string (str m.sig.2.2.2),.int .i64 m.stack,.int .i64 m.locals,vc,vh]

set_option maxHeartbeats 4000000 in
theorem checkHead_any (c : Cl) {fo dd : Option Addr} {fc dc : Nat} (vm : Value) (h1 : c.name.length≤9223372036854775807) (h2 : c.super.length≤9223372036854775807) (h3 : c.faces.length≤9223372036854775807) (h4 : c.fields.length≤9223372036854775807) (w : World) :
  Calls Tryz.prog 46 #[clV (.slice fo c.faces.length fc) (.slice dd c.fields.length dc) vm c] w fun e w'=>e = .returned (bareV (headE c))∧Only [] w w':=by
 have N1:=fun W=>name_any c.name h1 W
 have N2:=fun W=>name_any c.super h2 W
 obtain ⟨fl,nm,su,fa,fi,me⟩:=c
 unfold clV headE
 simp only at N1 N2 h1 h2 h3 h4 ⊢
 generalize fa.length = nf at *
 generalize fi.length = nd at *
 have o0:=(Only.refl [] w).alloc (.cells #[.int .i64 fl,.string (str nm),.string (str su),.slice fo nf fc,.slice dd nd dc,vm] 28)
 by_cases hfl : fl≠0∧fl≠1∧fl≠2
 ·rw [if_pos hfl]
  obtain ⟨g0,g1,g2⟩:=hfl
  have g0' : (fl == 0) = false:=by simpa using g0
  have g1' : (fl == 1) = false:=by simpa using g1
  have g2' : (fl == 2) = false:=by simpa using g2
  clear N1 N2
  go_enter Tryz.func46,Tryz.ntmps46
  go_wp2
  go_ret
  exact ⟨rfl,o0⟩
 ·rw [if_neg hfl]
  have hfl' : fl = 0∨fl = 1∨fl = 2:=by omega
  clear hfl
  generalize nameOK nm = b1 at *
  generalize nameOK su = b2 at *
  replace N1:=hid N1
  replace N2:=hid N2
  rcases hfl' with rfl | rfl | rfl
  ·cases b1 with
   | false=>
    rw [if_pos (Or.inl rfl)]
    go_enter Tryz.func46,Tryz.ntmps46
    go_wp2_with fail
    refine (N1.out _).mono ?_
    rintro e w' ⟨rfl,rfl⟩
    go_wp2_with fail
    go_ret
    exact ⟨rfl,o0⟩
   | true=>
    cases b2 with
    | false=>
     rw [if_pos (Or.inr rfl)]
     go_enter Tryz.func46,Tryz.ntmps46
     go_wp2_with fail
     refine (N1.out _).mono ?_
     rintro e w' ⟨rfl,rfl⟩
     go_wp2_with fail
     refine (N2.out _).mono ?_
     rintro e w' ⟨rfl,rfl⟩
     go_wp2_with fail
     go_ret
     exact ⟨rfl,o0⟩
    | true=>
     rw [if_neg (by simp)]
     by_cases hm : 16 < nf
     ·rw [if_pos hm]
      have gm : (16 : Int) < (nf : Int):=by omega
      go_enter Tryz.func46,Tryz.ntmps46
      go_wp2_with fail
      refine (N1.out _).mono ?_
      rintro e w' ⟨rfl,rfl⟩
      go_wp2_with fail
      refine (N2.out _).mono ?_
      rintro e w' ⟨rfl,rfl⟩
      go_wp2_with fail
      go_ret
      exact ⟨rfl,o0⟩
     ·rw [if_neg hm]
      have gm : ¬ (16 : Int) < (nf : Int):=by omega
      rw [if_neg (by omega),if_neg (by omega)]
      go_enter Tryz.func46,Tryz.ntmps46
      go_wp2_with fail
      refine (N1.out _).mono ?_
      rintro e w' ⟨rfl,rfl⟩
      go_wp2_with fail
      refine (N2.out _).mono ?_
      rintro e w' ⟨rfl,rfl⟩
      go_wp2_with fail
      go_ret
      exact ⟨rfl,o0⟩

  ·cases b1 with
   | false=>
    rw [if_pos (Or.inl rfl)]
    go_enter Tryz.func46,Tryz.ntmps46
    go_wp2_with fail
    refine (N1.out _).mono ?_
    rintro e w' ⟨rfl,rfl⟩
    go_wp2_with fail
    go_ret
    exact ⟨rfl,o0⟩
   | true=>
    cases b2 with
    | false=>
     rw [if_pos (Or.inr rfl)]
     go_enter Tryz.func46,Tryz.ntmps46
     go_wp2_with fail
     refine (N1.out _).mono ?_
     rintro e w' ⟨rfl,rfl⟩
     go_wp2_with fail
     refine (N2.out _).mono ?_
     rintro e w' ⟨rfl,rfl⟩
     go_wp2_with fail
     go_ret
     exact ⟨rfl,o0⟩
    | true=>
     rw [if_neg (by simp)]
     by_cases hm : 16 < nf
     ·rw [if_pos hm]
      have gm : (16 : Int) < (nf : Int):=by omega
      go_enter Tryz.func46,Tryz.ntmps46
      go_wp2_with fail
      refine (N1.out _).mono ?_
      rintro e w' ⟨rfl,rfl⟩
      go_wp2_with fail
      refine (N2.out _).mono ?_
      rintro e w' ⟨rfl,rfl⟩
      go_wp2_with fail
      go_ret
      exact ⟨rfl,o0⟩
     ·rw [if_neg hm]
      have gm : ¬ (16 : Int) < (nf : Int):=by omega
      by_cases hs : su = objL
      ·rw [if_neg (by simp [hs])]
       subst hs
       have ht : (str objL).toList = [79,98,106,101,99,116]:=str_toList _
       by_cases hd : 0 < nd
       ·rw [if_pos ⟨rfl,hd⟩]
        have gd : (0 : Int) < (nd : Int):=by omega
        go_enter Tryz.func46,Tryz.ntmps46
        go_wp2_with fail
        refine (N1.out _).mono ?_
        rintro e w' ⟨rfl,rfl⟩
        go_wp2_with fail
        refine (N2.out _).mono ?_
        rintro e w' ⟨rfl,rfl⟩
        go_wp2_with fail
        go_ret
        exact ⟨rfl,o0⟩
       ·rw [if_neg (by omega)]
        have gd : ¬ (0 : Int) < (nd : Int):=by omega
        go_enter Tryz.func46,Tryz.ntmps46
        go_wp2_with fail
        refine (N1.out _).mono ?_
        rintro e w' ⟨rfl,rfl⟩
        go_wp2_with fail
        refine (N2.out _).mono ?_
        rintro e w' ⟨rfl,rfl⟩
        go_wp2_with fail
        go_ret
        exact ⟨rfl,o0⟩
      ·rw [if_pos ⟨rfl,hs⟩]
       have ht:=str_toList su
       have hb2 : ¬ (su = [79,98,106,101,99,116]):=hs
       have hb3 : (su == [79,98,106,101,99,116]) = false:=by simpa using hb2
       go_enter Tryz.func46,Tryz.ntmps46
       go_wp2_with fail
       refine (N1.out _).mono ?_
       rintro e w' ⟨rfl,rfl⟩
       go_wp2_with fail
       refine (N2.out _).mono ?_
       rintro e w' ⟨rfl,rfl⟩
       go_wp2_with fail
       go_ret
       exact ⟨rfl,o0⟩

  ·cases b1 with
   | false=>
    rw [if_pos (Or.inl rfl)]
    go_enter Tryz.func46,Tryz.ntmps46
    go_wp2_with fail
    refine (N1.out _).mono ?_
    rintro e w' ⟨rfl,rfl⟩
    go_wp2_with fail
    go_ret
    exact ⟨rfl,o0⟩
   | true=>
    cases b2 with
    | false=>
     rw [if_pos (Or.inr rfl)]
     go_enter Tryz.func46,Tryz.ntmps46
     go_wp2_with fail
     refine (N1.out _).mono ?_
     rintro e w' ⟨rfl,rfl⟩
     go_wp2_with fail
     refine (N2.out _).mono ?_
     rintro e w' ⟨rfl,rfl⟩
     go_wp2_with fail
     go_ret
     exact ⟨rfl,o0⟩
    | true=>
     rw [if_neg (by simp)]
     by_cases hm : 16 < nf
     ·rw [if_pos hm]
      have gm : (16 : Int) < (nf : Int):=by omega
      go_enter Tryz.func46,Tryz.ntmps46
      go_wp2_with fail
      refine (N1.out _).mono ?_
      rintro e w' ⟨rfl,rfl⟩
      go_wp2_with fail
      refine (N2.out _).mono ?_
      rintro e w' ⟨rfl,rfl⟩
      go_wp2_with fail
      go_ret
      exact ⟨rfl,o0⟩
     ·rw [if_neg hm]
      have gm : ¬ (16 : Int) < (nf : Int):=by omega
      rw [if_neg (by omega),if_neg (by omega)]
      go_enter Tryz.func46,Tryz.ntmps46
      go_wp2_with fail
      refine (N1.out _).mono ?_
      rintro e w' ⟨rfl,rfl⟩
      go_wp2_with fail
      refine (N2.out _).mono ?_
      rintro e w' ⟨rfl,rfl⟩
      go_wp2_with fail
      go_ret
      exact ⟨rfl,o0⟩


set_option maxHeartbeats 1000000 in
theorem checkFace_any {w : World} {ao : Option Addr} {l : List (List UInt8)} {d cap : Nat} (hS : RS w ao (scs l) d) (hl : l.length≤9223372036854775807) (n : List UInt8) (hn : n.length≤9223372036854775807) :
  Calls Tryz.prog 48 #[.slice ao l.length cap,.string (str n)] w fun e w'=>e = .returned (bareV (faceE l n))∧Only [] w w':=by
 have N1:=name_any n hn w
 have HC:=contains_str (cap:=cap) hS hl n
 unfold faceE
 have hin : (decide (n∈l)) = true ↔ n∈l:=by simp
 generalize nameOK n = b1 at *
 replace N1:=hid N1
 replace HC:=hid HC
 cases b1 with
 | false=>
  rw [if_neg (by simp)]
  go_enter Tryz.func48,Tryz.ntmps48
  go_wp2_with fail
  refine N1.out.mono ?_
  rintro e w' ⟨rfl,rfl⟩
  go_wp2_with fail
  go_ret
  exact ⟨rfl,Only.refl _ _⟩
 | true=>
  rw [if_pos rfl]
  by_cases h : n∈l
  ·rw [if_pos h]
   rw [decide_eq_true h] at HC
   go_enter Tryz.func48,Tryz.ntmps48
   go_wp2_with fail
   refine N1.out.mono ?_
   rintro e w' ⟨rfl,rfl⟩
   go_wp2_with fail
   refine HC.out.mono ?_
   rintro e w1 ⟨rfl,ho⟩
   go_wp2_with fail
   go_ret
   exact ⟨rfl,ho⟩
  ·rw [if_neg h]
   rw [decide_eq_false h] at HC
   go_enter Tryz.func48,Tryz.ntmps48
   go_wp2_with fail
   refine N1.out.mono ?_
   rintro e w' ⟨rfl,rfl⟩
   go_wp2_with fail
   refine HC.out.mono ?_
   rintro e w1 ⟨rfl,ho⟩
   go_wp2_with fail
   go_ret
   exact ⟨rfl,ho⟩

set_option maxHeartbeats 4000000 in
theorem checkFlags_any (c : Cl) (vf vd vm : Value) (m : Me) (vp vc vh : Value) (w : World) :
  Calls Tryz.prog 54 #[clV vf vd vm c,meV vp vc vh m] w fun e w'=>e = .returned (bareV (flagsE c.flags m))∧Only [] w w':=by
 obtain ⟨cf,cn,cs,_,_,_⟩:=c
 obtain ⟨fl,nm,⟨ps,vo,rt⟩,st,lo,code,hs⟩:=m
 unfold clV meV flagsE
 simp only
 have o0:=((Only.refl [] w).alloc (.cells #[.int .i64 cf,.string (str cn),.string (str cs),vf,vd,vm] 28)).alloc (.cells #[.int .i64 fl,.string (str nm),vp,.bool vo,.int .i64 rt.1,.string (str rt.2),.int .i64 st,.int .i64 lo,vc,vh] 41)
 by_cases hi : nm = initL
 ·subst hi
  have ht : (str initL).toList = [60,105,110,105,116,62]:=str_toList _
  by_cases f0 : fl = 0
  ·subst f0
   rw [if_neg (by simp)]
   cases vo with
   | false=>
    rw [if_pos ⟨rfl,rfl⟩]
    go_enter Tryz.func54,Tryz.ntmps54
    go_wp2_with fail
    go_ret
    exact ⟨rfl,o0⟩
   | true=>
    rw [if_neg (by simp)]
    by_cases c1 : cf = 1
    ·subst c1
     rw [if_pos ⟨rfl,by decide⟩]
     go_enter Tryz.func54,Tryz.ntmps54
     go_wp2_with fail
     go_ret
     exact ⟨rfl,o0⟩
    ·have g1 : (cf == 1) = false:=by simpa using c1
     rw [if_neg (by omega),if_neg (by omega)]
     by_cases c0 : cf = 0
     ·subst c0
      go_enter Tryz.func54,Tryz.ntmps54
      go_wp2_with fail
      go_ret
      exact ⟨rfl,o0⟩
     ·have g0 : (cf == 0) = false:=by simpa using c0
      go_enter Tryz.func54,Tryz.ntmps54
      go_wp2_with fail
      go_ret
      exact ⟨rfl,o0⟩
  ·have g0 : (fl == 0) = false:=by simpa using f0
   rw [if_pos ⟨rfl,f0⟩]
   go_enter Tryz.func54,Tryz.ntmps54
   go_wp2_with fail
   go_ret
   exact ⟨rfl,o0⟩
 ·have ht:=str_toList nm
  have hb2 : ¬ (nm = [60,105,110,105,116,62]):=hi
  rw [if_neg (fun h=>hi h.1),if_neg (fun h=>hi h.1)]
  by_cases c1 : cf = 1
  ·subst c1
   by_cases f2 : fl = 2
   ·subst f2
    rw [if_neg (by omega),if_neg (by omega)]
    go_enter Tryz.func54,Tryz.ntmps54
    go_wp2_with fail
    go_ret
    exact ⟨rfl,o0⟩
   ·have g2 : (fl == 2) = false:=by simpa using f2
    rw [if_pos ⟨rfl,f2⟩]
    go_enter Tryz.func54,Tryz.ntmps54
    go_wp2_with fail
    go_ret
    exact ⟨rfl,o0⟩
  ·have g1 : (cf == 1) = false:=by simpa using c1
   rw [if_neg (by omega)]
   by_cases c0 : cf = 0
   ·subst c0
    by_cases f2 : fl = 2
    ·subst f2
     rw [if_pos ⟨rfl,rfl⟩]
     go_enter Tryz.func54,Tryz.ntmps54
     go_wp2_with fail
     go_ret
     exact ⟨rfl,o0⟩
    ·have g2 : (fl == 2) = false:=by simpa using f2
     rw [if_neg (by omega)]
     go_enter Tryz.func54,Tryz.ntmps54
     go_wp2_with fail
     go_ret
     exact ⟨rfl,o0⟩
   ·have g0 : (cf == 0) = false:=by simpa using c0
    rw [if_neg (by omega)]
    by_cases f2 : fl = 2
    ·subst f2
     go_enter Tryz.func54,Tryz.ntmps54
     go_wp2_with fail
     go_ret
     exact ⟨rfl,o0⟩
    ·have g2 : (fl == 2) = false:=by simpa using f2
     go_enter Tryz.func54,Tryz.ntmps54
     go_wp2_with fail
     go_ret
     exact ⟨rfl,o0⟩

theorem handedIn_any (m : Me) {po : Option Addr} {pc : Nat} (hl : m.sig.1.length≤1000000000000000000) (vc vh : Value) (w : World) :
  Calls Tryz.prog 124 #[meV (.slice po m.sig.1.length pc) vc vh m] w fun e w'=>e = .returned (.int .i64 (handedE m))∧Only [] w w':=by
 obtain ⟨fl,nm,⟨ps,vo,rt⟩,st,lo,code,hs⟩:=m
 unfold meV handedE
 simp only at hl ⊢
 have o0:=(Only.refl [] w).alloc (.cells #[.int .i64 fl,.string (str nm),.slice po ps.length pc,.bool vo,.int .i64 rt.1,.string (str rt.2),.int .i64 st,.int .i64 lo,vc,vh] 41)
 by_cases f4 : fl = 4
 ·subst f4
  rw [if_pos rfl]
  go_enter Tryz.func124,Tryz.ntmps124
  go_wp2
  go_ret
  exact ⟨rfl,o0⟩
 ·have g4 : (fl == 4) = false:=by simpa using f4
  rw [if_neg f4]
  go_enter Tryz.func124,Tryz.ntmps124
  go_wp2
  go_ret
  exact ⟨rfl,o0⟩

end Go.Proofs.YtildemmkhndhjaaGreatDoor
