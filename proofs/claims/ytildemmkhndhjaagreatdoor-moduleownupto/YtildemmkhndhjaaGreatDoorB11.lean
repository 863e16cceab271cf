/-
  What the proof leans on, part 11 of 48. The conditions stand in each theorem.
-/
import Derived.Test.YtildemmkhndhjaaGreatDoorB06
import Derived.WalkKit
import Derived.Laws.BitsAllLaws
import Derived.Laws.Bits64
import Derived.Below
import Derived.Outline
import Derived.Test.YtildemmkhndhjaaGreatDoorB01
import Derived.Laws.AppendOwnNone
import Derived.WalkSpells
import Derived.Test.YtildemmkhndhjaaGreatDoorB04
import Derived.ChangeSame
import Derived.ChangeVars
import Derived.JoinedOf
import Derived.RowKit
import Derived.RowKitTokens
import Derived.LaidLaws
import Derived.LaidHandle
import Derived.Lib.LaidTab
import Derived.Deep.DeepHandedRow
import Derived.Deep.DeepWitnessRowRef
import Derived.SevenTiedAt
import Derived.ProofKit
import Derived.OpenShut
import Derived.ShutString
import Derived.ChangeOld
import Derived.ChangeMaps5
import Derived.SizedLaws
import Derived.SliceStrings
import Derived.Deep.Strs
import Derived.Laws.IdiomStrings
import Derived.BigQuiet
import Derived.Lib.ConvBytes
namespace Go.Proofs.YtildemmkhndhjaaGreatDoor
open Go.RowKit

/-- What All answers. -/
def AllPost (w : World) (r : List In × Int × Int) (e : Ending) (w' : World) : Prop:=
 ∃ ao cap,e = .returned (.tuple #[.slice ao r.1.length cap,.int .i64 r.2.1,.int .i64 r.2.2])∧w'.ownsRow w.heap.size 250 4 (.slice ao r.1.length cap) r.1.length (qcs r.1)∧Only [] w w'

theorem joinR_zero (l : List In) (r : List In × Int × Int) : (joinR l r).2.2 = 0→(joinR l r).2.1 = 0:=by
 unfold joinR
 split
 ·intro _; rfl
 ·intro h; contradiction
theorem joinR_none (l : List In) (r : List In × Int × Int) : (joinR l r).2.2≠0→(joinR l r).1 = []:=by
 unfold joinR
 split
 ·intro h; exact absurd rfl h
 ·intro _; rfl

theorem allL_zero (f k : Nat) (bs : List UInt8) : (allL f k bs).2.2 = 0→(allL f k bs).2.1 = 0:=by
 cases f with
 | zero=>intro _; rfl
 | succ f=>
  unfold allL
  split
  ·intro _; rfl
  ·split
   ·exact joinR_zero _ _
   ·intro h; contradiction
theorem allL_none (f k : Nat) (bs : List UInt8) : (allL f k bs).2.2≠0→(allL f k bs).1 = []:=by
 cases f with
 | zero=>intro _; rfl
 | succ f=>
  unfold allL
  split
  ·intro _; rfl
  ·split
   ·exact joinR_none _ _
   ·intro _; rfl

set_option maxHeartbeats 1000000 in
set_option maxRecDepth 100000 in
theorem all_any {w : World} {ao : Option Addr} {code : List UInt8} {d cap : Nat} (hB : RS w ao (bcs code) d) (hc : code.length≤cap) (hl : cap≤9223372036854775807) (hs : code.length≤100000) :
  Calls Tryz.prog 169 #[.slice ao code.length cap] w (AllPost w (allR code)):=by
 obtain ⟨x,hx⟩ : ∃ x,x = allR code:=⟨_,rfl⟩
 rw [← hx]
 have hr : Hid (x = joinR [] (allL code.length 0 (code.drop 0))):=by
  rw [hx,joinR_nil _ (allL_zero _ _ _) (allL_none _ _ _)]
  rfl
 clear hx
 have HD:=hid (fun W (hW : Only [] w W) (k : Nat)=>dec_any (hB.only0 hW) hc hl (k : Int))
 clear hB
 go_enter Tryz.func169,Tryz.ntmps169
 go_wp2
 go_loopw [5,6] (fun v i wr=>∃ (k : Nat) (l : List In) (vo : Option Addr) (vc : Nat),k≤code.length∧l.length≤k∧i = .int .i64 (k : Int)∧v = .slice vo l.length vc∧Hid (x = joinR l (allL code.length k (code.drop k)))∧Hid (wr.ownsRow w.heap.size 250 4 (.slice vo l.length vc) l.length (qcs l))∧Only [] w wr) (fun _ i _=>code.length - (intOf i).toNat)
 case atStart=>exact ⟨0,[],none,0,Nat.zero_le _,Nat.le_refl _,rfl,rfl,hr,hid (World.ownsRow_nil _ _ _ _),Only.refl _ _⟩
 case round=>
  obtain ⟨k,l,vo,vc,hk,hlk,rfl,rfl,hq,hown,hor⟩:=hrel
  clear hr
  by_cases hlt : k < code.length
  ·have g2 : ((k : Int) < (code.length : Int)):=by omega
   replace HD:=HD.out wr hor k
   have hd : decR code (k : Int) = decAt k (code.drop k):=by unfold decR; rw [if_neg (by omega),Int.toNat_natCast]
   have hne : code.drop k≠[]:=by
    intro e
    have:=congrArg List.length e
    simp at this
    omega
   rw [hd] at HD
   by_cases he : (decAt k (code.drop k)).2 = 0
   ·obtain ⟨c,r,hb,hp,hle,hi⟩:=decAt_ok he
    have hst:=allL_step hne (by simp) he (f:=code.length)
    rw [hi] at hst
    rw [he,hi] at HD
    simp only [Int.toNat_natCast,List.drop_drop] at hst
    rw [List.length_drop] at hle
    have hz:=sizeN_le c.toNat
    generalize beI (r.take (sizeN c.toNat - 1)) = nn at *
    generalize sizeN c.toNat = z at *
    generalize c.toNat = cc at *
    have hq' : Hid (x = joinR (l ++ [((k : Int),(cc : Int),(nn : Int),(z : Int))]) (allL code.length (k + z) (code.drop (k + z)))):=by
     rw [Hid,hq.out,hst,joinR_joinR]
    clear hq hst hd hne hi hb he
    simp only [inV] at HD
    replace HD:=hid HD
    go_wp2_with (first | (go_at_call 191; refine HD.out.mono ?_; rintro e w1 ⟨rfl,ho1⟩; have I1:=hid (inAt_new w1 (k : Int) (cc : Int) (nn : Int) (z : Int) 250); replace hown:=hid (rows_only hown.out ho1 (by simp))) | (at_builtin; refine wpList_append_any (ys:=qcs [((k : Int),(cc : Int),(nn : Int),(z : Int))]) rfl (.tmp 23) (.tmp 25) elIn Tryz.underlying243 rfl rfl rfl (rows_only hown.out (((Only.refl [] w1).alloc (.cells #[.int .i64 (k : Int),.int .i64 (cc : Int),.int .i64 (nn : Int),.int .i64 (z : Int)] 250)).alloc (.cells #[.int .i64 (k : Int),.int .i64 (cc : Int),.int .i64 (nn : Int),.int .i64 (z : Int)] 250)) (by simp)) (rows_in _ _ _ _ _ (by simp)) rfl (qcs_one _) (by simp) (by omega) (by have:=hor.size; have:=ho1.size; simp; omega) ?_; rintro ao' cap' w2 hA; have hlt1 : ∀ a,vo = some a→w1.heap.size≠a.block:=fun a ha=>(by have:=((RS.of_owns hown.out).2.2.2.2 a ha).2.1; omega); obtain ⟨c0,c1,c2,c3⟩:=(I1.out.alloc _).only hA.only (block_not hlt1); simp only [Nat.zero_add] at c1 c2 c3))
    refine ⟨⟨k + z,l ++ [((k : Int),(cc : Int),(nn : Int),(z : Int))],ao',cap',by omega,by simp; omega,by go_num,by simp,hq',?_,?_⟩,by simp [intOf]; omega⟩
    ·have:=hA.own
     rw [← qcs_append] at this
     simpa [Hid] using this
    ·exact hA.next (rows_only hown.out (((Only.refl [] w1).alloc _).alloc _) (by simp)) (((hor.next ho1 (by simp)).alloc _).alloc _)
   ·have hst:=allL_stop hne (by simp) he (f:=code.length)
    rw [(decAt_err he).1] at HD
    have hxx : x = ([],(k : Int),(decAt k (code.drop k)).2):=by
     rw [hq.out,hst]
     unfold joinR
     rw [if_neg he]
    clear hq hst
    generalize (decAt k (code.drop k)).2 = er at *
    subst hxx
    have ge : (er == 0) = false:=by simpa using he
    clear hd hne
    simp only [inV,in0] at HD
    replace HD:=hid HD
    go_wp2_with (go_at_call 191; refine HD.out.mono ?_; rintro e w1 ⟨rfl,ho1⟩)
    go_ret3
    exact ⟨none,0,rfl,World.ownsRow_nil _ _ _ _,(hor.next ho1 (by simp)).alloc _⟩
  ·have g2 : ¬ ((k : Int) < (code.length : Int)):=by omega
   have hxx : x = (l,0,0):=by
    rw [hq.out,List.drop_eq_nil_of_le (by omega),allL_nil]
    simp [joinR]
   subst hxx
   clear HD hq
   go_wp2
   go_ret3
   exact ⟨vo,vc,rfl,hown.out,hor⟩

set_option maxHeartbeats 1000000 in
set_option maxRecDepth 100000 in
theorem rall_any {w : World} {ao : Option Addr} {code : List UInt8} {d cap : Nat} (hB : RS w ao (bcs code) d) (hc : code.length≤cap) (hl : cap≤9223372036854775807) (hs : code.length≤100000) :
  Calls Tryz.prog 217 #[.slice ao code.length cap] w (AllPost w (allR code)):=by
 obtain ⟨x,hx⟩ : ∃ x,x = allR code:=⟨_,rfl⟩
 rw [← hx]
 have hr : Hid (x = joinR [] (allL code.length 0 (code.drop 0))):=by
  rw [hx,joinR_nil _ (allL_zero _ _ _) (allL_none _ _ _)]
  rfl
 clear hx
 have HD:=hid (fun W (hW : Only [] w W) (k : Nat)=>rdec_any (hB.only0 hW) hc hl (k : Int))
 clear hB
 go_enter Tryz.func217,Tryz.ntmps217
 go_wp2
 go_loopw [5,6] (fun v i wr=>∃ (k : Nat) (l : List In) (vo : Option Addr) (vc : Nat),k≤code.length∧l.length≤k∧i = .int .i64 (k : Int)∧v = .slice vo l.length vc∧Hid (x = joinR l (allL code.length k (code.drop k)))∧Hid (wr.ownsRow w.heap.size 250 4 (.slice vo l.length vc) l.length (qcs l))∧Only [] w wr) (fun _ i _=>code.length - (intOf i).toNat)
 case atStart=>exact ⟨0,[],none,0,Nat.zero_le _,Nat.le_refl _,rfl,rfl,hr,hid (World.ownsRow_nil _ _ _ _),Only.refl _ _⟩
 case round=>
  obtain ⟨k,l,vo,vc,hk,hlk,rfl,rfl,hq,hown,hor⟩:=hrel
  clear hr
  by_cases hlt : k < code.length
  ·have g2 : ((k : Int) < (code.length : Int)):=by omega
   replace HD:=HD.out wr hor k
   have hd : decR code (k : Int) = decAt k (code.drop k):=by unfold decR; rw [if_neg (by omega),Int.toNat_natCast]
   have hne : code.drop k≠[]:=by
    intro e
    have:=congrArg List.length e
    simp at this
    omega
   rw [hd] at HD
   by_cases he : (decAt k (code.drop k)).2 = 0
   ·obtain ⟨c,r,hb,hp,hle,hi⟩:=decAt_ok he
    have hst:=allL_step hne (by simp) he (f:=code.length)
    rw [hi] at hst
    rw [he,hi] at HD
    simp only [Int.toNat_natCast,List.drop_drop] at hst
    rw [List.length_drop] at hle
    have hz:=sizeN_le c.toNat
    generalize beI (r.take (sizeN c.toNat - 1)) = nn at *
    generalize sizeN c.toNat = z at *
    generalize c.toNat = cc at *
    have hq' : Hid (x = joinR (l ++ [((k : Int),(cc : Int),(nn : Int),(z : Int))]) (allL code.length (k + z) (code.drop (k + z)))):=by
     rw [Hid,hq.out,hst,joinR_joinR]
    clear hq hst hd hne hi hb he
    simp only [inV] at HD
    replace HD:=hid HD
    go_wp2_with (first | (go_at_call 226; refine HD.out.mono ?_; rintro e w1 ⟨rfl,ho1⟩; have I1:=hid (inAt_new w1 (k : Int) (cc : Int) (nn : Int) (z : Int) 250); replace hown:=hid (rows_only hown.out ho1 (by simp))) | (at_builtin; refine wpList_append_any (ys:=qcs [((k : Int),(cc : Int),(nn : Int),(z : Int))]) rfl (.tmp 23) (.tmp 25) elIn Tryz.underlying243 rfl rfl rfl (rows_only hown.out (((Only.refl [] w1).alloc (.cells #[.int .i64 (k : Int),.int .i64 (cc : Int),.int .i64 (nn : Int),.int .i64 (z : Int)] 250)).alloc (.cells #[.int .i64 (k : Int),.int .i64 (cc : Int),.int .i64 (nn : Int),.int .i64 (z : Int)] 250)) (by simp)) (rows_in _ _ _ _ _ (by simp)) rfl (qcs_one _) (by simp) (by omega) (by have:=hor.size; have:=ho1.size; simp; omega) ?_; rintro ao' cap' w2 hA; have hlt1 : ∀ a,vo = some a→w1.heap.size≠a.block:=fun a ha=>(by have:=((RS.of_owns hown.out).2.2.2.2 a ha).2.1; omega); obtain ⟨c0,c1,c2,c3⟩:=(I1.out.alloc _).only hA.only (block_not hlt1); simp only [Nat.zero_add] at c1 c2 c3))
    refine ⟨⟨k + z,l ++ [((k : Int),(cc : Int),(nn : Int),(z : Int))],ao',cap',by omega,by simp; omega,by go_num,by simp,hq',?_,?_⟩,by simp [intOf]; omega⟩
    ·have:=hA.own
     rw [← qcs_append] at this
     simpa [Hid] using this
    ·exact hA.next (rows_only hown.out (((Only.refl [] w1).alloc _).alloc _) (by simp)) (((hor.next ho1 (by simp)).alloc _).alloc _)
   ·have hst:=allL_stop hne (by simp) he (f:=code.length)
    rw [(decAt_err he).1] at HD
    have hxx : x = ([],(k : Int),(decAt k (code.drop k)).2):=by
     rw [hq.out,hst]
     unfold joinR
     rw [if_neg he]
    clear hq hst
    generalize (decAt k (code.drop k)).2 = er at *
    subst hxx
    have ge : (er == 0) = false:=by simpa using he
    clear hd hne
    simp only [inV,in0] at HD
    replace HD:=hid HD
    go_wp2_with (go_at_call 226; refine HD.out.mono ?_; rintro e w1 ⟨rfl,ho1⟩)
    go_ret3
    exact ⟨none,0,rfl,World.ownsRow_nil _ _ _ _,(hor.next ho1 (by simp)).alloc _⟩
  ·have g2 : ¬ ((k : Int) < (code.length : Int)):=by omega
   have hxx : x = (l,0,0):=by
    rw [hq.out,List.drop_eq_nil_of_le (by omega),allL_nil]
    simp [joinR]
   subst hxx
   clear HD hq
   go_wp2
   go_ret3
   exact ⟨vo,vc,rfl,hown.out,hor⟩

end Go.Proofs.YtildemmkhndhjaaGreatDoor
namespace Go.Proofs.YtildemmkhndhjaaGreatDoor

/-- The number that bytes say, the highest first. -/
def be (l : List UInt8) : Nat:=l.foldl (fun n c=>n * 256 + c.toNat) 0

theorem be_snoc (l : List UInt8) (c : UInt8) : be (l ++ [c]) = be l * 256 + c.toNat:=by simp [be,List.foldl_append]
theorem be_lt (l : List UInt8) : be l < 256 ^ l.length:=by
 suffices h : ∀ n l',List.length l' = n→be l' < 256 ^ n from h _ l rfl
 intro n
 induction n with
 | zero=>intro l' hl; rw [List.eq_nil_of_length_eq_zero hl]; decide
 | succ n ih=>
  intro l' hl
  have hne : l'≠[]:=by intro e; simp [e] at hl
  rw [← List.dropLast_concat_getLast hne,be_snoc,Nat.pow_succ]
  have h1:=ih l'.dropLast (by simp [hl])
  have h2:=(l'.getLast hne).toNat_lt
  omega

theorem be_take_succ (l : List UInt8) (k : Nat) (h : k < l.length) : be (l.take (k + 1)) = be (l.take k) * 256 + l[k].toNat:=by
 rw [List.take_succ_eq_append_getElem h,be_snoc]

theorem ret_int {k : IntKind} {a b : Int} (h : a = b) : Ending.returned (.int k a) = .returned (.int k b):=by rw [h]

/-- A number moved by a byte, and a byte. -/
theorem or_shl8c (x c : Nat) (hx : x < 72057594037927936) (hc : c < 256) : bits .or .u64 (IntKind.u64.wrap ((x : Int) * 256)) (IntKind.u64.wrap (c : Int)) = ((x * 256 + c : Nat) : Int):=by
 have e1 : IntKind.u64.wrap ((x : Int) * 256) = ((x * 256 : Nat) : Int):=by rw [IntKind.wrap_u64]; omega
 have e2 : IntKind.u64.wrap (c : Int) = (c : Int):=by rw [IntKind.wrap_u64]; omega
 rw [e1,e2,u64_or_nat _ _ (by omega) (by omega),nat_join 8 _ _ (by omega) (by omega)]

/-- What a reader's take does to its bytes that are left, how many were read, and its error: what it answers, and what is then. -/
def rTake (s : List UInt8 × Nat × Int) (m : Nat) : List UInt8 × (List UInt8 × Nat × Int):=
 if s.2.2 = 0 then (if s.1.length < m then ([],s.1,s.2.1,11) else (s.1.take m,s.1.drop m,s.2.1 + m,0)) else ([],s)

theorem rTake_le (s : List UInt8 × Nat × Int) (m : Nat) : (rTake s m).1.length≤m:=by
 unfold rTake
 split
 ·split <;> simp; omega
 ·simp

theorem be_lt8 (l : List UInt8) (k : Nat) (h : k < 8) : be (l.take k) < 72057594037927936:=by
 have h1:=be_lt (l.take k)
 have h2 : (l.take k).length≤7:=by simp; omega
 have h3 : 256 ^ (l.take k).length≤256 ^ 7:=Nat.pow_le_pow_right (by decide) h2
 have h4 : (256 : Nat) ^ 7 = 72057594037927936:=by decide
 omega

theorem be_lt_of (l : List UInt8) (k : Nat) (h : l.length≤k) : be l < 256 ^ k:=Nat.lt_of_lt_of_le (be_lt l) (Nat.pow_le_pow_right (by decide) h)

end Go.Proofs.YtildemmkhndhjaaGreatDoor
namespace Go.Proofs.YtildemmkhndhjaaGreatDoor
open Go.RowKit

theorem bcs_len (l : List UInt8) : (bcs l).length = l.length:=by simp [bcs]

/-- Where the bytes of a slice lie that is read: nowhere, if there are none; else in block d, one behind the other. -/
def BS (w : World) (ao : Option Addr) (bs : List UInt8) (d : Nat) : Prop:=
  bs = []∨∃ off,ao = some ⟨d,off,none⟩∧∀ j (h : j < bs.length),w.cell? ⟨d,off + j,none⟩ = some (.int .u8 (bs[j].toNat : Int))

theorem BS.nil (w : World) (ao : Option Addr) (d : Nat) : BS w ao [] d:=.inl rfl

theorem BS.only {w w' : World} {S : List Nat} {ao : Option Addr} {bs : List UInt8} {d : Nat} (h : BS w ao bs d) (ho : Only S w w') (hn : bs≠[]→d ∉ S) : BS w' ao bs d:=by
  rcases h with h | ⟨off,ha,hc⟩
  · exact .inl h
  · by_cases hb : bs = []
    · exact .inl hb
    have hd:=hn hb
    exact .inr ⟨off,ha,fun j hj=>by rw [ho.cell (World.block_lt_of_cell? w _ (hc j hj)) hd]; exact hc j hj⟩

theorem BS.take {w : World} {ao : Option Addr} {bs : List UInt8} {d : Nat} (h : BS w ao bs d) (n : Nat) : BS w ao (bs.take n) d:=by
  rcases h with h | ⟨off,ha,hc⟩
  · exact .inl (by simp [h])
  · exact .inr ⟨off,ha,fun j hj=>by rw [hc j (by simp at hj; omega)]; simp⟩

/-- The address of what is left when n elements are taken away at the left. -/
def cutAt (ao : Option Addr) (cap n : Nat) : Option Addr:=if cap = n then ao else ao.map (·.add n)

theorem cutAt_none {ao : Option Addr} {cap n : Nat} (h : cutAt ao cap n = none) : ao = none:=by
  unfold cutAt at h
  split at h
  · exact h
  · simpa using h

theorem BS.drop {w : World} {ao : Option Addr} {bs : List UInt8} {d : Nat} (h : BS w ao bs d) (n cap : Nat) (hc : bs.length≤cap) : BS w (cutAt ao cap n) (bs.drop n) d:=by
  rcases h with h | ⟨off,ha,hcell⟩
  · exact .inl (by simp [h])
  · by_cases hn : n < bs.length
    · refine .inr ⟨off + n,?_,fun j hj=>?_⟩
      · unfold cutAt
        rw [if_neg (by omega),ha]
        simp [Addr.add_lit]
      · have:=hcell (n + j) (by simp at hj; omega)
        rw [show off + n + j = off + (n + j) by omega,this]
        simp
    · exact .inl (List.drop_eq_nil_of_le (by omega))

/-- A reader in block r: its bytes lie in block d; bs are left, 'at' were read, err is its first error. -/
structure Rd (w : World) (r d : Nat) (ao : Option Addr) (cap : Nat) (bs : List UInt8) (n : Nat) (err : Int) : Prop where
  c0 : w.cell? ⟨r,0,none⟩ = some (.int .i64 (n : Int))
  c1 : w.cell? ⟨r,1,none⟩ = some (.int .i64 err)
  c2 : w.cell? ⟨r,2,none⟩ = some (.slice ao bs.length cap)
  f0 : w.frozen? ⟨r,0,none⟩ = false
  f1 : w.frozen? ⟨r,1,none⟩ = false
  f2 : w.frozen? ⟨r,2,none⟩ = false
  data : BS w ao bs d
  capLe : bs.length≤cap
  capMax : cap≤9223372036854775807
  capNone : ao = none→cap = 0
  fit : n + bs.length≤9223372036854775807
  ne : bs≠[]→d≠r

theorem Rd.lt {w : World} {r d : Nat} {ao : Option Addr} {cap : Nat} {bs : List UInt8} {n : Nat} {err : Int} (h : Rd w r d ao cap bs n err) : r < w.heap.size:=World.block_lt_of_cell? w _ h.c0

theorem Rd.only {w w' : World} {S : List Nat} {r d : Nat} {ao : Option Addr} {cap : Nat} {bs : List UInt8} {n : Nat} {err : Int} (h : Rd w r d ao cap bs n err) (ho : Only S w w') (hr : r ∉ S) (hd : d ∉ S) : Rd w' r d ao cap bs n err:=by
  have hl:=h.lt
  exact { c0:=(ho.cell (p:=⟨r,0,none⟩) hl hr).trans h.c0,c1:=(ho.cell (p:=⟨r,1,none⟩) hl hr).trans h.c1,c2:=(ho.cell (p:=⟨r,2,none⟩) hl hr).trans h.c2,
          f0:=(ho.frozen (p:=⟨r,0,none⟩) hl hr).trans h.f0,f1:=(ho.frozen (p:=⟨r,1,none⟩) hl hr).trans h.f1,f2:=(ho.frozen (p:=⟨r,2,none⟩) hl hr).trans h.f2,
          data:=h.data.only ho (fun _=>hd),capLe:=h.capLe,capMax:=h.capMax,capNone:=h.capNone,fit:=h.fit,ne:=h.ne }

/-- A reader in block r, whatever the address of its bytes: what is left, how many were read, its error. -/
def RdE (w : World) (r d : Nat) (s : List UInt8 × Nat × Int) : Prop:=∃ ao cap,Rd w r d ao cap s.1 s.2.1 s.2.2

theorem RdE.only {w w' : World} {S : List Nat} {r d : Nat} {s : List UInt8 × Nat × Int} (h : RdE w r d s) (ho : Only S w w') (hr : r ∉ S) (hd : d ∉ S) : RdE w' r d s:=by
  obtain ⟨ao,cap,h⟩:=h
  exact ⟨ao,cap,h.only ho hr hd⟩

theorem RdE.lt {w : World} {r d : Nat} {s : List UInt8 × Nat × Int} (h : RdE w r d s) : r < w.heap.size:=by
  obtain ⟨ao,cap,h⟩:=h
  exact h.lt

/-- What a reader is when m bytes were taken. -/
theorem Rd.taken {w : World} {r d : Nat} {ao : Option Addr} {cap : Nat} {bs : List UInt8} {n : Nat} {err : Int} (h : Rd w r d ao cap bs n err) (m : Nat) (hm : m≤bs.length) (w' : World)
    (hw : (w.setCell ⟨r,2,none⟩ (.slice (cutAt ao cap m) (bs.length - m) (cap - m))).setCell ⟨r,0,none⟩ (.int .i64 ((n + m : Nat) : Int)) = w') :
    BS w' ao (bs.take m) d∧Rd w' r d (cutAt ao cap m) (cap - m) (bs.drop m) (n + m) err∧Only [r] w w':=by
  have ho : Only [r] w w':=by
    rw [← hw]
    exact ((Only.refl [r] w).setCell (.inl (by simp)) _).setCell (.inl (by simp)) _
  have hdata:=h.data.only ho (fun hb=>by simpa using h.ne hb)
  refine ⟨hdata.take m,?_,ho⟩
  have hf : ∀ a,w'.frozen? a = w.frozen? a:=fun a=>by rw [← hw,frozen_setCell,frozen_setCell]
  have k0 : (w.setCell ⟨r,2,none⟩ (.slice (cutAt ao cap m) (bs.length - m) (cap - m))).cell? ⟨r,0,none⟩ = some (.int .i64 (n : Int)):=by
    rw [cell_setCell_ne w _ (by simp)]; exact h.c0
  have hc:=h.capLe
  have hx:=h.capMax
  have hfit:=h.fit
  exact { c0:=by rw [← hw]; exact cell_setCell_same _ _ k0,
          c1:=by rw [← hw,cell_setCell_ne _ _ (by simp),cell_setCell_ne _ _ (by simp)]; exact h.c1,
          c2:=by rw [← hw,cell_setCell_ne _ _ (by simp),List.length_drop]; exact cell_setCell_same _ _ h.c2,
          f0:=(hf _).trans h.f0,f1:=(hf _).trans h.f1,f2:=(hf _).trans h.f2,
          data:=hdata.drop m cap hc,
          capLe:=by rw [List.length_drop]; omega,capMax:=by omega,capNone:=fun e=>by have:=h.capNone (cutAt_none e); omega,fit:=by rw [List.length_drop]; omega,ne:=fun hb=>h.ne (fun e=>hb (by rw [e]; simp)) }

/-- What a reader is when its first error was set. -/
theorem Rd.failed {w : World} {r d : Nat} {ao : Option Addr} {cap : Nat} {bs : List UInt8} {n : Nat} {err : Int} (h : Rd w r d ao cap bs n err) (x : Int) (w' : World)
    (hw : w.setCell ⟨r,1,none⟩ (.int .i64 x) = w') : Rd w' r d ao cap bs n x∧Only [r] w w':=by
  have ho : Only [r] w w':=by
    rw [← hw]
    exact (Only.refl [r] w).setCell (.inl (by simp)) _
  have hf : ∀ a,w'.frozen? a = w.frozen? a:=fun a=>by rw [← hw,frozen_setCell]
  refine ⟨{ c0:=by rw [← hw,cell_setCell_ne _ _ (by simp)]; exact h.c0,
            c1:=by rw [← hw]; exact cell_setCell_same _ _ h.c1,
            c2:=by rw [← hw,cell_setCell_ne _ _ (by simp)]; exact h.c2,
            f0:=(hf _).trans h.f0,f1:=(hf _).trans h.f1,f2:=(hf _).trans h.f2,
            data:=h.data.only ho (fun hb=>by simpa using h.ne hb),capLe:=h.capLe,capMax:=h.capMax,capNone:=h.capNone,fit:=h.fit,ne:=h.ne },ho⟩


theorem fine_any (r : Nat) (x : Int) (w : World) (h1 : w.cell? ⟨r,1,none⟩ = some (.int .i64 x)) :
  Calls Tryz.prog 63 #[.pointer (some ⟨r,0,none⟩)] w fun e w'=>e = .returned (.bool (x == 0))∧w = w':=by
 go_enter Tryz.func63,Tryz.ntmps63
 go_wp2
 go_ret
 exact ⟨rfl,rfl⟩

theorem fail_new (r : Nat) (x : Int) (w : World) (h1 : w.cell? ⟨r,1,none⟩ = some (.int .i64 0)) (f1 : w.frozen? ⟨r,1,none⟩ = false) :
  Calls Tryz.prog 135 #[.pointer (some ⟨r,0,none⟩),.int .i64 x] w fun e w'=>e = .returned (.tuple #[])∧w.setCell ⟨r,1,none⟩ (.int .i64 x) = w':=by
 go_enter Tryz.func135,Tryz.ntmps135
 go_wp2_with (go_at_call 63; refine (fine_any r 0 _ (by assumption)).mono ?_; rintro e w' ⟨rfl,rfl⟩)
 go_end0
 exact ⟨rfl,rfl⟩

theorem fail_old (r : Nat) (x y : Int) (w : World) (hy : (y == 0) = false) (h1 : w.cell? ⟨r,1,none⟩ = some (.int .i64 y)) :
  Calls Tryz.prog 135 #[.pointer (some ⟨r,0,none⟩),.int .i64 x] w fun e w'=>e = .returned (.tuple #[])∧w = w':=by
 go_enter Tryz.func135,Tryz.ntmps135
 go_wp2_with (go_at_call 63; refine (fine_any r y _ (by assumption)).mono ?_; rintro e w' ⟨rfl,rfl⟩)
 go_end0
 exact ⟨rfl,rfl⟩

theorem move_any (r n m : Nat) (w : World) (h0 : w.cell? ⟨r,0,none⟩ = some (.int .i64 (n : Int))) (f0 : w.frozen? ⟨r,0,none⟩ = false) (hb : n + m≤9223372036854775807) :
  Calls Tryz.prog 172 #[.pointer (some ⟨r,0,none⟩),.int .i64 (m : Int)] w fun e w'=>e = .returned (.tuple #[])∧w.setCell ⟨r,0,none⟩ (.int .i64 ((n + m : Nat) : Int)) = w':=by
 go_enter Tryz.func172,Tryz.ntmps172
 go_wp2
 go_end0
 exact ⟨rfl,by simp⟩


theorem info5 : (Tryz.prog.info? 5).map (fun i=>(i.zero,i.size,i.bytes)) = some (some (.int .u8 0),1,1):=by kernel_rfl

theorem slice_hi (ao : Option Addr) (len cap m : Nat) (hm : m≤cap) (w : World) :
  (Instr.slice 38 (.slice ao len cap) none (some (.int .i64 (m : Int))) none).run Tryz.prog w = .ok (.slice ao m cap) w:=by
 obtain ⟨i0,hi,hz0,hz1,hz2⟩:=info_parts info5
 simp [Instr.slice,run_underlying Tryz.underlying38,Instr.sliceBounds,run_sliceBound,sizeOf,typeInfo,hi,hm]
 cases ao <;> simp [Addr.add]

theorem slice_lo (ao : Option Addr) (len cap m : Nat) (hm : m≤len) (w : World) :
  (Instr.slice 38 (.slice ao len cap) (some (.int .i64 (m : Int))) none none).run Tryz.prog w = .ok (.slice (cutAt ao cap m) (len - m) (cap - m)) w:=by
 obtain ⟨i0,hi,hz0,hz1,hz2⟩:=info_parts info5
 simp [Instr.slice,run_underlying Tryz.underlying38,Instr.sliceBounds,run_sliceBound,sizeOf,typeInfo,hi,hz1,hm,cutAt]

set_option maxHeartbeats 400000 in
theorem take_ok {r d : Nat} {ao : Option Addr} {cap : Nat} {bs : List UInt8} {n : Nat} {w : World} (h : Rd w r d ao cap bs n 0) (m : Nat) (hm : m≤bs.length) :
  Calls Tryz.prog 136 #[.pointer (some ⟨r,0,none⟩),.int .i64 (m : Int)] w fun e w'=>e = .returned (.slice ao m cap)∧BS w' ao (bs.take m) d∧Rd w' r d (cutAt ao cap m) (cap - m) (bs.drop m) (n + m) 0∧Only [r] w w':=by
 have H : Hid (Rd w r d ao cap bs n 0):=h
 obtain ⟨c0,c1,c2,f0,f1,f2,_,capLe,capMax,_,fit,_⟩:=h
 have k1:=slice_hi ao bs.length cap m (by omega)
 have k2:=slice_lo ao bs.length cap m hm
 have hgt : ¬ ((bs.length : Int) < (m : Int)):=by omega
 go_enter Tryz.func136,Tryz.ntmps136
 go_wp2_with (first | (go_at_call 63; refine (fine_any r 0 _ (by assumption)).mono ?_; rintro e w' ⟨rfl,rfl⟩) | (go_at_call 172; refine (move_any r n m _ (by go_simp) (by go_simp) (by omega)).mono ?_; rintro e w' ⟨rfl,hw⟩))
 go_ret
 exact ⟨rfl,H.out.taken m hm _ hw⟩

set_option maxHeartbeats 400000 in
theorem take_cut {r d : Nat} {ao : Option Addr} {cap : Nat} {bs : List UInt8} {n : Nat} {w : World} (h : Rd w r d ao cap bs n 0) (m : Nat) (hm : bs.length < m) :
  Calls Tryz.prog 136 #[.pointer (some ⟨r,0,none⟩),.int .i64 (m : Int)] w fun e w'=>e = .returned (.slice none 0 0)∧Rd w' r d ao cap bs n 11∧Only [r] w w':=by
 have H : Hid (Rd w r d ao cap bs n 0):=h
 obtain ⟨c0,c1,c2,f0,f1,f2,_,capLe,capMax,_,fit,_⟩:=h
 have hgt : ((bs.length : Int) < (m : Int)):=by omega
 go_enter Tryz.func136,Tryz.ntmps136
 go_wp2_with (first | (go_at_call 135; refine (fail_new r 11 _ (by assumption) (by assumption)).mono ?_; rintro e w' ⟨rfl,hw⟩) | (go_at_call 63; refine (fine_any r 11 _ (by rw [← hw]; exact cell_setCell_same _ _ c1)).mono ?_; rintro e w' ⟨rfl,rfl⟩))
 go_ret
 exact ⟨rfl,H.out.failed 11 _ hw⟩

set_option maxHeartbeats 400000 in
theorem take_err {r d : Nat} {ao : Option Addr} {cap : Nat} {bs : List UInt8} {n : Nat} {err : Int} {w : World} (h : Rd w r d ao cap bs n err) (he : (err == 0) = false) (m : Int) :
  Calls Tryz.prog 136 #[.pointer (some ⟨r,0,none⟩),.int .i64 m] w fun e w'=>e = .returned (.slice none 0 0)∧w = w':=by
 obtain ⟨c0,c1,c2,f0,f1,f2,_,capLe,capMax,_,fit,_⟩:=h
 by_cases hgt : ((bs.length : Int) < (m : Int))
 all_goals
  go_enter Tryz.func136,Tryz.ntmps136
  go_wp2_with (first | (go_at_call 135; refine (fail_old r 11 err _ (by assumption) (by assumption)).mono ?_; rintro e w' ⟨rfl,rfl⟩) | (go_at_call 63; refine (fine_any r err _ (by assumption)).mono ?_; rintro e w' ⟨rfl,rfl⟩))
  go_ret
  exact ⟨rfl,rfl⟩

/-- Whatever the reader: take. -/
theorem take_any {r d : Nat} {s : List UInt8 × Nat × Int} {w : World} (h : RdE w r d s) (m : Nat) :
  Calls Tryz.prog 136 #[.pointer (some ⟨r,0,none⟩),.int .i64 (m : Int)] w fun e w'=>∃ ao cap,e = .returned (.slice ao (rTake s m).1.length cap)∧BS w' ao (rTake s m).1 d∧(rTake s m).1.length≤cap∧cap≤9223372036854775807∧(ao = none→cap = 0)∧RdE w' r d (rTake s m).2∧Only [r] w w':=by
 obtain ⟨ao,cap,h⟩:=h
 obtain ⟨bs,n,err⟩:=s
 simp only at h
 by_cases he : err = 0
 ·subst he
  by_cases hm : bs.length < m
  ·have e : rTake (bs,n,0) m = ([],bs,n,11):=by simp [rTake,hm]
   rw [e]
   refine (take_cut h m hm).mono ?_
   rintro e w' ⟨rfl,hr,ho⟩
   exact ⟨none,0,rfl,BS.nil _ _ _,Nat.le_refl _,by decide,fun _=>rfl,⟨ao,cap,hr⟩,ho⟩
  ·have e : rTake (bs,n,0) m = (bs.take m,bs.drop m,n + m,0):=by simp [rTake,hm]
   rw [e]
   refine (take_ok h m (by omega)).mono ?_
   rintro e w' ⟨rfl,hb,hr,ho⟩
   have hl : (bs.take m).length = m:=by simp; omega
   have hc:=h.capLe
   exact ⟨ao,cap,by rw [hl],hb,by rw [hl]; omega,h.capMax,h.capNone,⟨_,_,hr⟩,ho⟩
 ·have e : rTake (bs,n,err) m = ([],bs,n,err):=by simp [rTake,he]
  rw [e]
  refine (take_err h (by simpa using he) _).mono ?_
  rintro e w' ⟨rfl,rfl⟩
  exact ⟨none,0,rfl,BS.nil _ _ _,Nat.le_refl _,by decide,fun _=>rfl,⟨ao,cap,h⟩,Only.refl _ _⟩

theorem take_at {r d : Nat} {s : List UInt8 × Nat × Int} {w : World} (h : RdE w r d s) (m : Nat) (mi : Int) (hmi : mi = (m : Int)) :
  Calls Tryz.prog 136 #[.pointer (some ⟨r,0,none⟩),.int .i64 mi] w fun e w'=>∃ ao cap,e = .returned (.slice ao (rTake s m).1.length cap)∧BS w' ao (rTake s m).1 d∧(rTake s m).1.length≤cap∧cap≤9223372036854775807∧(ao = none→cap = 0)∧RdE w' r d (rTake s m).2∧Only [r] w w':=by
 subst hmi
 exact take_any h m

theorem slice_lo_at (ao : Option Addr) (len cap m : Nat) (mi : Int) (hmi : mi = (m : Int)) (hm : m≤len) (w : World) :
  (Instr.slice 38 (.slice ao len cap) (some (.int .i64 mi)) none none).run Tryz.prog w = .ok (.slice (cutAt ao cap m) (len - m) (cap - m)) w:=by
 subst hmi
 exact slice_lo ao len cap m hm w


set_option maxHeartbeats 400000 in
theorem rnumber_any {r d : Nat} {s : List UInt8 × Nat × Int} {w : World} (h : RdE w r d s) (m : Nat) (h8 : m≤8) (mi : Int) (hmi : mi = (m : Int)) :
  Calls Tryz.prog 137 #[.pointer (some ⟨r,0,none⟩),.int .i64 mi] w fun e w'=>e = .returned (.int .u64 (be (rTake s m).1 : Int))∧RdE w' r d (rTake s m).2∧Only [r] w w':=by
 subst hmi
 have hl:=rTake_le s m
 have ht:=take_any h m
 generalize (rTake s m).1 = L at *
 generalize (rTake s m).2 = s' at *
 have HT:=hid ht
 clear ht
 go_enter Tryz.func137,Tryz.ntmps137
 go_wp2_with (go_at_call 136; refine HT.out.mono ?_; rintro e w' ⟨ao,cap,rfl,hbs,hcap,hcm,hcn,hrd,ho⟩)
 go_loop [5,12] (fun x i=>∃ k : Nat,k≤L.length∧i = .int .i64 k∧x = .int .u64 (be (L.take k) : Int)) (fun _ i=>L.length - (intOf i).toNat)
 case atStart=>exact ⟨0,Nat.zero_le _,rfl,rfl⟩
 case round=>
  obtain ⟨k,hk,rfl,rfl⟩:=hrel
  by_cases hlt : k < L.length
  ·rcases hbs with hbs | ⟨off,ha,hc⟩
   ·exfalso
    rw [hbs] at hlt
    simp at hlt
   ·have hck:=hc k hlt
    subst ha
    clear hc
    go_wp2
    refine ⟨⟨k + 1,by omega,by go_num,?_⟩,by simp [intOf]; omega⟩
    rw [be_take_succ L k hlt,or_shl8c _ _ (be_lt8 L k (by omega)) (L[k]).toNat_lt]
  ·go_wp2
   go_ret
   exact ⟨ret_int (by rw [List.take_of_length_le (by omega)]),hrd,ho⟩

theorem at_any {r d : Nat} {s : List UInt8 × Nat × Int} {w : World} (h : RdE w r d s) :
  Calls Tryz.prog 83 #[.pointer (some ⟨r,0,none⟩)] w fun e w'=>e = .returned (.int .i64 (s.2.1 : Int))∧w = w':=by
 obtain ⟨ao,cap,c0,c1,c2,f0,f1,f2,_,capLe,capMax,_,fit,_⟩:=h
 go_enter Tryz.func83,Tryz.ntmps83
 go_wp2
 go_ret
 exact ⟨rfl,rfl⟩

theorem err_any {r d : Nat} {s : List UInt8 × Nat × Int} {w : World} (h : RdE w r d s) :
  Calls Tryz.prog 85 #[.pointer (some ⟨r,0,none⟩)] w fun e w'=>e = .returned (.int .i64 s.2.2)∧w = w':=by
 obtain ⟨ao,cap,c0,c1,c2,f0,f1,f2,_,capLe,capMax,_,fit,_⟩:=h
 go_enter Tryz.func85,Tryz.ntmps85
 go_wp2
 go_ret
 exact ⟨rfl,rfl⟩

theorem left_any {r d : Nat} {s : List UInt8 × Nat × Int} {w : World} (h : RdE w r d s) :
  Calls Tryz.prog 82 #[.pointer (some ⟨r,0,none⟩)] w fun e w'=>e = .returned (.int .i64 (s.1.length : Int))∧w = w':=by
 obtain ⟨ao,cap,c0,c1,c2,f0,f1,f2,_,capLe,capMax,_,fit,_⟩:=h
 go_enter Tryz.func82,Tryz.ntmps82
 go_wp2
 go_ret
 exact ⟨rfl,rfl⟩

theorem u1_any {r d : Nat} {s : List UInt8 × Nat × Int} {w : World} (h : RdE w r d s) :
  Calls Tryz.prog 80 #[.pointer (some ⟨r,0,none⟩)] w fun e w'=>e = .returned (.int .i64 (be (rTake s 1).1 : Int))∧RdE w' r d (rTake s 1).2∧Only [r] w w':=by
 have hb : be (rTake s 1).1 < 256 ^ 1:=be_lt_of _ 1 (rTake_le s 1)
 have ht:=rnumber_any h 1 (by decide) 1 rfl
 generalize be (rTake s 1).1 = L at *
 generalize (rTake s 1).2 = s' at *
 have HT:=hid ht
 clear ht
 go_enter Tryz.func80,Tryz.ntmps80
 go_wp2_with (go_at_call 137; refine HT.out.mono ?_; rintro e w' ⟨rfl,hrd,ho⟩)
 go_ret
 exact ⟨rfl,hrd,ho⟩

theorem u2_any {r d : Nat} {s : List UInt8 × Nat × Int} {w : World} (h : RdE w r d s) :
  Calls Tryz.prog 77 #[.pointer (some ⟨r,0,none⟩)] w fun e w'=>e = .returned (.int .i64 (be (rTake s 2).1 : Int))∧RdE w' r d (rTake s 2).2∧Only [r] w w':=by
 have hb : be (rTake s 2).1 < 256 ^ 2:=be_lt_of _ 2 (rTake_le s 2)
 have ht:=rnumber_any h 2 (by decide) 2 rfl
 generalize be (rTake s 2).1 = L at *
 generalize (rTake s 2).2 = s' at *
 have HT:=hid ht
 clear ht
 go_enter Tryz.func77,Tryz.ntmps77
 go_wp2_with (go_at_call 137; refine HT.out.mono ?_; rintro e w' ⟨rfl,hrd,ho⟩)
 go_ret
 exact ⟨rfl,hrd,ho⟩

theorem n8_any {r d : Nat} {s : List UInt8 × Nat × Int} {w : World} (h : RdE w r d s) :
  Calls Tryz.prog 139 #[.pointer (some ⟨r,0,none⟩)] w fun e w'=>e = .returned (.int .i64 (wrap64 (be (rTake s 8).1 : Int)))∧RdE w' r d (rTake s 8).2∧Only [r] w w':=by
 have ht:=rnumber_any h 8 (by decide) 8 rfl
 generalize be (rTake s 8).1 = L at *
 generalize (rTake s 8).2 = s' at *
 have HT:=hid ht
 clear ht
 go_enter Tryz.func139,Tryz.ntmps139
 go_wp2_with (go_at_call 137; refine HT.out.mono ?_; rintro e w' ⟨rfl,hrd,ho⟩)
 go_ret
 exact ⟨rfl,hrd,ho⟩


theorem BS.cells {w : World} {a : Addr} {bs : List UInt8} {d : Nat} (h : BS w (some a) bs d) : ∀ j u,(bcs bs)[j]? = some u→w.cell? (a.add j) = some u:=by
 intro j u hu
 have hj : j < bs.length:=by
  have:=(List.getElem?_eq_some_iff.1 hu).1
  simpa [bcs] using this
 rcases h with h | ⟨off,ha,hc⟩
 ·rw [h] at hj; simp at hj
 ·cases ha
  rw [Addr.add_lit,hc j hj]
  simp [bcs,hj] at hu
  rw [hu]

theorem BS.none_nil {w : World} {bs : List UInt8} {d : Nat} (h : BS w none bs d) : bs = []:=by
 rcases h with h | ⟨off,ha,_⟩
 ·exact h
 ·cases ha

theorem ownb_mono {w : World} {B C : Nat} {e : TypeId} {size n : Nat} {v : Value} {xs : List Value} (h : w.ownsRow B e size v n xs) (hC : C≤B) : w.ownsRow C e size v n xs:=by
 refine ⟨h.1,?_⟩
 rcases h.2 with q | ⟨g,cap,cur,q1,q2,q3⟩
 ·exact .inl q
 ·exact .inr ⟨g,cap,cur,q1,by omega,q3⟩

/-- How much room an append asks for that grows. -/
theorem grow_leC (need : Nat) : ∀ (k old : Nat),old≤need + need / 4 + 192→Builtin.growBy need k old≤need + need / 4 + 192:=by
 intro k
 induction k with
 | zero=>
  intro old h
  exact h
 | succ k ih=>
  intro old h
  simp only [Builtin.growBy]
  split
  ·exact h
  ·exact ih _ (by omega)

theorem cap_fitsC {need old : Nat} (h : old < need) (hn : need≤211106232532992) : Builtin.nextslicecap need old * 1≤281474976710656:=by
 have:=grow_leC need 4 old (by omega)
 unfold Builtin.nextslicecap
 split
 ·omega
 ·split
  ·omega
  ·omega

/-- A new row that an append has made. -/
theorem own_freshC (w : World) (xs : List Value) (n cap : Nat) (hx : xs.length = n) (hc : n≤cap) (hm : cap≤maxLen) :
  (w.drew.alloc (.cells (xs.toArray ++ Builtin.zeroCells (Value.int .u8 0).cells (cap - n)) 5)).ownsRow w.heap.size 5 1 (.slice (some ⟨w.heap.size,0,none⟩) n cap) n xs ∧
  w.grownBy (w.drew.alloc (.cells (xs.toArray ++ Builtin.zeroCells (Value.int .u8 0).cells (cap - n)) 5)) none:=by
 refine ⟨⟨by omega,.inr ⟨w.heap.size,cap,_,rfl,Nat.le_refl _,Go.heap_alloc_new w.drew _,hc,hm,?_,?_⟩⟩,⟨rfl,rfl,rfl,by simp,fun k hk _=>Below.heap_alloc w.drew _ k hk⟩⟩
 ·rw [Array.size_append,size_zeroCells]
  have : (Value.int .u8 0).cells.size = 1:=rfl
  rw [this]
  simp
  omega
 ·simp only [Array.toList_append]
  rw [Nat.mul_one,← hx]
  exact List.take_left

/-- append(out, l...), out the call's own. -/
theorem append_runC {w : World} {B : Nat} {ao lao : Option Addr} {n cap lcap d : Nat} {xs : List Value} {ls : List UInt8} (ty : TypeId) (hown : w.ownsRow B 5 1 (.slice ao n cap) n xs) (hb : BS w lao ls d) (hl : lao = none→lcap = 0)
  (hsz : n + ls.length≤211106232532992) (hB : B≤w.heap.size) :
  ∃ ao' cap' w',(Builtin.append_ #[38,38] ty #[.slice ao n cap,.slice lao ls.length lcap]).run Tryz.prog w = .ok (.slice ao' (n + ls.length) cap') w'∧w'.ownsRow B 5 1 (.slice ao' (n + ls.length) cap') (n + ls.length) (xs ++ bcs ls) ∧
   w.grownBy w' (Value.ownBlock (.slice ao n cap))∧(∀ a,ao' = some a→(∃ a',ao = some a'∧a'.block = a.block)∨w.heap.size≤a.block)∧(ao' = none→ao = none):=by
 obtain ⟨i0,hi,hz0,hz1,hz2⟩:=info_parts info5
 have hmax : n + ls.length≤maxLen:=by unfold maxLen; omega
 cases lao with
 | none=>
  have:=hb.none_nil
  subst this
  have:=hl rfl
  subst this
  refine ⟨ao,cap,w,?_,by simpa [bcs] using hown,⟨rfl,rfl,rfl,Nat.le_refl _,fun _ _ _=>rfl⟩,fun a ha=>.inl ⟨a,ha,rfl⟩,fun h=>h⟩
  exact run_append_owned_none (P:=Tryz.prog) (w:=w) B 38 ty 5 i0 1 Tryz.underlying38 hi _ n xs hown
 | some a=>
  have hlen : (bcs ls).length = ls.length * 1:=by rw [bcs_len]; omega
  rcases hown.2 with ⟨hv,h0⟩ | ⟨g,cap',cur,hv,hbg,hg,hnc,hcm,hcs,htake⟩
  ·simp at hv
   obtain ⟨rfl,hn,rfl⟩:=hv
   subst hn
   have hx : xs = []:=List.eq_nil_of_length_eq_zero (by simpa using hown.1)
   by_cases hm : ls.length = 0
   ·obtain ⟨v',w',hr,ho,hgr,hiff⟩:=run_append_own (P:=Tryz.prog) w B 38 ty 5 i0 (.int .u8 0) 1 1 Tryz.underlying38 hi hz0 hz1 hz2 rfl (by decide) _ _ _ hown a ls.length lcap (bcs ls) hlen hb.cells (bcs_one ls) hmax (by omega) hB
    have:=hiff.2 ⟨rfl,hm⟩
    subst this
    have e2 : 0 + ls.length = 0:=by omega
    refine ⟨none,0,w',?_,?_,hgr,?_,fun _=>rfl⟩
    ·rw [e2]; exact hr
    ·rw [e2] at ho ⊢; exact ho
    ·intro a ha
     cases ha
   ·have hr:=run_append_nil (P:=Tryz.prog) w 38 ty 5 i0 (.int .u8 0) Tryz.underlying38 hi hz0 a ls.length lcap (bcs ls) (by rw [hz1]; exact hlen) hb.cells (by omega) (by omega) (by rw [hz2]; omega)
    obtain ⟨q1,q2⟩:=own_freshC w (bcs ls) ls.length (grownCap w ls.length 0 5) (bcs_len ls) (grownCap_ge _ _ _ _) (grownCap_le_maxLen _ _ _ _ (by omega))
    rw [Nat.zero_add,hx,List.nil_append]
    exact ⟨_,_,_,hr,ownb_mono q1 hB,⟨q2.os,q2.tape,q2.output,q2.size,fun k hk _=>q2.block k hk (by simp)⟩,fun b hb'=>.inr (by simp at hb'; rw [← hb']; exact Nat.le_refl _),fun h=>by cases h⟩
  ·simp at hv
   obtain ⟨rfl,rfl⟩:=hv
   by_cases hroom : n + ls.length≤cap
   ·obtain ⟨w',hr,ho,hgr⟩:=run_append_fits (P:=Tryz.prog) w B 38 ty 5 i0 1 Tryz.underlying38 hi hz1 g n cap xs hown a ls.length lcap (bcs ls) hlen hb.cells (bcs_one ls) hroom
    exact ⟨some ⟨g,0,none⟩,cap,w',hr,ho,hgr,fun a ha=>.inl ⟨_,rfl,by simp at ha; rw [← ha]⟩,fun h=>by cases h⟩
   ·have hr:=run_append_grow (P:=Tryz.prog) w 38 ty 5 i0 (.int .u8 0) Tryz.underlying38 hi hz0 ⟨g,0,none⟩ n cap xs (by rw [hz1]; exact hown.1) (hown.cells (g:=g) rfl) a ls.length lcap (bcs ls) (by rw [hz1]; exact hlen) hb.cells (by omega) (by omega) (by rw [hz2]; exact cap_fitsC (by omega) hsz)
    have hxl : xs.length = n:=by have:=hown.1; omega
    obtain ⟨q1,q2⟩:=own_freshC w (xs ++ bcs ls) (n + ls.length) (grownCap w (n + ls.length) cap 5) (by rw [List.length_append,bcs_len,hxl]) (grownCap_ge _ _ _ _) (grownCap_le_maxLen _ _ _ _ hmax)
    have e : (xs ++ bcs ls).toArray = xs.toArray ++ (bcs ls).toArray:=by simp
    rw [e] at q1 q2
    exact ⟨_,_,_,hr,ownb_mono q1 hB,⟨q2.os,q2.tape,q2.output,q2.size,fun k hk _=>q2.block k hk (by simp)⟩,fun b hb'=>.inr (by simp at hb'; rw [← hb']; exact Nat.le_refl _),fun h=>by cases h⟩

/-- The same, for the walk. -/
theorem wpList_append_bytes {w : World} {ops : Array Oper} {rest : List Oper} {o : Oper} {a : Act} {Q : Exit→Act→World→Prop} (hgd : o.guard = none) (s x : Operand)
  (ho : o.op = .call { callee:=.builtin .append,args:=#[s,x],argTypes:=#[38,38] })
  {B : Nat} {ao lao : Option Addr} {n cap lcap d : Nat} {xs : List Value} {ls : List UInt8} (hs : a.eval s = .slice ao n cap) (hx : a.eval x = .slice lao ls.length lcap) (hown : w.ownsRow B 5 1 (.slice ao n cap) n xs) (hb : BS w lao ls d) (hl : lao = none→lcap = 0)
  (hsz : n + ls.length≤211106232532992) (hB : B≤w.heap.size)
  (h : ∀ ao' cap' w',w'.ownsRow B 5 1 (.slice ao' (n + ls.length) cap') (n + ls.length) (xs ++ bcs ls)→w.grownBy w' (Value.ownBlock (.slice ao n cap))→(∀ a,ao' = some a→(∃ a',ao = some a'∧a'.block = a.block)∨w.heap.size≤a.block)→(ao' = none→ao = none) →
   wpList Tryz.prog ops Q rest (a.put o.dst (.slice ao' (n + ls.length) cap')) w') : wpList Tryz.prog ops Q (o :: rest) a w:=by
 refine wpList_plain hgd fun K hK=>?_
 obtain ⟨ao',cap',w',hr,h1,h2,h3,h4⟩:=append_runC o.type hown hb hl hsz hB
 unfold Oper.wp execOp
 simp only [ho,resolve,invoke,builtin,Sem.run_bind,Sem.run_pure,Result.andThen_ok,List.map_toArray,List.map_cons,List.map_nil,hs,hx,hr]
 exact hK _ _ (h ao' cap' w' h1 h2 h3 h4)


/-- What the call owns is a slice of bytes that is read. -/
theorem BS.of_owns {w : World} {B : Nat} {ao : Option Addr} {cap : Nat} {bs : List UInt8} (h : w.ownsRow B 5 1 (.slice ao bs.length cap) bs.length (bcs bs)) :
  BS w ao bs ((ao.map (·.block)).getD 0)∧bs.length≤cap∧cap≤maxLen∧(ao = none→cap = 0)∧(∀ a,ao = some a→B≤a.block∧a.block < w.heap.size∧a = ⟨a.block,0,none⟩):=by
 have hl:=h.lt
 rcases h.2 with ⟨hv,h0⟩ | ⟨g,cap',cur,hv,hb,hg,hn,hm,hs,ht⟩
 ·have : bs = []:=List.eq_nil_of_length_eq_zero h0
  subst this
  simp at hv
  obtain ⟨rfl,rfl⟩:=hv
  exact ⟨BS.nil _ _ _,Nat.le_refl _,by decide,fun _=>rfl,fun a ha=>by cases ha⟩
 ·simp at hv
  obtain ⟨rfl,rfl⟩:=hv
  refine ⟨.inr ⟨0,rfl,fun j hj=>?_⟩,hn,hm,(fun e=>by cases e),fun a ha=>?_⟩
  ·have:=h.cellAt j (by omega)
   rw [show (0 + j) = j by omega]
   simp [bcs,hj] at this
   simpa using this
  ·simp at ha
   subst ha
   exact ⟨hb,(Array.getElem?_eq_some_iff.1 hg).1,rfl⟩

theorem eql_nil (ao : Option Addr) (n c : Nat) (w : World) : (binOp .eql 38 (.slice ao n c) (.slice none 0 0)).run Tryz.prog w = .ok (.bool ao.isNone) w:=Lib.run_eql_slice_nil w 38 5 ao n c 0 0 Tryz.underlying38

set_option maxHeartbeats 400000 in
theorem clone_any {w : World} {ao : Option Addr} {bs : List UInt8} {cap d : Nat} (hb : BS w ao bs d) (hn : ao = none→cap = 0) (hsz : bs.length≤211106232532992) :
  Calls Tryz.prog 64 #[.slice ao bs.length cap] w fun e w'=>∃ ao' cap',e = .returned (.slice ao' bs.length cap')∧w'.ownsRow w.heap.size 5 1 (.slice ao' bs.length cap') bs.length (bcs bs)∧Only [] w w':=by
 cases ao with
 | none=>
  have:=hb.none_nil
  subst this
  have:=hn rfl
  subst this
  have k0:=eql_nil none 0 0
  go_enter Tryz.func64,Tryz.ntmps64
  go_wp2
  go_ret
  exact ⟨none,0,rfl,World.ownsRow_nil _ _ _ _,Only.refl _ _⟩
 | some a=>
  have k0:=eql_nil (some a) bs.length cap
  go_enter Tryz.func64,Tryz.ntmps64
  go_wp2_with (at_builtin; refine wpList_append_bytes rfl (.tmp 5) (.tmp 6) rfl rfl rfl (World.ownsRow_made w #[] 0 (Nat.le_refl _) (by decide) rfl) (hb.only ((Only.refl [] w).alloc _) (by simp)) (by simp) (by omega) (by simp) ?_)
  intro ao' cap' w' hown hgrow _ _
  go_wp2
  go_ret
  exact ⟨ao',cap',rfl,hown,((Only.refl [] w).alloc _).trans (Only.of_grown hgrow) (by simp [Value.ownBlock])⟩

theorem ownb_only {w w' : World} {B : Nat} {S : List Nat} {e : TypeId} {size n : Nat} {v : Value} {xs : List Value} (h : w.ownsRow B e size v n xs) (ho : Only S w w') (hn : ∀ k,v.ownBlock = some k→k ∉ S) : w'.ownsRow B e size v n xs:=by
 refine ⟨h.1,?_⟩
 rcases h.2 with q | ⟨g,cap,cur,q1,q2,q3,q4⟩
 ·exact .inl q
 ·subst q1
  exact .inr ⟨g,cap,cur,rfl,q2,by rw [ho.block g (Array.getElem?_eq_some_iff.1 q3).1 (hn g rfl)]; exact q3,q4⟩

/-- The block of a slice's bytes; r, if it has none. -/
def dataOf (ao : Option Addr) (r : Nat) : Nat:=match ao with | none=>r | some a=>a.block

theorem dataOf_le {w : World} {B C r : Nat} {ao : Option Addr} {cap n : Nat} {xs : List Value} (h : w.ownsRow B 5 1 (.slice ao n cap) n xs) (hC : C≤B) (hr : C≤r) : C≤dataOf ao r:=by
 unfold dataOf
 split
 ·exact hr
 ·rename_i a
  have:=(h.lt a.block rfl).1
  omega

theorem dataOf_lt {w : World} {B : Nat} {ao : Option Addr} {cap n : Nat} {xs : List Value} (h : w.ownsRow B 5 1 (.slice ao n cap) n xs) (o : Obj) : dataOf ao w.heap.size < (w.alloc o).heap.size:=by
 unfold dataOf
 split
 ·simp
 ·rename_i a
  have:=(h.lt a.block rfl).2
  simp
  omega

theorem rd_new {w : World} {B : Nat} {ao : Option Addr} {cap : Nat} {bs : List UInt8} (h : w.ownsRow B 5 1 (.slice ao bs.length cap) bs.length (bcs bs)) (hl : bs.length≤9223372036854775807) :
  RdE (w.alloc (.cells #[.int .i64 0,.int .i64 0,.slice ao bs.length cap] 140)) w.heap.size (dataOf ao w.heap.size) (bs,0,0):=by
 obtain ⟨hb,hc,hm,hn,ha⟩:=BS.of_owns h
 refine ⟨ao,cap,{ c0:=?_,c1:=?_,c2:=?_,f0:=frozen_new _ _ _ _,f1:=frozen_new _ _ _ _,f2:=frozen_new _ _ _ _,data:=?_,capLe:=hc,capMax:=hm,capNone:=hn,fit:=by simpa using hl,ne:=?_ }⟩
 ·rw [cell_new]; rfl
 ·rw [cell_new]; rfl
 ·rw [cell_new]; rfl
 ·cases ao with
  | none=>exact .inl hb.none_nil
  | some a=>
   have hb':=hb.only ((Only.refl [] w).alloc (.cells #[.int .i64 0,.int .i64 0,.slice (some a) bs.length cap] 140)) (by simp)
   exact hb'
 ·intro hne
  cases ao with
  | none=>exact absurd hb.none_nil hne
  | some a=>
   have:=(ha a rfl).2.1
   simp [dataOf]
   omega

set_option maxHeartbeats 400000 in
theorem newReader_any {w : World} {ao : Option Addr} {bs : List UInt8} {cap d : Nat} (hb : BS w ao bs d) (hn : ao = none→cap = 0) (hsz : bs.length≤211106232532992) :
  Calls Tryz.prog 31 #[.slice ao bs.length cap] w fun e w'=>∃ r d',e = .returned (.pointer (some ⟨r,0,none⟩))∧RdE w' r d' (bs,0,0)∧Only [] w w'∧w.heap.size≤r∧w.heap.size≤d'∧d' < w'.heap.size:=by
 go_enter Tryz.func31,Tryz.ntmps31
 go_wp2_with (go_at_call 64; refine (clone_any hb hn hsz).mono ?_; rintro e w' ⟨ao',cap',rfl,hown,ho⟩)
 go_ret
 refine ⟨w'.heap.size,dataOf ao' w'.heap.size,rfl,rd_new hown (by omega),ho.alloc _,ho.size,?_,?_⟩
 ·exact (dataOf_le hown (by omega) ho.size)
 ·exact dataOf_lt hown _ 


/-- What Bytes(n) does to a reader. -/
def rBytes (s : List UInt8 × Nat × Int) (n : Int) : List UInt8 × (List UInt8 × Nat × Int):=
 if n < 0 then ([],s.1,s.2.1,if s.2.2 = 0 then 1 else s.2.2) else rTake s n.toNat

theorem rTake_fst_le (s : List UInt8 × Nat × Int) (m : Nat) : (rTake s m).1.length≤s.1.length:=by
 unfold rTake
 split
 ·split <;> simp; omega
 ·simp

set_option maxHeartbeats 400000 in
theorem bytes_any {r d : Nat} {s : List UInt8 × Nat × Int} {w : World} (h : RdE w r d s) (n : Int) (hsz : s.1.length≤211106232532992) :
  Calls Tryz.prog 74 #[.pointer (some ⟨r,0,none⟩),.int .i64 n] w fun e w'=>∃ ao cap,e = .returned (.slice ao (rBytes s n).1.length cap)∧w'.ownsRow w.heap.size 5 1 (.slice ao (rBytes s n).1.length cap) (rBytes s n).1.length (bcs (rBytes s n).1)∧RdE w' r d (rBytes s n).2∧Only [r] w w':=by
 by_cases hn : n < 0
 ·have e : rBytes s n = ([],s.1,s.2.1,if s.2.2 = 0 then 1 else s.2.2):=by simp [rBytes,hn]
  rw [e]
  obtain ⟨ao,cap,h⟩:=h
  have H:=hid h
  obtain ⟨c0,c1,c2,f0,f1,f2,_,capLe,capMax,_,fit,_⟩:=h
  by_cases he : s.2.2 = 0
  ·rw [if_pos he]
   rw [he] at c1
   clear he
   go_enter Tryz.func74,Tryz.ntmps74
   go_wp2_with (go_at_call 135; refine (fail_new r 1 _ (by assumption) (by assumption)).mono ?_; rintro e w' ⟨rfl,hw⟩)
   go_ret
   obtain ⟨q1,q2⟩:=H.out.failed 1 _ hw
   exact ⟨none,0,rfl,World.ownsRow_nil _ _ _ _,⟨ao,cap,q1⟩,q2⟩
  ·rw [if_neg he]
   have he' : (s.2.2 == 0) = false:=by simpa using he
   clear he
   go_enter Tryz.func74,Tryz.ntmps74
   go_wp2_with (go_at_call 135; refine (fail_old r 1 s.2.2 _ (by assumption) (by assumption)).mono ?_; rintro e w' ⟨rfl,rfl⟩)
   go_ret
   exact ⟨none,0,rfl,World.ownsRow_nil _ _ _ _,⟨ao,cap,H.out⟩,Only.refl _ _⟩
 ·obtain ⟨m,rfl⟩:=Int.eq_ofNat_of_zero_le (by omega : 0≤n)
  have e : rBytes s (m : Int) = rTake s m:=by simp [rBytes,hn]
  rw [e]
  have hl:=rTake_fst_le s m
  have ht:=take_any h m
  generalize (rTake s m).1 = L at *
  generalize (rTake s m).2 = s' at *
  clear e
  have HT:=hid ht
  clear ht
  go_enter Tryz.func74,Tryz.ntmps74
  go_wp2_with (first | (go_at_call 136; refine HT.out.mono ?_; rintro e w' ⟨ao,cap,rfl,hbs,hcap,hcm,hcn,hrd,ho⟩) | (go_at_call 64; refine (clone_any hbs hcn (by omega)).mono ?_; rintro e w'' ⟨ao',cap',rfl,hown,ho'⟩))
  go_ret
  exact ⟨ao',cap',rfl,ownb_mono hown ho.size,hrd.only ho' (by simp) (by simp),ho.trans ho' (by simp)⟩

end Go.Proofs.YtildemmkhndhjaaGreatDoor
namespace Go.Proofs.YtildemmkhndhjaaGreatDoor
open Go.ChangeShapes Go.WideShapes Go.ChangeAt Go.RowKit

theorem own : ownKnob Tryz.prog.godebug = none:=by kernel_rfl
theorem laidOut : laidOutB Tryz.prog = true:=by kernel_rfl
theorem g_et : Tryz.prog.globalNamed "errors.errorType" = some 0 := by kernel_rfl
theorem g_rt : (Tryz.prog.cutTypes.find? (·.1 == "internal/reflectlite.rtype")).map (·.2) = some 172 := by kernel_rfl
theorem g_one : ((List.range 364).filter fun t=>Tryz.prog.rowNamed t [101,114,114,111,114]) = [48]:=by kernel_rfl
theorem g_size : Tryz.prog.types.size = 364:=by kernel_rfl

/-- What the condition gives a walk: the variable's one cell. -/
theorem ety_of {W : World} (h : laidMetH Tryz.prog [("errors.errorType", Rows.laid_errors_errorType)] W) : Ety W := by
 have h' : laidMet Tryz.prog [] W ∧ handlesMet Tryz.prog [("errors.errorType", Rows.laid_errors_errorType)] W := h
 obtain ⟨name,u,ty,e1,e2,e3,e4,e5⟩:=h'.2 _ (List.mem_singleton.2 rfl)
 have en : name = [101,114,114,111,114]:=(Option.some.inj e1).symm
 subst en
 obtain rfl:=Option.some.inj (g_rt.symm.trans e2)
 have hm : ty∈(List.range 364).filter fun t=>Tryz.prog.rowNamed t [101,114,114,111,114]:=List.mem_filter.2 ⟨List.mem_range.2 (by rw [← g_size]; exact e3),e4⟩
 rw [g_one] at hm
 obtain rfl:=List.mem_singleton.1 hm
 have hh : typeHandle Tryz.prog 48 = .pointer (some ⟨5,48,none⟩):=by kernel_rfl
 rw [hh] at e5
 unfold Ety
 simpa using World.var?_cell g_et e5 0

end Go.Proofs.YtildemmkhndhjaaGreatDoor
namespace Go.Proofs.YtildemmkhndhjaaGreatDoor
open Go.RowKit

theorem conv_str {w : World} {ao : Option Addr} {bs : List UInt8} {d : Nat} (h : BS w ao bs d) (cap : Nat) :
  (convert 38 9 (.slice ao bs.length cap)).run Tryz.prog w = .ok (.string (str bs)) w:=by
 rcases h with rfl | ⟨off,rfl,hc⟩
 ·rw [run_convert_bytes_string w 38 9 5 _ _ cap Tryz.underlying38 Tryz.underlying5 Tryz.underlying9]
  cases ao <;> simp [Conv.bytesToString,loadCells] <;> rfl
 ·exact run_convert_bytes_back w 38 9 5 ⟨d,off,none⟩ cap bs Tryz.underlying38 Tryz.underlying5 Tryz.underlying9 (fun j hj=>by rw [Addr.add_lit]; exact hc j hj)

theorem conv_cut {w : World} {ao : Option Addr} {cap : Nat} {bs : List UInt8} {d : Nat} (h : BS w ao bs d) (hc : bs.length≤cap) (n : Nat) :
  (convert 38 9 (.slice (cutAt ao cap n) (bs.length - n) (cap - n))).run Tryz.prog w = .ok (.string (str (bs.drop n))) w:=by
 have:=conv_str (h.drop n cap hc) (cap - n)
 rwa [List.length_drop] at this

/-- What Text() does to a reader. -/
def textLen (l : List UInt8) : Nat:=match l with | []=>1 | b :: _=>1 + b.toNat
def rText (s : List UInt8 × Nat × Int) : List UInt8 × (List UInt8 × Nat × Int):=((rTake s (textLen s.1)).1.tail,(rTake s (textLen s.1)).2)

set_option maxHeartbeats 800000 in
theorem text_any {r d : Nat} {s : List UInt8 × Nat × Int} {w : World} (h : RdE w r d s) :
  Calls Tryz.prog 138 #[.pointer (some ⟨r,0,none⟩)] w fun e w'=>e = .returned (.string (str (rText s).1))∧RdE w' r d (rText s).2∧Only [r] w w':=by
 have ht:=take_at h (textLen s.1)
 unfold rText
 obtain ⟨ao,cap,h⟩:=h
 obtain ⟨c0,c1,c2,f0,f1,f2,data,capLe,capMax,_,fit,_⟩:=h
 have hm : (s.1 = []∧textLen s.1 = 1)∨∃ b l,s.1 = b :: l∧textLen s.1 = 1 + b.toNat:=by
  cases hs : s.1 with
  | nil=>exact .inl ⟨rfl,rfl⟩
  | cons b l=>exact .inr ⟨b,l,rfl,rfl⟩
 generalize (rTake s (textLen s.1)).1 = L at *
 generalize (rTake s (textLen s.1)).2 = s' at *
 generalize textLen s.1 = m at *
 generalize s.1 = bs at *
 have HT:=hid ht
 clear ht
 by_cases hL : L.length = 0
 ·have hL' : ((L.length : Int) == 0) = true:=by simp [hL]
  have hnil : L = []:=List.eq_nil_of_length_eq_zero hL
  subst hnil
  clear hL hL'
  rcases hm with ⟨rfl,rfl⟩ | ⟨b,l,rfl,rfl⟩
  ·go_enter Tryz.func138,Tryz.ntmps138
   go_wp2_with (go_at_call 136; refine (HT.out _ (by simp)).mono ?_; rintro e w' ⟨ao',cap',rfl,hbs,hcap,hcm,hcn,hrd,ho⟩)
   go_ret
   exact ⟨rfl,hrd,ho⟩
  ·rcases data with data | ⟨off,rfl,hc⟩
   ·cases data
   have hc0:=hc 0 (by simp)
   simp only [Nat.add_zero,List.getElem_cons_zero] at hc0
   clear hc
   have hb:=b.toNat_lt
   go_enter Tryz.func138,Tryz.ntmps138
   go_wp2_with (go_at_call 136; refine (HT.out _ (by simp)).mono ?_; rintro e w' ⟨ao',cap',rfl,hbs,hcap,hcm,hcn,hrd,ho⟩)
   go_ret
   exact ⟨rfl,hrd,ho⟩
 ·have hL' : ((L.length : Int) == 0) = false:=by simpa using hL
  rcases hm with ⟨rfl,rfl⟩ | ⟨b,l,rfl,rfl⟩
  ·go_enter Tryz.func138,Tryz.ntmps138
   go_wp2_with (first | (go_at_call 136; refine (HT.out _ (by simp)).mono ?_; rintro e w' ⟨ao',cap',rfl,hbs,hcap,hcm,hcn,hrd,ho⟩; have k2:=slice_lo_at ao' L.length cap' 1 1 rfl (by omega); have k3:=conv_cut hbs hcap 1))
   go_ret
   exact ⟨rfl,hrd,ho⟩
  ·rcases data with data | ⟨off,rfl,hc⟩
   ·cases data
   have hc0:=hc 0 (by simp)
   simp only [Nat.add_zero,List.getElem_cons_zero] at hc0
   clear hc
   have hb:=b.toNat_lt
   go_enter Tryz.func138,Tryz.ntmps138
   go_wp2_with (first | (go_at_call 136; refine (HT.out _ (by simp)).mono ?_; rintro e w' ⟨ao',cap',rfl,hbs,hcap,hcm,hcn,hrd,ho⟩; have k2:=slice_lo_at ao' L.length cap' 1 1 rfl (by omega); have k3:=conv_cut hbs hcap 1))
   go_ret
   exact ⟨rfl,hrd,ho⟩


/-- A writer in block p: what was written, its error; its bytes lie in a block of its own, not below B. -/
structure Wr (w : World) (B p : Nat) (ao : Option Addr) (cap : Nat) (out : List UInt8) (err : Int) : Prop where
  c0 : w.cell? ⟨p,0,none⟩ = some (.int .i64 (out.length : Int))
  c1 : w.cell? ⟨p,1,none⟩ = some (.int .i64 err)
  c2 : w.cell? ⟨p,2,none⟩ = some (.slice ao out.length cap)
  f0 : w.frozen? ⟨p,0,none⟩ = false
  f1 : w.frozen? ⟨p,1,none⟩ = false
  f2 : w.frozen? ⟨p,2,none⟩ = false
  own : w.ownsRow B 5 1 (.slice ao out.length cap) out.length (bcs out)
  ne : ∀ a,ao = some a→a.block≠p
  ge : B≤p

/-- A writer, its bytes in block g (p, if it has none). -/
def WrE (w : World) (B p g : Nat) (s : List UInt8 × Int) : Prop:=∃ ao cap,Wr w B p ao cap s.1 s.2∧dataOf ao p = g

theorem Wr.lt {w : World} {B p : Nat} {ao : Option Addr} {cap : Nat} {out : List UInt8} {err : Int} (h : Wr w B p ao cap out err) : p < w.heap.size:=World.block_lt_of_cell? w _ h.c0

theorem WrE.lt {w : World} {B p g : Nat} {s : List UInt8 × Int} (h : WrE w B p g s) : p < w.heap.size∧g < w.heap.size∧B≤p∧B≤g:=by
  obtain ⟨ao,cap,h,rfl⟩:=h
  have hp:=h.lt
  refine ⟨hp,?_,h.ge,?_⟩
  · cases ao with
    | none=>exact hp
    | some a=>exact (h.own.lt a.block rfl).2
  · cases ao with
    | none=>exact h.ge
    | some a=>exact (h.own.lt a.block rfl).1

theorem WrE.only {w w' : World} {S : List Nat} {B p g : Nat} {s : List UInt8 × Int} (h : WrE w B p g s) (ho : Only S w w') (hp : p ∉ S) (hg : g ∉ S) : WrE w' B p g s:=by
  obtain ⟨ao,cap,h,rfl⟩:=h
  have hl:=h.lt
  refine ⟨ao,cap,{ c0:=(ho.cell (p:=⟨p,0,none⟩) hl hp).trans h.c0,c1:=(ho.cell (p:=⟨p,1,none⟩) hl hp).trans h.c1,c2:=(ho.cell (p:=⟨p,2,none⟩) hl hp).trans h.c2,
                     f0:=(ho.frozen (p:=⟨p,0,none⟩) hl hp).trans h.f0,f1:=(ho.frozen (p:=⟨p,1,none⟩) hl hp).trans h.f1,f2:=(ho.frozen (p:=⟨p,2,none⟩) hl hp).trans h.f2,
                     own:=ownb_only h.own ho (fun k hk=>?_),ne:=h.ne,ge:=h.ge },rfl⟩
  cases ao with
  | none=>simp [Value.ownBlock] at hk
  | some a=>
    simp [Value.ownBlock] at hk
    subst hk
    exact hg

/-- From w on to w' a writer came to be s'; nothing else has turned. -/
def WTo (w : World) (B p g : Nat) (w' : World) (s' : List UInt8 × Int) : Prop:=∃ g',WrE w' B p g' s'∧(g' = g∨w.heap.size≤g')∧Only [p,g] w w'

theorem WTo.refl {w : World} {B p g : Nat} {s : List UInt8 × Int} (h : WrE w B p g s) : WTo w B p g w s:=⟨g,h,.inl rfl,Only.refl _ _⟩

theorem wto_trans {w w1 w2 : World} {B p g g1 : Nat} {s2 : List UInt8 × Int} (ho : Only [p,g] w w1) (hg : g1 = g∨w.heap.size≤g1) (h : WTo w1 B p g1 w2 s2) : WTo w B p g w2 s2:=by
  obtain ⟨g2,h2,h3,h4⟩:=h
  refine ⟨g2,h2,?_,ho.trans h4 (fun x hx=>?_)⟩
  · have:=ho.size
    omega
  · simp at hx ⊢
    omega

/-- What put does. -/
def wPut (s : List UInt8 × Int) (l : List UInt8) : List UInt8 × Int:=if s.2 = 0 then (s.1 ++ l,0) else s

/-- What a writer is when l was appended: v', w1 behind the append. -/
theorem Wr.appended {w w1 : World} {B p : Nat} {ao ao' : Option Addr} {cap cap' : Nat} {out l : List UInt8} (h : Wr w B p ao cap out 0) (hown : w1.ownsRow B 5 1 (.slice ao' (out.length + l.length) cap') (out.length + l.length) (bcs out ++ bcs l))
    (hg : w.grownBy w1 (Value.ownBlock (.slice ao out.length cap))) (hao : ∀ a,ao' = some a→(∃ a',ao = some a'∧a'.block = a.block)∨w.heap.size≤a.block) (hnn : ao' = none→ao = none) (w' : World)
    (hw : (w1.setCell ⟨p,2,none⟩ (.slice ao' (out.length + l.length) cap')).setCell ⟨p,0,none⟩ (.int .i64 ((out.length + l.length : Nat) : Int)) = w') :
    WTo w B p (dataOf ao p) w' (out ++ l,0):=by
  have hl:=h.lt
  have o1 : Only [dataOf ao p] w w1:=(Only.of_grown hg).mono (fun x hx=>by
    cases ao with
    | none=>simp [Value.ownBlock] at hx
    | some a=>simp [Value.ownBlock] at hx; subst hx; exact .inl (by simp [dataOf]))
  have hpn : ao≠none→p≠dataOf ao p:=by
    intro hn
    cases ao with
    | none=>exact absurd rfl hn
    | some a=>exact fun e=>h.ne a rfl e.symm
  have hblk : w1.heap[p]? = w.heap[p]?:=by
    apply hg.block p hl
    cases ao with
    | none=>simp [Value.ownBlock]
    | some a=>simp [Value.ownBlock]; exact fun e=>h.ne a rfl e.symm
  have k0 : w1.cell? ⟨p,0,none⟩ = some (.int .i64 (out.length : Int)):=(World.cell?_of_block hblk).trans h.c0
  have k1 : w1.cell? ⟨p,1,none⟩ = some (.int .i64 0):=(World.cell?_of_block hblk).trans h.c1
  have k2 : w1.cell? ⟨p,2,none⟩ = some (.slice ao out.length cap):=(World.cell?_of_block hblk).trans h.c2
  have kf : ∀ j,w'.frozen? ⟨p,j,none⟩ = w.frozen? ⟨p,j,none⟩:=fun j=>by rw [← hw,frozen_setCell,frozen_setCell]; exact World.frozen?_of_block hblk
  have o2 : Only [p] w1 w':=by
    rw [← hw]
    exact ((Only.refl [p] w1).setCell (.inl (by simp)) _).setCell (.inl (by simp)) _
  have hne : ∀ a,ao' = some a→a.block≠p:=by
    intro a ha e
    rcases hao a ha with ⟨a',h1,h2⟩ | h1
    · exact h.ne a' h1 (by omega)
    · omega
  have hlen : (out ++ l).length = out.length + l.length:=List.length_append
  refine ⟨dataOf ao' p,⟨ao',cap',{ c0:=?_,c1:=?_,c2:=?_,f0:=(kf 0).trans h.f0,f1:=(kf 1).trans h.f1,f2:=(kf 2).trans h.f2,own:=?_,ne:=hne,ge:=h.ge },rfl⟩,?_,?_⟩
  · rw [← hw,hlen]
    exact cell_setCell_same _ _ ((cell_setCell_ne w1 _ (by simp)).trans k0)
  · rw [← hw,cell_setCell_ne _ _ (by simp),cell_setCell_ne _ _ (by simp)]; exact k1
  · rw [← hw,hlen,cell_setCell_ne _ _ (by simp)]; exact cell_setCell_same _ _ k2
  · rw [hlen,bcs_append]
    exact ownb_only hown o2 (fun k hk=>by
      cases ao' with
      | none=>simp [Value.ownBlock] at hk
      | some a=>simp [Value.ownBlock] at hk; subst hk; simpa using hne a rfl)
  · cases ao' with
    | none=>
      cases ao with
      | none=>exact .inl rfl
      | some a=>cases hnn rfl
    | some a=>
      rcases hao a rfl with ⟨a',rfl,h2⟩ | h1
      · exact .inl (by simp [dataOf,h2])
      · exact .inr h1
  · exact (o1.mono (fun x hx=>.inl (by simp at hx; simp [hx]))).trans o2 (fun x hx=>.inl (by simp at hx; simp [hx]))

set_option maxHeartbeats 400000 in
theorem put_any {w : World} {B p g : Nat} {s : List UInt8 × Int} (h : WrE w B p g s) {lao : Option Addr} {lcap d : Nat} {ls : List UInt8} (hb : BS w lao ls d) (hl : lao = none→lcap = 0) (hsz : s.1.length + ls.length≤211106232532992) :
    Calls Tryz.prog 127 #[.pointer (some ⟨p,0,none⟩),.slice lao ls.length lcap] w fun e w'=>e = .returned (.tuple #[])∧WTo w B p g w' (wPut s ls):=by
  obtain ⟨out,err⟩:=s
  obtain ⟨ao,cap,h,rfl⟩:=h
  simp only at h hsz
  by_cases he : err = 0
  · subst he
    have e : wPut (out,0) ls = (out ++ ls,0):=by simp [wPut]
    rw [e]
    have H:=hid h
    obtain ⟨c0,c1,c2,f0,f1,f2,own,ne,ge⟩:=h
    have hpl:=H.out.lt
    go_enter Tryz.func127,Tryz.ntmps127
    go_wp2_with (first | (go_at_call 63; refine (fine_any p 0 _ (by assumption)).mono ?_; rintro e w' ⟨rfl,rfl⟩) | (at_builtin; refine wpList_append_bytes rfl (.tmp 12) (.tmp 13) rfl rfl rfl own hb hl (by omega) (by omega) ?_))
    intro ao' cap' w1 hown hgr hao hnn
    have hblk : w1.heap[p]? = w.heap[p]?:=by
      apply hgr.block p hpl
      cases ao with
      | none=>simp [Value.ownBlock]
      | some a=>simp [Value.ownBlock]; exact fun e=>ne a rfl e.symm
    have k0 : w1.cell? ⟨p,0,none⟩ = some (.int .i64 (out.length : Int)):=(World.cell?_of_block hblk).trans c0
    have k2 : w1.cell? ⟨p,2,none⟩ = some (.slice ao out.length cap):=(World.cell?_of_block hblk).trans c2
    have kf0 : w1.frozen? ⟨p,0,none⟩ = false:=(World.frozen?_of_block hblk).trans f0
    have kf2 : w1.frozen? ⟨p,2,none⟩ = false:=(World.frozen?_of_block hblk).trans f2
    clear hblk
    go_wp2_with (go_at_call 172; refine (move_any p out.length ls.length _ (by go_simp) (by go_simp) (by omega)).mono ?_; rintro e w' ⟨rfl,hw⟩)
    go_end0
    exact ⟨rfl,H.out.appended hown hgr hao hnn _ hw⟩
  · have e : wPut (out,err) ls = (out,err):=by simp [wPut,he]
    rw [e]
    have H:=hid h
    obtain ⟨c0,c1,c2,f0,f1,f2,own,ne,ge⟩:=h
    have he' : (err == 0) = false:=by simpa using he
    clear he
    go_enter Tryz.func127,Tryz.ntmps127
    go_wp2_with (go_at_call 63; refine (fine_any p err _ (by assumption)).mono ?_; rintro e w' ⟨rfl,rfl⟩)
    go_end0
    exact ⟨rfl,WTo.refl ⟨ao,cap,H.out,rfl⟩⟩


/-- A number in k bytes, the highest first. -/
def toBE (n : Nat) : Nat→List UInt8
 | 0=>[]
 | k + 1=>UInt8.ofNat (n / 256 ^ k) :: toBE n k

theorem toBE_length (n k : Nat) : (toBE n k).length = k:=by
 induction k with
 | zero=>rfl
 | succ k ih=>simp [toBE,ih]

theorem wPut_nil (s : List UInt8 × Int) : wPut s [] = s:=by
 obtain ⟨a,b⟩:=s
 unfold wPut
 split
 ·rename_i h; simp at h; simp [h]
 ·rfl

theorem wPut_wPut (s : List UInt8 × Int) (a b : List UInt8) : wPut (wPut s a) b = wPut s (a ++ b):=by
 unfold wPut
 by_cases h : s.2 = 0 <;> simp [h]

theorem wPut_len (s : List UInt8 × Int) (a : List UInt8) : (wPut s a).1.length≤s.1.length + a.length:=by
 unfold wPut
 split <;> simp

theorem toBE_get (x m k : Nat) (h0 : 0 < k) (h : k≤m) : (toBE x m)[m - k]? = some (UInt8.ofNat (x / 256 ^ (k - 1))):=by
 induction m with
 | zero=>omega
 | succ m ih=>
  by_cases e : k = m + 1
  ·subst e
   simp [toBE]
  ·rw [show m + 1 - k = (m - k) + 1 by omega]
   simp only [toBE,List.getElem?_cons_succ]
   exact ih (by omega)

theorem toBE_take (x m k : Nat) (h0 : 0 < k) (h : k≤m) : (toBE x m).take (m - k) ++ [UInt8.ofNat (x / 256 ^ (k - 1))] = (toBE x m).take (m - (k - 1)):=by
 have hg:=toBE_get x m k h0 h
 have hl : m - k < (toBE x m).length:=by rw [toBE_length]; omega
 rw [show m - (k - 1) = (m - k) + 1 by omega,List.take_succ_eq_append_getElem hl]
 rw [List.getElem?_eq_getElem hl] at hg
 rw [Option.some.inj hg]

theorem byte_at (x k : Nat) (h0 : 0 < k) : (x : Int) / 2 ^ (8 * k - 8) % 256 = ((UInt8.ofNat (x / 256 ^ (k - 1))).toNat : Int):=by
 have e : (2 : Nat) ^ (8 * k - 8) = 256 ^ (k - 1):=by
  rw [show (256 : Nat) = 2 ^ 8 by decide,← Nat.pow_mul]
  congr 1
  omega
 have e2 : (x : Int) / 2 ^ (8 * k - 8) = ((x / 256 ^ (k - 1) : Nat) : Int):=by
  rw [← e]
  simp
 rw [e2,UInt8.toNat_ofNat']
 simp

theorem bs_one (w : World) (b : UInt8) (v : Int) (h : v = (b.toNat : Int)) : BS (w.alloc (.cells #[.int .u8 v] 5)) (some ⟨w.heap.size,0,none⟩) [b] w.heap.size:=by
 subst h
 refine .inr ⟨0,rfl,fun j hj=>?_⟩
 have : j = 0:=by simpa using hj
 subst this
 rw [cell_new]
 rfl

set_option maxHeartbeats 400000 in
theorem wnumber_any {w : World} {B p g : Nat} {s : List UInt8 × Int} (h : WrE w B p g s) (x : Nat) (_hx : x < 18446744073709551616) (m : Nat) (hm : m≤8) (mi : Int) (hmi : mi = (m : Int)) (hsz : s.1.length + m≤211106232532992) :
  Calls Tryz.prog 173 #[.pointer (some ⟨p,0,none⟩),.int .u64 (x : Int),.int .i64 mi] w fun e w'=>e = .returned (.tuple #[])∧WTo w B p g w' (wPut s (toBE x m)):=by
 subst hmi
 go_enter Tryz.func173,Tryz.ntmps173
 go_wp2
 go_loopw [6] (fun i wr=>∃ k : Nat,k≤m∧i = .int .i64 (8 * (k : Int) - 8)∧WTo w B p g wr (wPut s ((toBE x m).take (m - k)))) (fun i _=>(intOf i + 8).toNat)
 case atStart=>exact ⟨m,by omega,by go_num,by simpa [wPut_nil] using WTo.refl h⟩
 case round=>
  obtain ⟨k,hk,rfl,g',hw,hg',ho⟩:=hrel
  by_cases hlt : 0 < k
  ·have hb:=byte_at x k hlt
   have HB:=hid (bs_one wr (UInt8.ofNat (x / 256 ^ (k - 1))) _ hb)
   have hw':=hid (hw.only ((Only.refl [] wr).alloc (.cells #[.int .u8 ((x : Int) / 2 ^ (8 * k - 8) % 256)] 5)) (by simp) (by simp))
   have hl:=wPut_len s ((toBE x m).take (m - k))
   have hl2 : ((toBE x m).take (m - k)).length≤m - k:=List.length_take_le _ _
   have HP:=hid (put_any hw'.out HB.out (lcap:=1) (by simp) (by simp only [List.length_singleton]; omega))
   clear hb
   have h8 : (8 : Int)≤8 * (k : Int):=by omega
   go_wp2_with (go_at_call 127; refine HP.out.mono ?_; rintro e w2 ⟨rfl,hto⟩)
   refine ⟨⟨k - 1,by omega,?_,?_⟩,?_⟩
   ·congr 1
    omega
   ·rw [wPut_wPut,toBE_take x m k hlt hk] at hto
    exact wto_trans (ho.alloc _) hg' hto
   ·simp [intOf]
    omega
  ·have : k = 0:=by omega
   subst this
   go_wp2
   go_end0
   refine ⟨rfl,g',?_,hg',ho⟩
   rw [List.take_of_length_le (by rw [toBE_length]; omega)] at hw
   exact hw


/-- Where the numbers of a slice lie that is read. -/
def NX (k : IntKind) (w : World) (ao : Option Addr) (ns : List Int) (d : Nat) : Prop:=
 ns = []∨∃ off,ao = some ⟨d,off,none⟩∧∀ j (h : j < ns.length),w.cell? ⟨d,off + j,none⟩ = some (.int k ns[j])

theorem NX.only {k : IntKind} {w w' : World} {S : List Nat} {ao : Option Addr} {ns : List Int} {d : Nat} (h : NX k w ao ns d) (ho : Only S w w') (hn : ns≠[]→d ∉ S) : NX k w' ao ns d:=by
 rcases h with h | ⟨off,ha,hc⟩
 ·exact .inl h
 ·by_cases hb : ns = []
  ·exact .inl hb
  have hd:=hn hb
  exact .inr ⟨off,ha,fun j hj=>by rw [ho.cell (World.block_lt_of_cell? w _ (hc j hj)) hd]; exact hc j hj⟩

/-- What U1, U2 do with one number. -/
def wOne (size : Nat) (s : List UInt8 × Int) (n : Int) : List UInt8 × Int:=if s.2 = 0 then (if n < 0∨(256 : Int) ^ size≤n then (s.1,1) else (s.1 ++ toBE n.toNat size,0)) else s
def wAll (size : Nat) (s : List UInt8 × Int) (l : List Int) : List UInt8 × Int:=l.foldl (wOne size) s

theorem wAll_err (size : Nat) (s : List UInt8 × Int) (h : s.2≠0) (l : List Int) : wAll size s l = s:=by
 induction l with
 | nil=>rfl
 | cons n l ih=>
  have : wOne size s n = s:=by simp [wOne,h]
  simp only [wAll,List.foldl_cons,this]
  exact ih

theorem wAll_take_succ (size : Nat) (s : List UInt8 × Int) (l : List Int) (k : Nat) (h : k < l.length) : wAll size s (l.take (k + 1)) = wOne size (wAll size s (l.take k)) l[k]:=by
 rw [List.take_succ_eq_append_getElem h]
 simp only [wAll,List.foldl_append,List.foldl_cons,List.foldl_nil]

theorem wAll_split (size : Nat) (s : List UInt8 × Int) (l : List Int) (k : Nat) : wAll size s l = wAll size (wAll size s (l.take k)) (l.drop k):=by
 conv=>lhs; rw [← List.take_append_drop k l]
 simp only [wAll,List.foldl_append]

theorem wOne_len (size : Nat) (s : List UInt8 × Int) (n : Int) : (wOne size s n).1.length≤s.1.length + size:=by
 unfold wOne
 split
 ·split
  ·simp
  ·simp [toBE_length]
 ·simp

theorem wAll_len (size : Nat) (s : List UInt8 × Int) (l : List Int) : (wAll size s l).1.length≤s.1.length + size * l.length:=by
 induction l generalizing s with
 | nil=>simp [wAll]
 | cons n l ih=>
  have h1:=ih (wOne size s n)
  have h2:=wOne_len size s n
  simp only [wAll,List.foldl_cons,List.length_cons] at h1 ⊢
  rw [Nat.mul_succ]
  omega

theorem wOne_ok (size : Nat) (s : List UInt8 × Int) (n : Int) (h : ¬ (n < 0∨(256 : Int) ^ size≤n)) : wOne size s n = wPut s (toBE n.toNat size):=by
 unfold wOne wPut
 rw [if_neg h]

/-- What a writer is when its error was set. -/
theorem WrE.failed {w : World} {B p g : Nat} {s : List UInt8 × Int} (h : WrE w B p g s) (x : Int) (w' : World) (hw : w.setCell ⟨p,1,none⟩ (.int .i64 x) = w') : WTo w B p g w' (s.1,x):=by
 obtain ⟨ao,cap,h,rfl⟩:=h
 have ho : Only [p] w w':=by
  rw [← hw]
  exact (Only.refl [p] w).setCell (.inl (by simp)) _
 have hf : ∀ a,w'.frozen? a = w.frozen? a:=fun a=>by rw [← hw,frozen_setCell]
 refine ⟨dataOf ao p,⟨ao,cap,{ c0:=by rw [← hw,cell_setCell_ne _ _ (by simp)]; exact h.c0,c1:=by rw [← hw]; exact cell_setCell_same _ _ h.c1,c2:=by rw [← hw,cell_setCell_ne _ _ (by simp)]; exact h.c2,f0:=(hf _).trans h.f0,f1:=(hf _).trans h.f1,f2:=(hf _).trans h.f2,own:=ownb_only h.own ho (fun k hk=>?_),ne:=h.ne,ge:=h.ge },rfl⟩,.inl rfl,ho.mono (fun x hx=>.inl (by simp at hx; simp [hx]))⟩
 cases ao with
 | none=>simp [Value.ownBlock] at hk
 | some a=>simp [Value.ownBlock] at hk; subst hk; simpa using h.ne a rfl

/-- fail, whatever the writer's error. -/
theorem wfail_any {w : World} {B p g : Nat} {s : List UInt8 × Int} (h : WrE w B p g s) (x : Int) :
  Calls Tryz.prog 135 #[.pointer (some ⟨p,0,none⟩),.int .i64 x] w fun e w'=>e = .returned (.tuple #[])∧WTo w B p g w' (s.1,if s.2 = 0 then x else s.2):=by
 have h':=h
 obtain ⟨ao,cap,q,_⟩:=h'
 by_cases he : s.2 = 0
 ·rw [if_pos he]
  refine (fail_new p x w (by rw [q.c1,he]) q.f1).mono ?_
  rintro e w' ⟨rfl,hw⟩
  exact ⟨rfl,h.failed x w' hw⟩
 ·rw [if_neg he]
  refine (fail_old p x s.2 w (by simpa using he) q.c1).mono ?_
  rintro e w' ⟨rfl,rfl⟩
  exact ⟨rfl,WTo.refl h⟩

set_option maxHeartbeats 800000 in
set_option maxRecDepth 100000 in
theorem counts1 {w : World} {B p g : Nat} {s : List UInt8 × Int} (h : WrE w B p g s) {lao : Option Addr} {lcap d : Nat} {ns : List Int} (hb : NX .i64 w lao ns d) (hd : ns≠[]→d ∉ [p,g]) (hsz : s.1.length + 1 * ns.length≤211106232532992) :
  Calls Tryz.prog 128 #[.pointer (some ⟨p,0,none⟩),.int .i64 1,.slice lao ns.length lcap] w fun e w'=>e = .returned (.tuple #[])∧WTo w B p g w' (wAll 1 s ns):=by
 go_enter Tryz.func128,Tryz.ntmps128
 go_wp2
 go_loopw [10] (fun i wr=>∃ k : Nat,k≤ns.length∧i = .int .i64 (k : Int)∧WTo w B p g wr (wAll 1 s (ns.take k))) (fun i _=>ns.length - (intOf i).toNat)
 case atStart=>exact ⟨0,by omega,rfl,by simpa [wAll] using WTo.refl h⟩
 case round=>
  obtain ⟨k,hk,rfl,g',hw,hg',ho⟩:=hrel
  by_cases hlt : k < ns.length
  ·have hne : ns≠[]:=by intro e; simp [e] at hlt
   have hb':=hb.only ho hd
   rcases hb' with hb' | ⟨off,rfl,hc⟩
   ·exact absurd hb' hne
   have hck:=hc k hlt
   have hsucc:=wAll_take_succ 1 s ns k hlt
   have hll:=wAll_len 1 s (ns.take k)
   have hll2 : (ns.take k).length≤k:=List.length_take_le _ _
   have hsplit:=wAll_split 1 s ns (k + 1)
   rw [hsucc] at hsplit
   generalize ns[k] = n at *
   generalize wAll 1 s (ns.take k) = t at *
   have Hsucc:=hid hsucc
   have Hsplit:=hid hsplit
   clear hc hsucc hsplit hb hd hne
   by_cases hbad : n < 0∨(256 : Int) ^ 1≤n
   ·have hone : wOne 1 t n = (t.1,if t.2 = 0 then 1 else t.2):=by
     unfold wOne
     by_cases ht : t.2 = 0
     ·rw [if_pos ht,if_pos hbad,if_pos ht]
     ·rw [if_neg ht,if_neg ht]
    have hend : wAll 1 s ns = (t.1,if t.2 = 0 then 1 else t.2):=by
     rw [Hsplit.out,hone]
     apply wAll_err
     simp only
     split
     ·decide
     ·assumption
    have HE:=hid hend
    have HF:=hid (wfail_any hw 1)
    clear Hsucc Hsplit hone hend
    by_cases hneg : n < 0
    ·clear hbad
     go_wp2_with (go_at_call 135; refine HF.out.mono ?_; rintro e w2 ⟨rfl,hto⟩)
     refine bodyPost_ret (results_none rfl _ _ _) rfl ?_
     exact ⟨rfl,by rw [HE.out]; exact wto_trans ho hg' hto⟩
    ·have hbig : (256 : Int)≤n:=hbad.resolve_left hneg
     clear hbad
     go_wp2_with (go_at_call 135; refine HF.out.mono ?_; rintro e w2 ⟨rfl,hto⟩)
     refine bodyPost_ret (results_none rfl _ _ _) rfl ?_
     exact ⟨rfl,by rw [HE.out]; exact wto_trans ho hg' hto⟩
   ·have hone:=wOne_ok 1 t n hbad
    rw [hone] at Hsucc
    have hneg : ¬ n < 0:=fun e=>hbad (.inl e)
    have hbig : ¬ (256 : Int)≤n:=fun e=>hbad (.inr e)
    obtain ⟨m,rfl⟩:=Int.eq_ofNat_of_zero_le (by omega : 0≤n)
    rw [Int.toNat_natCast] at Hsucc
    clear Hsplit hone hbad
    have hmb : m < 256:=by omega
    have HN:=hid (wnumber_any hw m (by omega) 1 (by decide) 1 rfl (by omega))
    go_wp2_with (go_at_call 173; refine HN.out.mono ?_; rintro e w2 ⟨rfl,hto⟩)
    refine ⟨⟨k + 1,by omega,by go_num,?_⟩,by simp [intOf]; omega⟩
    rw [Hsucc.out]
    exact wto_trans ho hg' hto
  ·go_wp2
   go_end0
   refine ⟨rfl,g',?_,hg',ho⟩
   rw [List.take_of_length_le (by omega)] at hw
   exact hw

set_option maxHeartbeats 800000 in
set_option maxRecDepth 100000 in
theorem counts2 {w : World} {B p g : Nat} {s : List UInt8 × Int} (h : WrE w B p g s) {lao : Option Addr} {lcap d : Nat} {ns : List Int} (hb : NX .i64 w lao ns d) (hd : ns≠[]→d ∉ [p,g]) (hsz : s.1.length + 2 * ns.length≤211106232532992) :
  Calls Tryz.prog 128 #[.pointer (some ⟨p,0,none⟩),.int .i64 2,.slice lao ns.length lcap] w fun e w'=>e = .returned (.tuple #[])∧WTo w B p g w' (wAll 2 s ns):=by
 go_enter Tryz.func128,Tryz.ntmps128
 go_wp2
 go_loopw [10] (fun i wr=>∃ k : Nat,k≤ns.length∧i = .int .i64 (k : Int)∧WTo w B p g wr (wAll 2 s (ns.take k))) (fun i _=>ns.length - (intOf i).toNat)
 case atStart=>exact ⟨0,by omega,rfl,by simpa [wAll] using WTo.refl h⟩
 case round=>
  obtain ⟨k,hk,rfl,g',hw,hg',ho⟩:=hrel
  by_cases hlt : k < ns.length
  ·have hne : ns≠[]:=by intro e; simp [e] at hlt
   have hb':=hb.only ho hd
   rcases hb' with hb' | ⟨off,rfl,hc⟩
   ·exact absurd hb' hne
   have hck:=hc k hlt
   have hsucc:=wAll_take_succ 2 s ns k hlt
   have hll:=wAll_len 2 s (ns.take k)
   have hll2 : (ns.take k).length≤k:=List.length_take_le _ _
   have hsplit:=wAll_split 2 s ns (k + 1)
   rw [hsucc] at hsplit
   generalize ns[k] = n at *
   generalize wAll 2 s (ns.take k) = t at *
   have Hsucc:=hid hsucc
   have Hsplit:=hid hsplit
   clear hc hsucc hsplit hb hd hne
   by_cases hbad : n < 0∨(256 : Int) ^ 2≤n
   ·have hone : wOne 2 t n = (t.1,if t.2 = 0 then 1 else t.2):=by
     unfold wOne
     by_cases ht : t.2 = 0
     ·rw [if_pos ht,if_pos hbad,if_pos ht]
     ·rw [if_neg ht,if_neg ht]
    have hend : wAll 2 s ns = (t.1,if t.2 = 0 then 1 else t.2):=by
     rw [Hsplit.out,hone]
     apply wAll_err
     simp only
     split
     ·decide
     ·assumption
    have HE:=hid hend
    have HF:=hid (wfail_any hw 1)
    clear Hsucc Hsplit hone hend
    by_cases hneg : n < 0
    ·clear hbad
     go_wp2_with (go_at_call 135; refine HF.out.mono ?_; rintro e w2 ⟨rfl,hto⟩)
     refine bodyPost_ret (results_none rfl _ _ _) rfl ?_
     exact ⟨rfl,by rw [HE.out]; exact wto_trans ho hg' hto⟩
    ·have hbig : (65536 : Int)≤n:=hbad.resolve_left hneg
     clear hbad
     go_wp2_with (go_at_call 135; refine HF.out.mono ?_; rintro e w2 ⟨rfl,hto⟩)
     refine bodyPost_ret (results_none rfl _ _ _) rfl ?_
     exact ⟨rfl,by rw [HE.out]; exact wto_trans ho hg' hto⟩
   ·have hone:=wOne_ok 2 t n hbad
    rw [hone] at Hsucc
    have hneg : ¬ n < 0:=fun e=>hbad (.inl e)
    have hbig : ¬ (65536 : Int)≤n:=fun e=>hbad (.inr e)
    obtain ⟨m,rfl⟩:=Int.eq_ofNat_of_zero_le (by omega : 0≤n)
    rw [Int.toNat_natCast] at Hsucc
    clear Hsplit hone hbad
    have hmb : m < 65536:=by omega
    have HN:=hid (wnumber_any hw m (by omega) 2 (by decide) 2 rfl (by omega))
    go_wp2_with (go_at_call 173; refine HN.out.mono ?_; rintro e w2 ⟨rfl,hto⟩)
    refine ⟨⟨k + 1,by omega,by go_num,?_⟩,by simp [intOf]; omega⟩
    rw [Hsucc.out]
    exact wto_trans ho hg' hto
  ·go_wp2
   go_end0
   refine ⟨rfl,g',?_,hg',ho⟩
   rw [List.take_of_length_le (by omega)] at hw
   exact hw


theorem wu1_any {w : World} {B p g : Nat} {s : List UInt8 × Int} (h : WrE w B p g s) {lao : Option Addr} {lcap d : Nat} {ns : List Int} (hb : NX .i64 w lao ns d) (hd : ns≠[]→d ∉ [p,g]) (hsz : s.1.length + 1 * ns.length≤211106232532992) :
  Calls Tryz.prog 61 #[.pointer (some ⟨p,0,none⟩),.slice lao ns.length lcap] w fun e w'=>e = .returned (.tuple #[])∧WTo w B p g w' (wAll 1 s ns):=by
 have HC:=hid (counts1 h hb hd hsz (lcap:=lcap))
 go_enter Tryz.func61,Tryz.ntmps61
 go_wp2_with (go_at_call 128; refine HC.out.mono ?_; rintro e w2 ⟨rfl,hto⟩)
 go_end0
 exact ⟨rfl,hto⟩

theorem wu2_any {w : World} {B p g : Nat} {s : List UInt8 × Int} (h : WrE w B p g s) {lao : Option Addr} {lcap d : Nat} {ns : List Int} (hb : NX .i64 w lao ns d) (hd : ns≠[]→d ∉ [p,g]) (hsz : s.1.length + 2 * ns.length≤211106232532992) :
  Calls Tryz.prog 59 #[.pointer (some ⟨p,0,none⟩),.slice lao ns.length lcap] w fun e w'=>e = .returned (.tuple #[])∧WTo w B p g w' (wAll 2 s ns):=by
 have HC:=hid (counts2 h hb hd hsz (lcap:=lcap))
 go_enter Tryz.func59,Tryz.ntmps59
 go_wp2_with (go_at_call 128; refine HC.out.mono ?_; rintro e w2 ⟨rfl,hto⟩)
 go_end0
 exact ⟨rfl,hto⟩

theorem wbytes_any {w : World} {B p g : Nat} {s : List UInt8 × Int} (h : WrE w B p g s) {lao : Option Addr} {lcap d : Nat} {ls : List UInt8} (hb : BS w lao ls d) (hl : lao = none→lcap = 0) (hsz : s.1.length + ls.length≤211106232532992) :
  Calls Tryz.prog 58 #[.pointer (some ⟨p,0,none⟩),.slice lao ls.length lcap] w fun e w'=>e = .returned (.tuple #[])∧WTo w B p g w' (wPut s ls):=by
 have HC:=hid (put_any h hb hl hsz)
 go_enter Tryz.func58,Tryz.ntmps58
 go_wp2_with (go_at_call 127; refine HC.out.mono ?_; rintro e w2 ⟨rfl,hto⟩)
 go_end0
 exact ⟨rfl,hto⟩

theorem wlen_any {w : World} {B p g : Nat} {s : List UInt8 × Int} (h : WrE w B p g s) :
  Calls Tryz.prog 26 #[.pointer (some ⟨p,0,none⟩)] w fun e w'=>e = .returned (.int .i64 (s.1.length : Int))∧w = w':=by
 obtain ⟨ao,cap,⟨c0,c1,c2,f0,f1,f2,own,ne,ge⟩,_⟩:=h
 go_enter Tryz.func26,Tryz.ntmps26
 go_wp2
 go_ret
 exact ⟨rfl,rfl⟩

/-- What Done answers. -/
def wDone (s : List UInt8 × Int) : List UInt8:=if s.2 = 0 then s.1 else []

set_option maxHeartbeats 400000 in
theorem wdone_any {w : World} {B p g : Nat} {s : List UInt8 × Int} (h : WrE w B p g s) (hsz : s.1.length≤211106232532992) :
  Calls Tryz.prog 27 #[.pointer (some ⟨p,0,none⟩)] w fun e w'=>∃ ao cap,e = .returned (.tuple #[.slice ao (wDone s).length cap,.int .i64 s.2])∧w'.ownsRow w.heap.size 5 1 (.slice ao (wDone s).length cap) (wDone s).length (bcs (wDone s))∧Only [] w w':=by
 obtain ⟨ao,cap,⟨c0,c1,c2,f0,f1,f2,own,ne,ge⟩,_⟩:=h
 obtain ⟨hbs,hc,hm,hn,_⟩:=BS.of_owns own
 by_cases he : s.2 = 0
 ·have e : wDone s = s.1:=by simp [wDone,he]
  rw [e,he]
  rw [he] at c1
  clear he e
  have HC:=hid (clone_any hbs hn hsz)
  go_enter Tryz.func27,Tryz.ntmps27
  go_wp2_with (first | (go_at_call 63; refine (fine_any p 0 _ (by assumption)).mono ?_; rintro e w' ⟨rfl,rfl⟩) | (go_at_call 64; refine HC.out.mono ?_; rintro e w' ⟨ao',cap',rfl,hown,ho⟩))
  go_ret2
  exact ⟨ao',cap',rfl,hown,ho⟩
 ·have e : wDone s = []:=by simp [wDone,he]
  rw [e]
  have he' : (s.2 == 0) = false:=by simpa using he
  clear he e
  go_enter Tryz.func27,Tryz.ntmps27
  go_wp2_with (go_at_call 63; refine (fine_any p s.2 _ (by assumption)).mono ?_; rintro e w' ⟨rfl,rfl⟩)
  go_quiet (fail)
  go_wp2
  go_ret2
  exact ⟨none,0,rfl,World.ownsRow_nil _ _ _ _,⟨rfl,rfl,rfl,Nat.le_refl _,fun _ _ _=>rfl⟩⟩

theorem newWriter_any (w : World) (B : Nat) (hB : B≤w.heap.size) :
  Calls Tryz.prog 24 #[] w fun e w'=>e = .returned (.pointer (some ⟨w.heap.size,0,none⟩))∧WrE w' B w.heap.size w.heap.size ([],0)∧Only [] w w':=by
 go_enter Tryz.func24,Tryz.ntmps24
 go_wp2
 go_ret
 refine ⟨rfl,⟨none,0,{ c0:=?_,c1:=?_,c2:=?_,f0:=frozen_new _ _ _ _,f1:=frozen_new _ _ _ _,f2:=frozen_new _ _ _ _,own:=World.ownsRow_nil _ _ _ _,ne:=(fun a ha=>by cases ha),ge:=hB },rfl⟩,(Only.refl [] w).alloc _⟩
 ·rw [cell_new]; rfl
 ·rw [cell_new]; rfl
 ·rw [cell_new]; rfl

/-- A number with a sign as one without. -/
def toU64 (n : Int) : Nat:=(n % 18446744073709551616).toNat
def wN8 (s : List UInt8 × Int) (l : List Int) : List UInt8 × Int:=wPut s (l.flatMap fun n=>toBE (toU64 n) 8)

theorem wN8_take_succ (s : List UInt8 × Int) (l : List Int) (k : Nat) (h : k < l.length) : wN8 s (l.take (k + 1)) = wPut (wN8 s (l.take k)) (toBE (toU64 l[k]) 8):=by
 unfold wN8
 rw [List.take_succ_eq_append_getElem h,wPut_wPut]
 simp only [List.flatMap_append,List.flatMap_cons,List.flatMap_nil,List.append_nil]

theorem wN8_len (s : List UInt8 × Int) (l : List Int) : (wN8 s l).1.length≤s.1.length + 8 * l.length:=by
 have h1:=wPut_len s (l.flatMap fun n=>toBE (toU64 n) 8)
 have h2 : (l.flatMap fun n=>toBE (toU64 n) 8).length = 8 * l.length:=by
  induction l with
  | nil=>rfl
  | cons n l ih=>
   rw [List.flatMap_cons,List.length_append,toBE_length,List.length_cons]
   have:=ih (wPut_len s _)
   omega
 unfold wN8
 omega

set_option maxHeartbeats 400000 in
theorem wn8_any {w : World} {B p g : Nat} {s : List UInt8 × Int} (h : WrE w B p g s) {lao : Option Addr} {lcap d : Nat} {ns : List Int} (hb : NX .i64 w lao ns d) (hd : ns≠[]→d ∉ [p,g]) (hsz : s.1.length + 8 * ns.length≤211106232532992) :
  Calls Tryz.prog 130 #[.pointer (some ⟨p,0,none⟩),.slice lao ns.length lcap] w fun e w'=>e = .returned (.tuple #[])∧WTo w B p g w' (wN8 s ns):=by
 go_enter Tryz.func130,Tryz.ntmps130
 go_wp2
 go_loopw [8] (fun i wr=>∃ k : Nat,k≤ns.length∧i = .int .i64 (k : Int)∧WTo w B p g wr (wN8 s (ns.take k))) (fun i _=>ns.length - (intOf i).toNat)
 case atStart=>exact ⟨0,by omega,rfl,by simpa [wN8,wPut_nil] using WTo.refl h⟩
 case round=>
  obtain ⟨k,hk,rfl,g',hw,hg',ho⟩:=hrel
  by_cases hlt : k < ns.length
  ·have hne : ns≠[]:=by intro e; simp [e] at hlt
   have hb':=hb.only ho hd
   rcases hb' with hb' | ⟨off,rfl,hc⟩
   ·exact absurd hb' hne
   have hck:=hc k hlt
   have Hsucc:=hid (wN8_take_succ s ns k hlt)
   have hll:=wN8_len s (ns.take k)
   have hll2 : (ns.take k).length≤k:=List.length_take_le _ _
   generalize ns[k] = n at *
   generalize wN8 s (ns.take k) = t at *
   clear hc hb hd hne
   have HN:=hid (wnumber_any hw (toU64 n) (by unfold toU64; omega) 8 (by decide) 8 rfl (by omega))
   have hu : IntKind.u64.wrap n = (toU64 n : Int):=by rw [IntKind.wrap_u64]; unfold toU64; omega
   go_wp2_with (go_at_call 173; refine HN.out.mono ?_; rintro e w2 ⟨rfl,hto⟩)
   refine ⟨⟨k + 1,by omega,by go_num,?_⟩,by simp [intOf]; omega⟩
   rw [Hsucc.out]
   exact wto_trans ho hg' hto
  ·go_wp2
   go_end0
   refine ⟨rfl,g',?_,hg',ho⟩
   rw [List.take_of_length_le (by omega)] at hw
   exact hw


/-- Where the texts of a slice lie that is read. -/
def SX (w : World) (ao : Option Addr) (ss : List ByteArray) (d : Nat) : Prop:=
 ss = []∨∃ off,ao = some ⟨d,off,none⟩∧∀ j (h : j < ss.length),w.cell? ⟨d,off + j,none⟩ = some (.string ss[j])

theorem SX.only {w w' : World} {S : List Nat} {ao : Option Addr} {ns : List ByteArray} {d : Nat} (h : SX w ao ns d) (ho : Only S w w') (hn : ns≠[]→d ∉ S) : SX w' ao ns d:=by
 rcases h with h | ⟨off,ha,hc⟩
 ·exact .inl h
 ·by_cases hb : ns = []
  ·exact .inl hb
  have hd:=hn hb
  exact .inr ⟨off,ha,fun j hj=>by rw [ho.cell (World.block_lt_of_cell? w _ (hc j hj)) hd]; exact hc j hj⟩

/-- What Text does with one text. -/
def wTx1 (s : List UInt8 × Int) (b : ByteArray) : List UInt8 × Int:=if s.2 = 0 then (if 255 < b.size then (s.1,5) else (s.1 ++ (UInt8.ofNat b.size :: b.data.toList),0)) else s
def wTx (s : List UInt8 × Int) (l : List ByteArray) : List UInt8 × Int:=l.foldl wTx1 s

theorem wTx_err (s : List UInt8 × Int) (h : s.2≠0) (l : List ByteArray) : wTx s l = s:=by
 induction l with
 | nil=>rfl
 | cons n l ih=>
  have : wTx1 s n = s:=by simp [wTx1,h]
  simp only [wTx,List.foldl_cons,this]
  exact ih

theorem wTx_take_succ (s : List UInt8 × Int) (l : List ByteArray) (k : Nat) (h : k < l.length) : wTx s (l.take (k + 1)) = wTx1 (wTx s (l.take k)) l[k]:=by
 rw [List.take_succ_eq_append_getElem h]
 simp only [wTx,List.foldl_append,List.foldl_cons,List.foldl_nil]

theorem wTx_split (s : List UInt8 × Int) (l : List ByteArray) (k : Nat) : wTx s l = wTx (wTx s (l.take k)) (l.drop k):=by
 conv=>lhs; rw [← List.take_append_drop k l]
 simp only [wTx,List.foldl_append]

theorem wTx1_len (s : List UInt8 × Int) (b : ByteArray) : (wTx1 s b).1.length≤s.1.length + 256:=by
 unfold wTx1
 split
 ·split
  ·simp
  ·have : b.data.toList.length = b.size:=rfl
   rw [List.length_append,List.length_cons,this]
   omega
 ·simp

theorem wTx_len (s : List UInt8 × Int) (l : List ByteArray) : (wTx s l).1.length≤s.1.length + 256 * l.length:=by
 induction l generalizing s with
 | nil=>simp [wTx]
 | cons n l ih=>
  have h1:=ih (wTx1 s n)
  have h2:=wTx1_len s n
  simp only [wTx,List.foldl_cons,List.length_cons] at h1 ⊢
  omega

theorem wTx1_ok (s : List UInt8 × Int) (b : ByteArray) (h : ¬ 255 < b.size) : wTx1 s b = wPut (wPut s [UInt8.ofNat b.size]) b.data.toList:=by
 rw [wPut_wPut]
 unfold wTx1 wPut
 rw [if_neg h]
 rfl

/-- A text turned into bytes. -/
theorem bytes_world (w : World) (b : ByteArray) : Only [] w (Lib.bytesWorld w 5 b)∧BS (Lib.bytesWorld w 5 b) (some ⟨w.heap.size,0,none⟩) b.data.toList w.heap.size:=by
 refine ⟨⟨rfl,rfl,rfl,by rw [Lib.bytesWorld_size]; omega,fun k hk _=>Lib.bytesWorld_at_old w _ b k hk⟩,.inr ⟨0,rfl,fun j hj=>?_⟩⟩
 have e : b.data.toList.getD j 0 = b.data.toList[j]:=by rw [List.getD,List.getElem?_eq_getElem hj]; rfl
 rw [Nat.zero_add,Lib.bytesWorld_cell w _ b j hj,e]

set_option maxHeartbeats 800000 in
set_option maxRecDepth 100000 in
theorem wtext_any {w : World} {B p g : Nat} {s : List UInt8 × Int} (h : WrE w B p g s) {lao : Option Addr} {lcap d : Nat} {ns : List ByteArray} (hb : SX w lao ns d) (hd : ns≠[]→d ∉ [p,g]) (hsz : s.1.length + 256 * ns.length≤211106232532992) (hlen : ∀ b∈ns,b.size≤9223372036854775807) :
  Calls Tryz.prog 129 #[.pointer (some ⟨p,0,none⟩),.slice lao ns.length lcap] w fun e w'=>e = .returned (.tuple #[])∧WTo w B p g w' (wTx s ns):=by
 go_enter Tryz.func129,Tryz.ntmps129
 go_wp2
 go_loopw [8] (fun i wr=>∃ k : Nat,k≤ns.length∧i = .int .i64 (k : Int)∧WTo w B p g wr (wTx s (ns.take k))) (fun i _=>ns.length - (intOf i).toNat)
 case atStart=>exact ⟨0,by omega,rfl,by simpa [wTx] using WTo.refl h⟩
 case round=>
  obtain ⟨k,hk,rfl,g',hw,hg',ho⟩:=hrel
  by_cases hlt : k < ns.length
  ·have hne : ns≠[]:=by intro e; simp [e] at hlt
   have hb':=hb.only ho hd
   rcases hb' with hb' | ⟨off,rfl,hc⟩
   ·exact absurd hb' hne
   have hck:=hc k hlt
   have hsucc:=wTx_take_succ s ns k hlt
   have hll:=wTx_len s (ns.take k)
   have hll2 : (ns.take k).length≤k:=List.length_take_le _ _
   have hsplit:=wTx_split s ns (k + 1)
   have hbl:=hlen ns[k] (List.getElem_mem hlt)
   rw [hsucc] at hsplit
   generalize ns[k] = n at *
   generalize wTx s (ns.take k) = t at *
   have Hsucc:=hid hsucc
   have Hsplit:=hid hsplit
   clear hc hsucc hsplit hb hd hne hlen
   by_cases hbad : 255 < n.size
   ·have hone : wTx1 t n = (t.1,if t.2 = 0 then 5 else t.2):=by
     unfold wTx1
     by_cases ht : t.2 = 0
     ·rw [if_pos ht,if_pos hbad,if_pos ht]
     ·rw [if_neg ht,if_neg ht]
    have hend : wTx s ns = (t.1,if t.2 = 0 then 5 else t.2):=by
     rw [Hsplit.out,hone]
     apply wTx_err
     simp only
     split
     ·decide
     ·assumption
    have HE:=hid hend
    have HF:=hid (wfail_any hw 5)
    clear Hsucc Hsplit hone hend
    have hbig : (255 : Int) < (n.size : Int):=by omega
    go_wp2_with (go_at_call 135; refine HF.out.mono ?_; rintro e w2 ⟨rfl,hto⟩)
    refine bodyPost_ret (results_none rfl _ _ _) rfl ?_
    exact ⟨rfl,by rw [HE.out]; exact wto_trans ho hg' hto⟩
   ·have hone:=wTx1_ok t n hbad
    rw [hone] at Hsucc
    clear Hsplit hone
    have hsm : ¬ (255 : Int) < (n.size : Int):=by omega
    have hw':=hid (hw.only ((Only.refl [] wr).alloc (.cells #[.int .u8 (n.size : Int)] 5)) (by simp) (by simp))
    have HB:=hid (bs_one wr (UInt8.ofNat n.size) (n.size : Int) (by rw [UInt8.toNat_ofNat']; omega))
    have HP:=hid (put_any hw'.out HB.out (lcap:=1) (by simp) (by simp only [List.length_singleton]; omega))
    have kc:=fun w=>Lib.run_convert_string_bytes (P:=Tryz.prog) w 9 38 5 n Tryz.underlying9 Tryz.underlying38 Tryz.underlying5
    go_wp2_with fail
    refine HP.out.mono ?_
    rintro e w2 ⟨rfl,g2,hw2,hg2,ho2⟩
    obtain ⟨ob,hbs⟩:=bytes_world w2 n
    have hl3:=wPut_len t [UInt8.ofNat n.size]
    have hl4 : n.data.toList.length = n.size:=rfl
    have HP2:=hid (put_any (hw2.only ob (by simp) (by simp)) hbs (lcap:=grownCap w2 n.size 0 5) (by simp) (by rw [hl4]; simp only [List.length_singleton] at hl3; omega))
    rw [hl4] at HP2
    clear hl4
    go_wp2_with fail
    refine HP2.out.mono ?_
    rintro e w3 ⟨rfl,hto⟩
    go_wp2
    refine ⟨⟨k + 1,by omega,by go_num,?_⟩,by simp [intOf]; omega⟩
    rw [Hsucc.out]
    refine wto_trans ((ho.alloc _).trans (ho2.trans ob (by simp)) (fun x hx=>?_)) ?_ hto
    ·simp at hx ⊢
     omega
    ·have:=(ho.alloc (.cells #[.int .u8 (n.size : Int)] 5)).size
     omega
  ·go_wp2
   go_end0
   refine ⟨rfl,g',?_,hg',ho⟩
   rw [List.take_of_length_le (by omega)] at hw
   exact hw

end Go.Proofs.YtildemmkhndhjaaGreatDoor
