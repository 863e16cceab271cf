/-
  What the proof leans on, part 1 of 48. The conditions stand in each theorem.
-/
import Derived.Shelf.Strings.BuilderK
import Derived.Shelf.Strings.Repeat
import Derived.Shelf.Strconv.Itoa4
import Derived.Test.YtildemmkhndhjaaGreatDoorProg
import Derived.Test.YtildemmkhndhjaaGreatDoorRows
import Derived.WalkSpells
import Derived.Lib.Strings
import Derived.Lib.Bytealg
import Derived.Lib.Walk
import Derived.WalkKit
import Derived.Below
import Derived.Outline
import Derived.Laws.StructEq
import Derived.Laws.AppendOwnNone
import Derived.Laws.AppendOwn
import Derived.WalkMore
import Derived.ScopeJumps
namespace Go.Proofs
open Go.Shelf
def Tryz.lays169_ren : Go.Shelf.Ren:=⟨fun | 169=>190 | n=>n,fun | 70=>268 | 9=>9 | 0=>0 | 72=>270 | 37=>38 | 127=>294 | 3=>3 | 5=>5 | n=>n,fun | n=>n⟩
theorem Tryz.lays169 : Go.Proofs.Lays.n169 Tryz.prog Tryz.lays169_ren:={
  mixed:=by kernel_rfl
  f169:=Tryz.func190.trans (congrArg some (by kernel_rfl))
  t0:=Tryz.underlying0
  a0:=Tryz.isAgg0
  z0:=Tryz.sizeOf0
  v0:=Tryz.zeroValue0
  t3:=Tryz.underlying3
  a3:=Tryz.isAgg3
  z3:=Tryz.sizeOf3
  v3:=Tryz.zeroValue3
  t9:=Tryz.underlying9
  a9:=Tryz.isAgg9
  z9:=Tryz.sizeOf9
  v9:=Tryz.zeroValue9
  t37:=Tryz.underlying38
  a37:=Tryz.isAgg38
  z37:=Tryz.sizeOf38
  v37:=Tryz.zeroValue38
  t70:=Tryz.underlying268
  a70:=Tryz.isAgg268
  z70:=Tryz.sizeOf268
  v70:=Tryz.zeroValue268
  t72:=Tryz.underlying270
  a72:=Tryz.isAgg270
  z72:=Tryz.sizeOf270
  v72:=Tryz.zeroValue270
  t127:=Tryz.underlying294
  a127:=Tryz.isAgg294
  z127:=Tryz.sizeOf294
  v127:=Tryz.zeroValue294 }
theorem Tryz.Builder_Extra_169 : Builder.Extra Tryz.prog Tryz.lays169_ren:={
  sizeBuilder:=by kernel_rfl
  liesBuilder:=by kernel_rfl
  t5:=Tryz.underlying5
  a5:=Tryz.isAgg5
  z5:=Tryz.sizeOf5
  v5:=Tryz.zeroValue5
  infoByte:=by kernel_rfl
  cellsByte:=by kernel_rfl
  sizeByte:=by kernel_rfl
  neB5:=by decide }
open Go.RowKit in
theorem Tryz.Builder_String_any_k (B b : Nat) (l : List UInt8) (w : World) (h : Lib.IsBuilderF 270 5 B b (Lib.byteCells l) w) (hBw : B≤w.heap.size) :
    Calls Tryz.prog 190 #[.pointer (some ⟨b,0,none⟩)] w fun e w'=>e = .returned (.string ⟨l.toArray⟩)∧(Lib.IsBuilderF 270 5 B b (Lib.byteCells l) w'∧Below B w w'∧Lib.OthersKept 5 (some b) w w'):=Any.Builder_String_any_k Tryz.lays169 Tryz.Builder_Extra_169 B b l w h hBw
def Tryz.lays105_ren : Go.Shelf.Ren:=⟨fun | 105=>188 | 212=>207 | 99=>186 | 165=>208 | 166=>187 | 170=>209 | 169=>190 | 263=>223 | 264=>224 | 206=>205 | 240=>206 | 241=>225 | 276=>222 | 277=>234 | n=>n,fun | 9=>9 | 3=>3 | 4=>4 | 20=>20 | 0=>0 | 46=>255 | 109=>292 | 5=>5 | 72=>270 | 76=>271 | 51=>310 | 146=>311 | 53=>212 | 148=>313 | 70=>268 | 37=>38 | 75=>48 | 127=>294 | 164=>128 | 80=>82 | n=>n,fun | n=>n⟩
theorem Tryz.lays105 : Go.Proofs.Lays.n105 Tryz.prog Tryz.lays105_ren:={
  mixed:=by kernel_rfl
  f99:=Tryz.func186.trans (congrArg some (by kernel_rfl))
  f105:=Tryz.func188.trans (congrArg some (by kernel_rfl))
  f165:=Tryz.func208.trans (congrArg some (by kernel_rfl))
  f166:=Tryz.func187.trans (congrArg some (by kernel_rfl))
  f169:=Tryz.func190.trans (congrArg some (by kernel_rfl))
  f170:=Tryz.func209.trans (congrArg some (by kernel_rfl))
  f206:=Tryz.func205.trans (congrArg some (by kernel_rfl))
  f212:=Tryz.func207.trans (congrArg some (by kernel_rfl))
  f240:=Tryz.func206.trans (congrArg some (by kernel_rfl))
  f241:=Tryz.func225.trans (congrArg some (by kernel_rfl))
  f263:=Tryz.func223.trans (congrArg some (by kernel_rfl))
  f264:=Tryz.func224.trans (congrArg some (by kernel_rfl))
  f276:=Tryz.func222.trans (congrArg some (by kernel_rfl))
  f277:=Tryz.func234.trans (congrArg some (by kernel_rfl))
  t0:=Tryz.underlying0
  a0:=Tryz.isAgg0
  z0:=Tryz.sizeOf0
  v0:=Tryz.zeroValue0
  t3:=Tryz.underlying3
  a3:=Tryz.isAgg3
  z3:=Tryz.sizeOf3
  v3:=Tryz.zeroValue3
  t4:=Tryz.underlying4
  a4:=Tryz.isAgg4
  z4:=Tryz.sizeOf4
  v4:=Tryz.zeroValue4
  t5:=Tryz.underlying5
  a5:=Tryz.isAgg5
  z5:=Tryz.sizeOf5
  v5:=Tryz.zeroValue5
  t9:=Tryz.underlying9
  a9:=Tryz.isAgg9
  z9:=Tryz.sizeOf9
  v9:=Tryz.zeroValue9
  t20:=Tryz.underlying20
  a20:=Tryz.isAgg20
  z20:=Tryz.sizeOf20
  v20:=Tryz.zeroValue20
  t37:=Tryz.underlying38
  a37:=Tryz.isAgg38
  z37:=Tryz.sizeOf38
  v37:=Tryz.zeroValue38
  t46:=Tryz.underlying255
  a46:=Tryz.isAgg255
  z46:=Tryz.sizeOf255
  v46:=Tryz.zeroValue255
  t51:=Tryz.underlying310
  a51:=Tryz.isAgg310
  z51:=Tryz.sizeOf310
  v51:=Tryz.zeroValue310
  t53:=Tryz.underlying212
  a53:=Tryz.isAgg212
  z53:=Tryz.sizeOf212
  v53:=Tryz.zeroValue212
  t70:=Tryz.underlying268
  a70:=Tryz.isAgg268
  z70:=Tryz.sizeOf268
  v70:=Tryz.zeroValue268
  t72:=Tryz.underlying270
  a72:=Tryz.isAgg270
  z72:=Tryz.sizeOf270
  v72:=Tryz.zeroValue270
  t75:=Tryz.underlying48
  a75:=Tryz.isAgg48
  z75:=Tryz.sizeOf48
  v75:=Tryz.zeroValue48
  t76:=Tryz.underlying271
  a76:=Tryz.isAgg271
  z76:=Tryz.sizeOf271
  v76:=Tryz.zeroValue271
  t109:=Tryz.underlying292
  a109:=Tryz.isAgg292
  z109:=Tryz.sizeOf292
  v109:=Tryz.zeroValue292
  t127:=Tryz.underlying294
  a127:=Tryz.isAgg294
  z127:=Tryz.sizeOf294
  v127:=Tryz.zeroValue294
  t146:=Tryz.underlying311
  a146:=Tryz.isAgg311
  z146:=Tryz.sizeOf311
  v146:=Tryz.zeroValue311
  t148:=Tryz.underlying313
  a148:=Tryz.isAgg313
  z148:=Tryz.sizeOf313
  v148:=Tryz.zeroValue313
  t164:=Tryz.underlying128
  a164:=Tryz.isAgg128
  z164:=Tryz.sizeOf128
  v164:=Tryz.zeroValue128 }
theorem Tryz.Builder_Extra_105 : Builder.Extra Tryz.prog Tryz.lays105_ren:={
  sizeBuilder:=by kernel_rfl
  liesBuilder:=by kernel_rfl
  t5:=Tryz.underlying5
  a5:=Tryz.isAgg5
  z5:=Tryz.sizeOf5
  v5:=Tryz.zeroValue5
  infoByte:=by kernel_rfl
  cellsByte:=by kernel_rfl
  sizeByte:=by kernel_rfl
  neB5:=by decide }
open Go.RowKit Go.Lib in
theorem Tryz.strings_Repeat (s : ByteArray) (c : Nat) (w : World) (hc : c≤9223372036854775807) (hlen : s.size * c≤140737488355328) :
    Calls Tryz.prog 188 #[.string s,.int .i64 c] w fun e w'=>e = .returned (.string ⟨(Lib.repeatL s.data.toList c).toArray⟩)∧Below w.heap.size w w':=Any.strings_Repeat Tryz.lays105 Tryz.Builder_Extra_105 s c w hc hlen
end Go.Proofs
namespace Go.Proofs.YtildemmkhndhjaaGreatDoor
open Go.RowKit

theorem hid {p : Prop} (h : p) : Hid p:=h

/-- Of the blocks that were there only those in S may have turned. -/
structure Only (S : List Nat) (w w' : World) : Prop where
 os : w'.os = w.os
 tape : w'.tape = w.tape
 output : w'.output = w.output
 size : w.heap.size≤w'.heap.size
 block : ∀ k,k < w.heap.size→k ∉ S→w'.heap[k]? = w.heap[k]?

theorem Only.refl (S : List Nat) (w : World) : Only S w w:=⟨rfl,rfl,rfl,Nat.le_refl _,fun _ _ _=>rfl⟩

theorem Only.trans {S S' : List Nat} {a b c : World} (h : Only S a b) (k : Only S' b c) (hs : ∀ x,x∈S'→x∈S∨a.heap.size≤x) : Only S a c:=
 ⟨k.os.trans h.os,k.tape.trans h.tape,k.output.trans h.output,Nat.le_trans h.size k.size,fun i hi hn=>by
  rw [k.block i (Nat.lt_of_lt_of_le hi h.size) (fun hm=>by rcases hs i hm with q | q <;> first | exact hn q | omega)]
  exact h.block i hi hn⟩

theorem Only.mono {S S' : List Nat} {a b : World} (h : Only S a b) (hs : ∀ x,x∈S→x∈S'∨a.heap.size≤x) : Only S' a b:=
 ⟨h.os,h.tape,h.output,h.size,fun i hi hn=>h.block i hi fun hm=>by rcases hs i hm with q | q <;> first | exact hn q | omega⟩

/-- Blocks that were not there may turn. -/
theorem Only.next {S S' : List Nat} {w a b : World} (h : Only S w a) (k : Only S' a b) (hs : ∀ x,x∈S'→w.heap.size≤x) : Only S w b:=h.trans k fun x hx=>.inr (hs x hx)

theorem Only.alloc {S : List Nat} {a w : World} (h : Only S a w) (o : Obj) : Only S a (w.alloc o):=
 h.trans (S':=[]) ⟨rfl,rfl,rfl,by simp,fun k hk _=>Below.heap_alloc _ _ _ hk⟩ (fun _ hx=>by cases hx)

theorem Only.drew {S : List Nat} {a w : World} (h : Only S a w) : Only S a w.drew:=⟨h.os,h.tape,h.output,h.size,h.block⟩

theorem Only.setCell {S : List Nat} {a w : World} (h : Only S a w) {p : Addr} (hp : p.block∈S∨a.heap.size≤p.block) (u : Value) : Only S a (w.setCell p u):=
 h.trans (S':=[p.block]) ⟨rfl,rfl,rfl,by simp [World.setCell],fun k _ hk=>Below.heap_setCell _ _ _ _ (by simpa using hk)⟩ (fun x hx=>by simp at hx; subst hx; exact hp)

theorem Only.cell {S : List Nat} {w w' : World} (h : Only S w w') {p : Addr} (hp : p.block < w.heap.size) (hn : p.block ∉ S) : w'.cell? p = w.cell? p:=World.cell?_of_block (h.block p.block hp hn)

theorem Only.frozen {S : List Nat} {w w' : World} (h : Only S w w') {p : Addr} (hp : p.block < w.heap.size) (hn : p.block ∉ S) : w'.frozen? p = w.frozen? p:=World.frozen?_of_block (h.block p.block hp hn)

theorem Only.below {S : List Nat} {B : Nat} {w w' : World} (h : Only S w w') (hB : B≤w.heap.size) (hs : ∀ x,x∈S→B≤x) : Below B w w':=
 ⟨h.os,h.tape,h.output,h.size,fun k hk=>h.block k (by omega) fun hm=>by have:=hs k hm; omega⟩

theorem Only.of_grown {w w' : World} {row : Option Nat} (h : w.grownBy w' row) : Only row.toList w w':=
 ⟨h.os,h.tape,h.output,h.size,fun k hk hn=>h.block k hk (fun e=>hn (by rw [← e]; simp))⟩

theorem cell_setCell_ne (w : World) {a b : Addr} (u : Value) (h : b≠a) : (w.setCell b u).cell? a = w.cell? a:=World.cell?_setCell_other _ _ _ _ h
theorem cell_setCell_same (w : World) {a : Addr} (u : Value) {v : Value} (h : w.cell? a = some v) : (w.setCell a u).cell? a = some u:=World.cell?_setCell_same _ _ _ h
theorem frozen_setCell (w : World) (a b : Addr) (u : Value) : (w.setCell b u).frozen? a = w.frozen? a:=by simp
theorem cell_new (w : World) (cs : Array Value) (t : TypeId) (j : Nat) : (w.alloc (.cells cs t)).cell? ⟨w.heap.size,j,none⟩ = cs[j]?:=World.cell?_alloc_new w cs t j
theorem frozen_new (w : World) (cs : Array Value) (t : TypeId) (j : Nat) : (w.alloc (.cells cs t)).frozen? ⟨w.heap.size,j,none⟩ = false:=by simp
theorem cell_alloc {w : World} {a : Addr} {u : Value} (o : Obj) (h : w.cell? a = some u) : (w.alloc o).cell? a = some u:=by
 rw [World.cell?_alloc_lt _ _ _ (World.block_lt_of_cell? w a h)]
 exact h

theorem frozen_alloc {w : World} {a : Addr} (o : Obj) (h : a.block < w.heap.size) : (w.alloc o).frozen? a = w.frozen? a:=World.frozen?_alloc_old w o a (Nat.ne_of_lt h)

theorem put2 {w : World} {b i j : Nat} {x y : Value} (u v : Value) (c0 : w.cell? ⟨b,i,none⟩ = some x) (c1 : w.cell? ⟨b,j,none⟩ = some y) (h : i≠j) :
  ((w.setCell ⟨b,i,none⟩ u).setCell ⟨b,j,none⟩ v).cell? ⟨b,i,none⟩ = some u∧((w.setCell ⟨b,i,none⟩ u).setCell ⟨b,j,none⟩ v).cell? ⟨b,j,none⟩ = some v:=by
 refine ⟨?_,cell_setCell_same _ _ (by rw [cell_setCell_ne _ _ (by simp)]; exact c1)⟩
 rw [cell_setCell_ne _ _ (by simp)]
 exact cell_setCell_same _ _ c0

/-- A text of these bytes. -/
def str (l : List UInt8) : ByteArray:=⟨l.toArray⟩

theorem str_size (l : List UInt8) : (str l).size = l.length:=by simp [str,ByteArray.size]
theorem str_toList (l : List UInt8) : (str l).toList = l:=by simp [str]
theorem str_data (l : List UInt8) : (str l).data.toList = l:=by simp [str]
theorem str_get (l : List UInt8) (j : Nat) (h : j < (str l).size) : (str l)[j] = l[j]'(by rw [str_size] at h; exact h):=by
 simp [str,ByteArray.getElem_eq_getElem_data]
theorem str_extract (l : List UInt8) (a b : Nat) : (str l).extract a b = str ((l.drop a).take (b - a)):=ByteArray.extract_mk l a b
theorem str_of (s : ByteArray) : s = str s.data.toList:=by
 apply ByteArray.ext
 simp [str]

/-- A byte of a text. -/
theorem run_at (l : List UInt8) (j : Nat) (h : j < l.length) (w : World) : (Instr.index 9 (.string (str l)) (.int .i64 (j : Int))).run Tryz.prog w = .ok (.int .u8 (l[j].toNat : Int)) w:=by
 rw [run_index_string w _ _ _ _ Tryz.underlying9,dif_pos ⟨by omega,by rw [str_size]; omega⟩]
 simp only [Int.toNat_natCast,str_get]

/-- A text from a place on. -/
theorem run_from (l : List UInt8) (j : Nat) (h : j≤l.length) (w : World) : (Instr.slice 9 (.string (str l)) (some (.int .i64 (j : Int))) none none).run Tryz.prog w = .ok (.string (str (l.drop j))) w:=by
 have:=str_size l
 have e : (str l).extract j l.length = str (l.drop j):=by rw [str_extract,List.take_of_length_le (by simp)]
 simp [Instr.slice,run_underlying Tryz.underlying9,Instr.sliceBounds,run_sliceBound,this,h,e]

/-- A text from a place to another. -/
theorem run_part (l : List UInt8) (i j : Nat) (h : i≤j) (hj : j≤l.length) (w : World) : (Instr.slice 9 (.string (str l)) (some (.int .i64 (i : Int))) (some (.int .i64 (j : Int))) none).run Tryz.prog w = .ok (.string (str ((l.drop i).take (j - i)))) w:=by
 rw [run_slice_string w _ _ _ _ _ _ Tryz.underlying9 (by omega) (by omega) (by rw [str_size]; omega),str_extract]
 simp


/-- A letter; a digit; a name; a method's name. -/
def letter (c : UInt8) : Bool:=(decide (65≤c.toNat) && decide (c.toNat≤90)) || (decide (97≤c.toNat) && decide (c.toNat≤122)) || decide (c.toNat = 95)
def digit (c : UInt8) : Bool:=decide (48≤c.toNat) && decide (c.toNat≤57)
def sign (c : UInt8) : Bool:=letter c || digit c
def nameOK (l : List UInt8) : Bool:=decide (l≠[]) && decide (l.length≤32) && !(digit (l.headD 0)) && l.all sign
def initL : List UInt8:=[60,105,110,105,116,62]
def methodOK (l : List UInt8) : Bool:=decide (l = initL) || nameOK l

theorem digit_any (c : UInt8) (w : World) : Calls Tryz.prog 159 #[.int .u8 (c.toNat : Int)] w fun e w'=>e = .returned (.bool (digit c))∧w' = w:=by
 by_cases h1 : 48≤c.toNat <;> by_cases h2 : c.toNat≤57
 all_goals try omega
 all_goals
  go_enter Tryz.func159,Tryz.ntmps159
  go_wp2
  go_ret
  refine ⟨?_,rfl⟩
  simp [digit, *]
  try omega

theorem letter_any (c : UInt8) (w : World) : Calls Tryz.prog 160 #[.int .u8 (c.toNat : Int)] w fun e w'=>e = .returned (.bool (letter c))∧w' = w:=by
 by_cases h1 : 65≤c.toNat <;> by_cases h2 : c.toNat≤90 <;> by_cases h3 : 97≤c.toNat <;> by_cases h4 : c.toNat≤122 <;> by_cases h5 : c.toNat = 95
 all_goals try omega
 all_goals
  go_enter Tryz.func160,Tryz.ntmps160
  go_wp2
  go_ret
  refine ⟨?_,rfl⟩
  simp [letter, *]
  try omega

theorem all_take_succ (l : List UInt8) (j : Nat) (h : j < l.length) : (l.take (j + 1)).all sign = ((l.take j).all sign && sign l[j]):=by
 rw [List.take_succ_eq_append_getElem h,List.all_append]
 simp

theorem not_all (l : List UInt8) (j : Nat) (h : j < l.length) (hs : sign l[j] = false) : l.all sign = false:=by
 rw [List.all_eq_false]
 exact ⟨l[j],List.getElem_mem h,by simp [hs]⟩

set_option maxHeartbeats 400000 in
theorem name_any (l : List UInt8) (hl : l.length≤9223372036854775807) (w : World) : Calls Tryz.prog 109 #[.string (str l)] w fun e w'=>e = .returned (.bool (nameOK l))∧w' = w:=by
 have hs:=str_size l
 have ht:=str_toList l
 have hat:=fun j h w=>run_at l j h w
 by_cases h0 : l = []
 ·subst h0
  go_enter Tryz.func109,Tryz.ntmps109
  go_wp2
  go_ret
  exact ⟨rfl,rfl⟩
 have hp : 0 < l.length:=List.length_pos_iff.2 h0
 have hb : (l == []) = false:=by simpa using h0
 by_cases h1 : 32 < l.length
 ·have g1 : (32 < (l.length : Int)):=by omega
  go_enter Tryz.func109,Tryz.ntmps109
  go_wp2
  go_ret
  refine ⟨?_,rfl⟩
  have : ¬ l.length≤32:=by omega
  simp [nameOK,this]
 have g1 : ¬ (32 < (l.length : Int)):=by omega
 have a0:=hat 0 hp
 rw [show ((0 : Nat) : Int) = 0 from rfl] at a0
 have hh : l.headD 0 = l[0]:=by cases l with | nil=>exact absurd rfl h0 | cons a t=>rfl
 cases hd : digit l[0] with
 | true=>
  have HD:=hid (digit_any l[0] w)
  rw [hd] at HD
  go_enter Tryz.func109,Tryz.ntmps109
  go_wp2_with (go_at_call 159; refine HD.out.mono ?_; rintro e w' ⟨rfl,rfl⟩)
  go_ret
  refine ⟨?_,rfl⟩
  unfold nameOK
  rw [hh,hd]
  simp
 | false=>
  have HD:=hid (digit_any l[0] w)
  rw [hd] at HD
  go_enter Tryz.func109,Tryz.ntmps109
  go_wp2_with (go_at_call 159; refine HD.out.mono ?_; rintro e w' ⟨rfl,rfl⟩)
  go_loopw [18] (fun i wr=>∃ j : Nat,j≤l.length∧i = .int .i64 (j : Int)∧(l.take j).all sign = true∧wr = w') (fun i _=>l.length - (intOf i).toNat)
  case atStart=>exact ⟨0,by omega,rfl,by simp,rfl⟩
  case round=>
   obtain ⟨j,hj,rfl,hall,rfl⟩:=hrel
   by_cases hlt : j < l.length
   ·have g2 : ((j : Int) < (l.length : Int)):=by omega
    have aj:=hat j hlt
    have HL:=hid (letter_any l[j] wr)
    have HE:=hid (digit_any l[j] wr)
    cases e1 : letter l[j] with
    | true=>
     rw [e1] at HL
     go_wp2_with (first | (go_at_call 160; refine HL.out.mono ?_; rintro e w' ⟨rfl,rfl⟩) | (go_at_call 159; refine HE.out.mono ?_; rintro e w' ⟨rfl,rfl⟩))
     refine ⟨⟨j + 1,by omega,by go_num,?_,trivial⟩,by simp [intOf]; omega⟩
     rw [all_take_succ l j hlt,hall]
     simp [sign,e1]
    | false=>
     rw [e1] at HL
     cases e2 : digit l[j] with
     | true=>
      rw [e2] at HE
      go_wp2_with (first | (go_at_call 160; refine HL.out.mono ?_; rintro e w' ⟨rfl,rfl⟩) | (go_at_call 159; refine HE.out.mono ?_; rintro e w' ⟨rfl,rfl⟩))
      refine ⟨⟨j + 1,by omega,by go_num,?_,trivial⟩,by simp [intOf]; omega⟩
      rw [all_take_succ l j hlt,hall]
      simp [sign,e2]
     | false=>
      rw [e2] at HE
      go_wp2_with (first | (go_at_call 160; refine HL.out.mono ?_; rintro e w' ⟨rfl,rfl⟩) | (go_at_call 159; refine HE.out.mono ?_; rintro e w' ⟨rfl,rfl⟩))
      go_ret
      refine ⟨?_,rfl⟩
      unfold nameOK
      rw [not_all l j hlt (by simp [sign,e1,e2])]
      simp
   ·have g2 : ¬ ((j : Int) < (l.length : Int)):=by omega
    go_wp2
    go_ret
    refine ⟨?_,rfl⟩
    unfold nameOK
    rw [List.take_of_length_le (by omega)] at hall
    rw [hh,hd,hall]
    simp [h0]
    omega

theorem method_any (l : List UInt8) (hl : l.length≤9223372036854775807) (w : World) : Calls Tryz.prog 113 #[.string (str l)] w fun e w'=>e = .returned (.bool (methodOK l))∧w' = w:=by
 have HN:=hid (name_any l hl w)
 by_cases h : l = initL
 ·subst h
  have ht : (str initL).toList = [60,105,110,105,116,62]:=str_toList _
  go_enter Tryz.func113,Tryz.ntmps113
  go_wp2_with (go_at_call 109; refine HN.out.mono ?_; rintro e w' ⟨rfl,rfl⟩)
  go_ret
  simp [methodOK]
 ·have ht:=str_toList l
  have hb2 : ¬ (l = [60,105,110,105,116,62]):=h
  go_enter Tryz.func113,Tryz.ntmps113
  go_wp2_with (go_at_call 109; refine HN.out.mono ?_; rintro e w' ⟨rfl,rfl⟩)
  go_ret
  simp [methodOK,h]
  exact fun e=>absurd e hb2


set_option maxRecDepth 100000 in
theorem index_lite (l : List UInt8) (c : UInt8) (w : World) : Calls Tryz.prog 221 #[.string (str l),.int .u8 (c.toNat : Int)] w fun e w'=>e = .returned (.int .i64 (Lib.indexByte l c))∧w' = w:=by
 go_enter Tryz.func221,Tryz.ntmps221
 go_wp2
 rw [run_callFunc_extern Tryz.func233 (by kernel_rfl) (by kernel_rfl) (by kernel_rfl) (e:=Extern.BytealgIndexByte.indexByte) (by kernel_rfl),Lib.run_indexByteString]
 simp only [Result.andThen]
 rw [Oper.upon_value]
 go_wp2
 go_ret
 simp [str_data]

theorem index_any (l : List UInt8) (c : UInt8) (w : World) : Calls Tryz.prog 203 #[.string (str l),.int .u8 (c.toNat : Int)] w fun e w'=>e = .returned (.int .i64 (Lib.indexByte l c))∧w' = w:=by
 go_enter Tryz.func203,Tryz.ntmps203
 go_wp2_with (go_at_call 221; refine (index_lite l c w).mono ?_; rintro e w' ⟨rfl,rfl⟩)
 go_ret
 exact ⟨rfl,rfl⟩

def hasOne (l : List UInt8) (c : UInt8) : Bool:=match l with | []=>false | a :: _=>decide (a = c)
def cutOne (l : List UInt8) (c : UInt8) : List UInt8:=if hasOne l c then l.drop 1 else l

theorem has_lite (l : List UInt8) (c : UInt8) (w : World) : Calls Tryz.prog 205 #[.string (str l),.string (str [c])] w fun e w'=>e = .returned (.bool (hasOne l c))∧w' = w:=by
 have hs:=str_size l
 have h1:=str_size [c]
 have ht:=str_toList [c]
 have he : (str l).extract 0 1 = str (l.take 1):=by rw [str_extract]; simp
 have ht2:=str_toList (l.take 1)
 cases l with
 | nil=>
  go_enter Tryz.func205,Tryz.ntmps205
  go_wp2
  go_ret
  simp [hasOne]
 | cons a t=>
  have hr:=run_part (a :: t) 0 1 (by omega) (by simp)
  simp at hr hs ht2
  go_enter Tryz.func205,Tryz.ntmps205
  go_wp2
  go_ret
  by_cases h : a = c <;> simp [hasOne,h]

theorem has_any (l : List UInt8) (c : UInt8) (w : World) : Calls Tryz.prog 186 #[.string (str l),.string (str [c])] w fun e w'=>e = .returned (.bool (hasOne l c))∧w' = w:=by
 go_enter Tryz.func186,Tryz.ntmps186
 go_wp2_with (go_at_call 205; refine (has_lite l c w).mono ?_; rintro e w' ⟨rfl,rfl⟩)
 go_ret
 exact ⟨rfl,rfl⟩

theorem cut_lite (l : List UInt8) (c : UInt8) (w : World) : Calls Tryz.prog 204 #[.string (str l),.string (str [c])] w fun e w'=>e = .returned (.tuple #[.string (str (cutOne l c)),.bool (hasOne l c)])∧w' = w:=by
 have HL:=hid (has_lite l c w)
 have h1:=str_size [c]
 cases h : hasOne l c with
 | false=>
  rw [h] at HL
  go_enter Tryz.func204,Tryz.ntmps204
  go_wp2_with (go_at_call 205; refine HL.out.mono ?_; rintro e w' ⟨rfl,rfl⟩)
  go_ret2
  simp [cutOne,h]
 | true=>
  rw [h] at HL
  have hp : 1≤l.length:=by cases l <;> simp_all [hasOne]
  have hr:=run_from l 1 hp
  rw [show ((1 : Nat) : Int) = 1 from rfl] at hr
  simp at h1
  go_enter Tryz.func204,Tryz.ntmps204
  go_wp2_with (go_at_call 205; refine HL.out.mono ?_; rintro e w' ⟨rfl,rfl⟩)
  go_ret2
  simp [cutOne,h]

theorem cut_any (l : List UInt8) (c : UInt8) (w : World) : Calls Tryz.prog 185 #[.string (str l),.string (str [c])] w fun e w'=>e = .returned (.tuple #[.string (str (cutOne l c)),.bool (hasOne l c)])∧w' = w:=by
 go_enter Tryz.func185,Tryz.ntmps185
 go_wp2_with (go_at_call 204; refine (cut_lite l c w).mono ?_; rintro e w' ⟨rfl,rfl⟩)
 go_ret2
 exact ⟨rfl,rfl⟩


/-- A type: its dimensions, its name. -/
abbrev Ty:=Int × List UInt8
def tyV (t : Ty) : Value:=.agg #[.int .i64 t.1,.string (str t.2)]
def tyCheck (t : Ty) : Int:=if t.1 < 0∨8 < t.1 then 1 else if t.2≠[]∧nameOK t.2 = false then 14 else 0
set_option maxHeartbeats 400000 in
theorem check_any (t : Ty) (hl : t.2.length≤9223372036854775807) (w : World) : Calls Tryz.prog 117 #[tyV t] w fun e w'=>e = .returned (.int .i64 (tyCheck t))∧Only [] w w':=by
 obtain ⟨d,n⟩:=t
 simp only [tyV]
 have ho:=(Only.refl [] w).alloc (.cells #[.int .i64 d,.string (str n)] 35)
 have HN:=hid (name_any n hl (w.alloc (.cells #[.int .i64 d,.string (str n)] 35)))
 have ht:=str_toList n
 by_cases h1 : d < 0
 ·go_enter Tryz.func117,Tryz.ntmps117
  go_wp2
  go_ret
  exact ⟨by simp [tyCheck,h1],ho⟩
 by_cases h2 : 8 < d
 ·go_enter Tryz.func117,Tryz.ntmps117
  go_wp2
  go_ret
  exact ⟨by simp [tyCheck,h2],ho⟩
 by_cases h3 : n = []
 ·subst h3
  go_enter Tryz.func117,Tryz.ntmps117
  go_wp2_with (go_at_call 109; refine HN.out.mono ?_; rintro e w' ⟨rfl,rfl⟩)
  go_ret
  exact ⟨by simp [tyCheck,h1,h2],ho⟩
 have hi : n.isEmpty = false:=by simpa using h3
 cases h4 : nameOK n with
 | true=>
  rw [h4] at HN
  go_enter Tryz.func117,Tryz.ntmps117
  go_wp2_with (go_at_call 109; refine HN.out.mono ?_; rintro e w' ⟨rfl,rfl⟩)
  go_ret
  exact ⟨by simp [tyCheck,h1,h2,h4],ho⟩
 | false=>
  rw [h4] at HN
  go_enter Tryz.func117,Tryz.ntmps117
  go_wp2_with (go_at_call 109; refine HN.out.mono ?_; rintro e w' ⟨rfl,rfl⟩)
  go_ret
  exact ⟨by simp [tyCheck,h1,h2,h3,h4],ho⟩

theorem eq_type (a b : Ty) (w : World) : (binOp .eql 35 (tyV a) (tyV b)).run Tryz.prog w = .ok (.bool (decide (a = b))) w:=by
 obtain ⟨d,n⟩:=a
 obtain ⟨d',n'⟩:=b
 have hS : Tryz.prog.underlying 35 = some (.struct (Tryz.prog.fieldsOf 35)):=by kernel_rfl
 have hp : Tryz.prog.stoodInHeld 35 = false:=by kernel_rfl
 simp only [tyV]
 rw [run_eql_struct,show (10000 : Nat) = 9999 + 1 from rfl,run_equalIn_agg w 9999 35 _ _ hS hp]
 simp only [Program.fieldsOf,Tryz.underlying35]
 go_simp
 simp only [str_toList]
 by_cases h1 : d = d' <;> by_cases h2 : n = n' <;> simp [h1,h2]

theorem neq_type (a b : Ty) (w : World) : (binOp .neq 35 (tyV a) (tyV b)).run Tryz.prog w = .ok (.bool (!decide (a = b))) w:=by
 obtain ⟨d,n⟩:=a
 obtain ⟨d',n'⟩:=b
 have hS : Tryz.prog.underlying 35 = some (.struct (Tryz.prog.fieldsOf 35)):=by kernel_rfl
 have hp : Tryz.prog.stoodInHeld 35 = false:=by kernel_rfl
 simp only [tyV]
 rw [run_neq_struct,show (10000 : Nat) = 9999 + 1 from rfl,run_equalIn_agg w 9999 35 _ _ hS hp]
 simp only [Program.fieldsOf,Tryz.underlying35]
 go_simp
 simp only [str_toList]
 by_cases h1 : d = d' <;> by_cases h2 : n = n' <;> simp [h1,h2]

theorem ty_zero : tyV (0,[]) = .agg #[.int .i64 0,.string ⟨#[]⟩]:=rfl

theorem number_any (t : Ty) (w : World) : Calls Tryz.prog 214 #[tyV t] w fun e w'=>e = .returned (.bool (decide (t = (0,[]))))∧Only [] w w':=by
 have hq:=eq_type t (0,[])
 obtain ⟨d,n⟩:=t
 rw [ty_zero] at hq
 simp only [tyV] at hq ⊢
 have ho:=(Only.refl [] w).alloc (.cells #[.int .i64 d,.string (str n)] 35)
 go_enter Tryz.func214,Tryz.ntmps214
 go_wp2
 go_ret
 exact ⟨by simp,ho⟩

theorem check_bounds {d : Int} {n : List UInt8} (hc : tyCheck (d,n) = 0) : 0≤d∧d≤8:=by
 simp only [tyCheck] at hc
 split at hc
 ·omega
 ·omega


/-- Types as cells. -/
def tcs : List Ty→List Value
 | []=>[]
 | t :: l=>.int .i64 t.1 :: .string (str t.2) :: tcs l

theorem tcs_length (l : List Ty) : (tcs l).length = l.length * 2:=by
 induction l with
 | nil=>rfl
 | cons t l ih=>simp [tcs,ih]; omega

theorem tcs_append (a b : List Ty) : tcs (a ++ b) = tcs a ++ tcs b:=by
 induction a with
 | nil=>rfl
 | cons t l ih=>simp [tcs,ih]

theorem tcs_one (l : List Ty) : ∀ u∈tcs l,u.oneCell' = true:=by
 induction l with
 | nil=>simp [tcs]
 | cons t l ih=>
  intro u hu
  simp [tcs] at hu
  rcases hu with rfl | rfl | hu
  ·rfl
  ·rfl
  ·exact ih u hu

theorem tcs_get (l : List Ty) (j : Nat) (h : j < l.length) : (tcs l)[j * 2]? = some (.int .i64 l[j].1)∧(tcs l)[j * 2 + 1]? = some (.string (str l[j].2)):=by
 induction l generalizing j with
 | nil=>simp at h
 | cons t l ih=>
  cases j with
  | zero=>exact ⟨rfl,rfl⟩
  | succ j=>
   have:=ih j (by simpa using h)
   simp only [tcs,Nat.add_mul,Nat.one_mul,List.getElem_cons_succ]
   exact this

theorem infoT : (Tryz.prog.info? 35).map (fun i=>(i.zero,i.size,i.bytes)) = some (some (.agg #[.int .i64 0,.string ⟨#[]⟩]),2,24):=by kernel_rfl

/-- Where the types of a slice lie that is read: nowhere, if there are none; else in block d, one behind the other. -/
def TS (w : World) (ao : Option Addr) (l : List Ty) (d : Nat) : Prop:=
 l = []∨∃ off,ao = some ⟨d,off,none⟩∧∀ j (h : j < l.length),w.cell? ⟨d,off + j * 2,none⟩ = some (.int .i64 l[j].1)∧w.cell? ⟨d,off + j * 2 + 1,none⟩ = some (.string (str l[j].2))

theorem TS.only {w w' : World} {S : List Nat} {ao : Option Addr} {l : List Ty} {d : Nat} (h : TS w ao l d) (ho : Only S w w') (hn : l≠[]→d ∉ S) : TS w' ao l d:=by
 rcases h with h | ⟨off,ha,hc⟩
 ·exact .inl h
 ·by_cases hb : l = []
  ·exact .inl hb
  have hd:=hn hb
  exact .inr ⟨off,ha,fun j hj=>⟨by rw [ho.cell (World.block_lt_of_cell? w _ (hc j hj).1) hd]; exact (hc j hj).1,by rw [ho.cell (World.block_lt_of_cell? w _ (hc j hj).2) hd]; exact (hc j hj).2⟩⟩

theorem TS.none_nil {w : World} {l : List Ty} {d : Nat} (h : TS w none l d) : l = []:=by
 rcases h with h | ⟨off,ha,_⟩
 ·exact h
 ·cases ha

theorem TS.cells {w : World} {a : Addr} {l : List Ty} {d : Nat} (h : TS w (some a) l d) : ∀ j u,(tcs l)[j]? = some u→w.cell? (a.add j) = some u:=by
 intro j u hu
 have hj : j < l.length * 2:=by
  have:=(List.getElem?_eq_some_iff.1 hu).1
  rwa [tcs_length] at this
 rcases h with h | ⟨off,ha,hc⟩
 ·rw [h] at hj; simp at hj
 ·cases ha
  rw [Addr.add_lit]
  have hk : j / 2 < l.length:=by omega
  obtain ⟨g0,g1⟩:=tcs_get l (j / 2) hk
  obtain ⟨h0,h1⟩:=hc (j / 2) hk
  rcases Nat.mod_two_eq_zero_or_one j with e | e
  ·have ej : j / 2 * 2 = j:=by omega
   rw [ej] at g0 h0
   rw [h0,← hu,g0]
  ·have ej : j / 2 * 2 + 1 = j:=by omega
   rw [ej] at g1
   rw [show off + j / 2 * 2 + 1 = off + j by omega] at h1
   rw [h1,← hu,g1]

/-- A row of types that the call owns. -/
abbrev Own (w : World) (B : Nat) (v : Value) (l : List Ty) : Prop:=w.ownsRow B 35 2 v l.length (tcs l)

theorem own_slice {w : World} {B : Nat} {v : Value} {l : List Ty} (h : Own w B v l) : ∃ ao cap,v = .slice ao l.length cap:=by
 rcases h.2 with ⟨rfl,h0⟩ | ⟨g,cap,_,rfl,_⟩
 ·exact ⟨none,0,by rw [h0]⟩
 ·exact ⟨_,_,rfl⟩

theorem own_mono {w : World} {B C : Nat} {v : Value} {l : List Ty} (h : Own w B v l) (hC : C≤B) : Own w C v l:=by
 refine ⟨h.1,?_⟩
 rcases h.2 with q | ⟨g,cap,cur,q1,q2,q3⟩
 ·exact .inl q
 ·exact .inr ⟨g,cap,cur,q1,by omega,q3⟩

theorem own_only {w w' : World} {B : Nat} {S : List Nat} {v : Value} {l : List Ty} (h : Own w B v l) (ho : Only S w w') (hn : ∀ k,v.ownBlock = some k→k ∉ S) : Own w' B v l:=by
 refine ⟨h.1,?_⟩
 rcases h.2 with q | ⟨g,cap,cur,q1,q2,q3,q4⟩
 ·exact .inl q
 ·subst q1
  exact .inr ⟨g,cap,cur,rfl,q2,by rw [ho.block g (Array.getElem?_eq_some_iff.1 q3).1 (hn g rfl)]; exact q3,q4⟩


/-- As Q; by a goto to label l: J l. -/
def Exit.jumps (J : Nat→Act→World→Prop) (Q : Exit→Act→World→Prop) : Exit→Act→World→Prop
 | .goto l,a,w=>J l a w
 | e,a,w=>Q e a w

theorem wp_scope_multi {P : Program} {a : Act} {w : World} {Q : Exit→Act→World→Prop} {c : Code} (J : Nat→Act→World→Prop) (μ : Nat→Act→World→Nat)
  (pass : ∀ l a w,J l a w→∃ rest,findLabel c l = some (.seq .skip rest)∧rest.wp P (Exit.jumps (fun l' a' w'=>J l' a' w'∧μ l' a' w' < μ l a w) Q) a w)
  (first : (∀ l a w rest,findLabel c l = some (.seq .skip rest)→J l a w→rest.wp P (Exit.jumps J Q) a w)→c.wp P (Exit.jumps J Q) a w) : (Code.scope c).wp P Q a w:=by
 intro b k cs
 have key : ∀ n l a w rest,findLabel c l = some rest→μ l a w = n→J l a w→∃ e a' w',Q e a' w'∧Arrives P (lone (b.at a (.code rest :: .inScope c :: k)) cs w) b k cs e a' w':=by
  intro n
  induction n using Nat.strongRecOn with
  | _ n ih=>
   intro l a w rest hf hn hJ
   obtain ⟨rest',hf',hp⟩:=pass l a w hJ
   rw [hf] at hf'
   cases hf'
   have hp:=wp_seq (wp_skip (Q:=Exit.then (fun a w=>rest'.wp P _ a w) _) hp)
   obtain ⟨e,a₁,w₁,hq,harr⟩:=hp b (.inScope c :: k) cs
   cases e with
   | normal=>exact ⟨.normal,a₁,w₁,hq,Steps.trans harr (.one step_inScope)⟩
   | exit id=>exact ⟨.exit id,a₁,w₁,hq,fun k' hk=>harr k' (by simp [exitTo,hk])⟩
   | goto l'=>
    obtain ⟨hJ',hlt⟩:=hq
    obtain ⟨rest₂,hf₂,_⟩:=pass l' a₁ w₁ hJ'
    have hg : gotoIn l' (.inScope c :: k) = some (.code (.seq .skip rest₂) :: .inScope c :: k):=by simp [gotoIn,hf₂]
    obtain ⟨e₂,a₂,w₂,hq₂,harr₂⟩:=ih _ (by omega) l' a₁ w₁ _ hf₂ rfl hJ'
    exact ⟨e₂,a₂,w₂,hq₂,.of_steps (harr _ hg) harr₂⟩
   | ret=>exact ⟨_,a₁,w₁,hq,harr⟩
   | panic ch=>exact ⟨_,a₁,w₁,hq,harr⟩
   | outgrown=>exact ⟨_,a₁,w₁,hq,harr⟩
 have hfirst:=first fun l a w rest hf hJ=>by
  obtain ⟨rest',hf',hp⟩:=pass l a w hJ
  rw [hf] at hf'
  cases hf'
  refine wp_mono hp fun e a' w' he=>?_
  cases e with
  | goto l'=>exact he.1
  | _=>exact he
 obtain ⟨e,a₁,w₁,hq,harr⟩:=hfirst b (.inScope c :: k) cs
 cases e with
 | normal=>exact ⟨.normal,a₁,w₁,hq,.head step_scope (Steps.trans harr (.one step_inScope))⟩
 | exit id=>exact ⟨.exit id,a₁,w₁,hq,fun k' hk=>.head step_scope (harr k' (by simp [exitTo,hk]))⟩
 | goto l'=>
  have hJ' : J l' a₁ w₁:=hq
  obtain ⟨rest₂,hf₂,_⟩:=pass l' a₁ w₁ hJ'
  have hg : gotoIn l' (.inScope c :: k) = some (.code (.seq .skip rest₂) :: .inScope c :: k):=by simp [gotoIn,hf₂]
  obtain ⟨e₂,a₂,w₂,hq₂,harr₂⟩:=key _ l' a₁ w₁ _ hf₂ rfl hJ'
  exact ⟨e₂,a₂,w₂,hq₂,.of_steps (.head step_scope (harr _ hg)) harr₂⟩
 | ret=>exact ⟨_,a₁,w₁,hq,.of_steps (.one step_scope) harr⟩
 | panic ch=>exact ⟨_,a₁,w₁,hq,.of_steps (.one step_scope) harr⟩
 | outgrown=>exact ⟨_,a₁,w₁,hq,.of_steps (.one step_scope) harr⟩

/-- The same; in a pass what holds at labels with less ahead of them may be used. -/
theorem wp_scope_multi2 {P : Program} {a : Act} {w : World} {Q : Exit→Act→World→Prop} {c : Code} (J : Nat→Act→World→Prop) (μ : Nat→Act→World→Nat)
  (pass : ∀ l a w,J l a w→(∀ l' a' w' rest',μ l' a' w' < μ l a w→findLabel c l' = some (.seq .skip rest')→J l' a' w'→rest'.wp P (Exit.jumps (fun l'' a'' w''=>J l'' a'' w''∧μ l'' a'' w'' < μ l a w) Q) a' w') →
   ∃ rest,findLabel c l = some (.seq .skip rest)∧rest.wp P (Exit.jumps (fun l' a' w'=>J l' a' w'∧μ l' a' w' < μ l a w) Q) a w)
  (first : (∀ l a w rest,findLabel c l = some (.seq .skip rest)→J l a w→rest.wp P (Exit.jumps J Q) a w)→c.wp P (Exit.jumps J Q) a w) : (Code.scope c).wp P Q a w:=by
 have key : ∀ n l a w,μ l a w = n→J l a w→∃ rest,findLabel c l = some (.seq .skip rest)∧rest.wp P (Exit.jumps (fun l' a' w'=>J l' a' w'∧μ l' a' w' < μ l a w) Q) a w:=by
  intro n
  induction n using Nat.strongRecOn with
  | _ n ih=>
   intro l a w hn hJ
   refine pass l a w hJ fun l' a' w' rest' hlt hf hJ'=>?_
   obtain ⟨rest₂,hf₂,hp⟩:=ih _ (by omega) l' a' w' rfl hJ'
   rw [hf] at hf₂
   cases hf₂
   refine wp_mono hp fun e a₁ w₁ he=>?_
   cases e with
   | goto l''=>exact ⟨he.1,by have:=he.2; omega⟩
   | _=>exact he
 exact wp_scope_multi J μ (fun l a w hJ=>key _ l a w rfl hJ) first


/-- A class's name, and what stands behind it. -/
def classP (n : Nat) (t : List UInt8) : Option (Ty × List UInt8):=
 if t.dropWhile (· != 59) = []∨nameOK (t.takeWhile (· != 59)) = false then none else some (((n : Int),t.takeWhile (· != 59)),(t.dropWhile (· != 59)).drop 1)

/-- The type with which a text begins behind n opening brackets. -/
def firstP : Nat→List UInt8→Option (Ty × List UInt8)
 | _,[]=>none
 | n,c :: t=>if 8 < n then none else if c = 91 then firstP (n + 1) t else if c = 73 then some (((n : Int),[]),t) else if c = 76 then classP n t else none

def firstR (l : List UInt8) : Ty × List UInt8 × Bool:=match firstP 0 l with | some (t,rest)=>(t,rest,true) | none=>((0,[]),[],false)

theorem index_semi (t : List UInt8) : Lib.indexByte t 59 = if t.dropWhile (· != 59) = [] then -1 else ((t.takeWhile (· != 59)).length : Int):=by
 induction t with
 | nil=>rfl
 | cons a t ih=>
  unfold Lib.indexByte
  by_cases h : a = 59
  ·simp [h]
  ·have h1 : (a == 59) = false:=by simpa using h
   have h2 : (a != 59) = true:=by simpa using h
   rw [h1,ih,List.dropWhile_cons_of_pos (by simpa using h2),List.takeWhile_cons_of_pos (by simpa using h2)]
   by_cases h3 : t.dropWhile (· != 59) = []
   ·simp [h3]
   ·simp only [h3,if_false,Bool.false_eq_true,List.length_cons]
    have : (((t.takeWhile (· != 59)).length : Int) == -1) = false:=by rw [beq_eq_false_iff_ne]; omega
    rw [this]
    simp

theorem take_while (t : List UInt8) : t.take (t.takeWhile (· != 59)).length = t.takeWhile (· != 59):=by
 have h:=List.takeWhile_append_dropWhile (p:=(· != 59)) (l:=t)
 generalize t.takeWhile (· != 59) = a at *
 generalize t.dropWhile (· != 59) = b at *
 rw [← h]
 simp

theorem drop_while (t : List UInt8) : t.drop (t.takeWhile (· != 59)).length = t.dropWhile (· != 59):=by
 have h:=List.takeWhile_append_dropWhile (p:=(· != 59)) (l:=t)
 generalize t.takeWhile (· != 59) = a at *
 generalize t.dropWhile (· != 59) = b at *
 rw [← h]
 simp

theorem while_le (t : List UInt8) : (t.takeWhile (· != 59)).length + (t.dropWhile (· != 59)).length = t.length:=by
 have h:=List.takeWhile_append_dropWhile (p:=(· != 59)) (l:=t)
 generalize t.takeWhile (· != 59) = a at *
 generalize t.dropWhile (· != 59) = b at *
 rw [← h]
 simp

/-- A type in block b. -/
structure TyAt (w : World) (b : Nat) (t : Ty) : Prop where
 c0 : w.cell? ⟨b,0,none⟩ = some (.int .i64 t.1)
 c1 : w.cell? ⟨b,1,none⟩ = some (.string (str t.2))
 f0 : w.frozen? ⟨b,0,none⟩ = false
 f1 : w.frozen? ⟨b,1,none⟩ = false

def strLen : Value→Nat | .string s=>s.size | _=>0

/-- What holds at each label. -/
def FJ (w : World) (l : List UInt8) : Nat→Act→World→Prop
 | 1,a,w'=>∃ (n : Nat) (l' : List UInt8) (u1 u5 u6 u7 u8 u9 u10 u11 u12 u13 u14 u15 u16 u17 u18 u19 u20 u21 u22 u23 u24 u25 u26 u27 u28 u29 u30 u31 u32 u33 u34 u35 u36 u37 u38 u39 u40 u41 u42 u43 u44 u45 u46 u47 u48 u49 u50 : Value),a = { tmps:=#[.string (str l'),u1,.pointer (some ⟨w.heap.size,0,none⟩),.string ⟨#[]⟩,.bool false,u5,u6,u7,u8,u9,u10,u11,u12,u13,u14,u15,u16,u17,u18,u19,u20,u21,u22,u23,u24,u25,u26,u27,u28,u29,u30,u31,u32,u33,u34,u35,u36,u37,u38,u39,u40,u41,u42,u43,u44,u45,u46,u47,u48,u49,u50],defers:=[] }∧TyAt w' w.heap.size ((n : Int),[])∧Only [] w w'∧firstP n l' = firstP 0 l∧n≤9∧l'.length≤l.length
 | 2,a,w'=>∃ (n : Nat) (l' : List UInt8) (u1 u5 u6 u7 u8 u9 u10 u11 u12 u13 u14 u15 u16 u17 u18 u19 u20 u21 u22 u23 u24 u25 u26 u27 u28 u29 u30 u31 u32 u33 u34 u35 u36 u37 u38 u39 u40 u41 u42 u43 u44 u45 u46 u47 u48 u49 u50 : Value),a = { tmps:=#[.string (str (76 :: l')),u1,.pointer (some ⟨w.heap.size,0,none⟩),.string ⟨#[]⟩,.bool false,u5,u6,u7,u8,u9,u10,u11,u12,u13,u14,u15,u16,u17,u18,u19,u20,u21,u22,u23,u24,u25,u26,u27,u28,u29,u30,u31,u32,u33,u34,u35,u36,u37,u38,u39,u40,u41,u42,u43,u44,u45,u46,u47,u48,u49,u50],defers:=[] }∧TyAt w' w.heap.size ((n : Int),[])∧Only [] w w'∧classP n l' = firstP 0 l∧n≤8∧l'.length + 1≤l.length
 | 0,a,w'=>∃ (t : Ty) (u0 u1 u3 u4 u5 u6 u7 u8 u9 u10 u11 u12 u13 u14 u15 u16 u17 u18 u19 u20 u21 u22 u23 u24 u25 u26 u27 u28 u29 u30 u31 u32 u33 u34 u35 u36 u37 u38 u39 u40 u41 u42 u43 u44 u45 u46 u47 u48 u49 u50 : Value),a = { tmps:=#[u0,u1,.pointer (some ⟨w.heap.size,0,none⟩),u3,u4,u5,u6,u7,u8,u9,u10,u11,u12,u13,u14,u15,u16,u17,u18,u19,u20,u21,u22,u23,u24,u25,u26,u27,u28,u29,u30,u31,u32,u33,u34,u35,u36,u37,u38,u39,u40,u41,u42,u43,u44,u45,u46,u47,u48,u49,u50],defers:=[] }∧TyAt w' w.heap.size t∧Only [] w w'∧firstP 0 l = none
 | _,_,_=>False

def Fμ : Nat→Act→World→Nat
 | 1,a,_=>2 + strLen (a.tmps.getD 0 undef)
 | 2,_,_=>1
 | _,_,_=>0

set_option maxHeartbeats 1000000 in
set_option maxRecDepth 100000 in
theorem first_any (l : List UInt8) (hl : l.length≤9223372036854775807) (w : World) : Calls Tryz.prog 184 #[.string (str l)] w fun e w'=>e = .returned (.tuple #[tyV (firstR l).1,.string (str (firstR l).2.1),.bool (firstR l).2.2])∧Only [] w w':=by
 go_enter Tryz.func184,Tryz.ntmps184
 go_wp2
 refine wp_scope_multi (FJ w l) Fμ ?_ ?_
 ·intro lb a w' hJ
  obtain _ | _ | _ | lb:=lb
  ·
   obtain ⟨t,u0,u1,u3,u4,u5,u6,u7,u8,u9,u10,u11,u12,u13,u14,u15,u16,u17,u18,u19,u20,u21,u22,u23,u24,u25,u26,u27,u28,u29,u30,u31,u32,u33,u34,u35,u36,u37,u38,u39,u40,u41,u42,u43,u44,u45,u46,u47,u48,u49,u50,rfl,hT,hO,hR⟩:=hJ
   refine ⟨_,rfl,?_⟩
   obtain ⟨c0,c1,f0,f1⟩:=hT
   go_wp2
   obtain ⟨d0,d1⟩:=put2 (.int .i64 0) (.string ⟨#[]⟩) c0 c1 (by omega)
   simp only [Exit.jumps]
   refine bodyPost_ret (v:=.tuple #[.agg #[.int .i64 0,.string ⟨#[]⟩],.string ⟨#[]⟩,.bool false]) (by simp [results,Tryz.results184,go_sem,d0,d1]) rfl ⟨?_,(hO.setCell (.inr (by simp)) _).setCell (.inr (by simp)) _⟩
   simp [firstR,hR,tyV,str]
  ·
   obtain ⟨n,l',u1,u5,u6,u7,u8,u9,u10,u11,u12,u13,u14,u15,u16,u17,u18,u19,u20,u21,u22,u23,u24,u25,u26,u27,u28,u29,u30,u31,u32,u33,u34,u35,u36,u37,u38,u39,u40,u41,u42,u43,u44,u45,u46,u47,u48,u49,u50,rfl,hT,hO,hR,hn,hlen⟩:=hJ
   refine ⟨_,rfl,?_⟩
   have HT:=hid hT
   obtain ⟨c0,c1,f0,f1⟩:=hT
   have HR:=hid hR
   clear hR
   have ht:=str_toList l'
   cases l' with
   | nil=>
    go_wp2
    apply wp_goto
    refine ⟨⟨((n : Int),[]),_,_,_,_,_,_,_,_,_,_,_,_,_,_,_,_,_,_,_,_,_,_,_,_,_,_,_,_,_,_,_,_,_,_,_,_,_,_,_,_,_,_,_,_,_,_,_,_,_,_,rfl,HT.out,hO,?_⟩,?_⟩
    ·rw [← HR.out]
     rfl
    ·show 0 < 2 + _
     omega
   | cons c t=>
    have hcz : ¬ ((c :: t) = []):=by simp
    by_cases hn8 : 8 < n
    ·have g8 : (8 < (n : Int)):=by omega
     go_wp2
     apply wp_goto
     refine ⟨⟨((n : Int),[]),_,_,_,_,_,_,_,_,_,_,_,_,_,_,_,_,_,_,_,_,_,_,_,_,_,_,_,_,_,_,_,_,_,_,_,_,_,_,_,_,_,_,_,_,_,_,_,_,_,_,rfl,HT.out,hO,?_⟩,?_⟩
     ·rw [← HR.out]
      simp [firstP,hn8]
     ·show 0 < 2 + _
      omega
    have g8 : ¬ (8 < (n : Int)):=by omega
    have ha:=run_at (c :: t) 0 (by simp)
    rw [show ((0 : Nat) : Int) = 0 from rfl,List.getElem_cons_zero] at ha
    have hr:=run_from (c :: t) 1 (by simp)
    rw [show ((1 : Nat) : Int) = 1 from rfl,List.drop_one,List.tail_cons] at hr
    by_cases h91 : c = 91
    ·subst h91
     have e1 : (91 : UInt8).toNat = 91:=rfl
     go_wp2
     apply wp_goto
     refine ⟨⟨n + 1,t,_,_,_,_,_,_,_,_,_,_,_,_,_,_,_,_,_,_,_,_,_,_,_,_,_,_,_,_,_,_,_,_,_,_,_,_,_,_,_,_,_,_,_,_,_,_,_,rfl,⟨?_,?_,?_,?_⟩,hO.setCell (.inr (by simp)) _,?_,by omega,?_⟩,?_⟩
     ·rw [cell_setCell_same _ _ c0]
      rfl
     ·rw [cell_setCell_ne _ _ (by simp)]
      exact c1
     ·rw [frozen_setCell]
      exact f0
     ·rw [frozen_setCell]
      exact f1
     ·rw [← HR.out]
      simp [firstP,hn8]
     ·simp at hlen
      omega
     ·show 2 + strLen (.string (str t)) < 2 + strLen (.string (str (91 :: t)))
      simp [strLen,str_size]
    have k91 : ¬ ((c.toNat : Int) = 91):=fun e=>h91 (UInt8.toNat_inj.1 (by simpa using Int.ofNat_inj.1 e))
    by_cases h73 : c = 73
    ·subst h73
     have e1 : (73 : UInt8).toNat = 73:=rfl
     go_wp2
     go_region
     all_goals
      go_wp2
      obtain ⟨d0,d1⟩:=put2 (.int .i64 (n : Int)) (.string (str [])) c0 c1 (by omega)
      simp only [Exit.jumps]
      refine bodyPost_ret (v:=.tuple #[.agg #[.int .i64 (n : Int),.string (str [])],.string (str t),.bool true]) (by simp [results,Tryz.results184,go_sem,d0,d1]) rfl ⟨?_,((hO.setCell (.inr (by simp)) _).setCell (.inr (by simp)) _).drew⟩
      have hq : firstP 0 l = some (((n : Int),[]),t):=by
       rw [← HR.out]
       simp [firstP,hn8]
      simp [firstR,hq,tyV]
    have k73 : ¬ ((c.toNat : Int) = 73):=fun e=>h73 (UInt8.toNat_inj.1 (by simpa using Int.ofNat_inj.1 e))
    by_cases h76 : c = 76
    ·subst h76
     have e1 : (76 : UInt8).toNat = 76:=rfl
     go_wp2
     apply wp_goto
     refine ⟨⟨n,t,_,_,_,_,_,_,_,_,_,_,_,_,_,_,_,_,_,_,_,_,_,_,_,_,_,_,_,_,_,_,_,_,_,_,_,_,_,_,_,_,_,_,_,_,_,_,_,rfl,HT.out,hO,?_,by omega,?_⟩,?_⟩
     ·rw [← HR.out]
      simp [firstP,hn8]
     ·simpa using hlen
     ·show 1 < 2 + _
      omega
    have k76 : ¬ ((c.toNat : Int) = 76):=fun e=>h76 (UInt8.toNat_inj.1 (by simpa using Int.ofNat_inj.1 e))
    go_wp2
    apply wp_goto
    refine ⟨⟨((n : Int),[]),_,_,_,_,_,_,_,_,_,_,_,_,_,_,_,_,_,_,_,_,_,_,_,_,_,_,_,_,_,_,_,_,_,_,_,_,_,_,_,_,_,_,_,_,_,_,_,_,_,_,rfl,HT.out,hO,?_⟩,?_⟩
    ·rw [← HR.out]
     simp [firstP,h91,h73,h76]
    ·show 0 < 2 + _
     omega
  ·
   obtain ⟨n,l',u1,u5,u6,u7,u8,u9,u10,u11,u12,u13,u14,u15,u16,u17,u18,u19,u20,u21,u22,u23,u24,u25,u26,u27,u28,u29,u30,u31,u32,u33,u34,u35,u36,u37,u38,u39,u40,u41,u42,u43,u44,u45,u46,u47,u48,u49,u50,rfl,hT,hO,hR,hn,hlen⟩:=hJ
   refine ⟨_,rfl,?_⟩
   have HT:=hid hT
   obtain ⟨c0,c1,f0,f1⟩:=hT
   have HR:=hid hR
   clear hR
   have HI:=hid (index_any (76 :: l') 59 w')
   have hix : Lib.indexByte (76 :: l') 59 = if l'.dropWhile (· != 59) = [] then -1 else (((l'.takeWhile (· != 59)).length : Int) + 1):=by
    unfold Lib.indexByte
    rw [index_semi]
    by_cases hz : l'.dropWhile (· != 59) = []
    ·rw [if_pos hz,if_pos hz]
     rfl
    ·rw [if_neg hz,if_neg hz]
     have : (((l'.takeWhile (· != 59)).length : Int) == -1) = false:=by rw [beq_eq_false_iff_ne]; omega
     rw [this]
     rfl
   have hwl:=while_le l'
   have htw:=take_while l'
   have hdw:=drop_while l'
   rw [hix] at HI
   by_cases hz : l'.dropWhile (· != 59) = []
   ·rw [if_pos hz] at HI
    go_wp2_with (go_at_call 203; refine HI.out.mono ?_; rintro e w2 ⟨rfl,rfl⟩)
    apply wp_goto
    refine ⟨⟨((n : Int),[]),_,_,_,_,_,_,_,_,_,_,_,_,_,_,_,_,_,_,_,_,_,_,_,_,_,_,_,_,_,_,_,_,_,_,_,_,_,_,_,_,_,_,_,_,_,_,_,_,_,_,rfl,HT.out,hO,?_⟩,?_⟩
    ·rw [← HR.out]
     simp only [classP,hz]
     simp
    ·exact Nat.one_pos
   ·rw [if_neg hz] at HI
    have hzl : 0 < (l'.dropWhile (· != 59)).length:=List.length_pos_iff.2 hz
    have hk1:=run_part (76 :: l') 1 ((l'.takeWhile (· != 59)).length + 1) (by omega) (by simp; omega)
    have hk2:=run_from (76 :: l') ((l'.takeWhile (· != 59)).length + 2) (by simp; omega)
    have e1 : (76 :: l').drop ((l'.takeWhile (· != 59)).length + 2) = (l'.dropWhile (· != 59)).drop 1:=by
     rw [← hdw,List.drop_drop]
     rfl
    have HN:=hid (name_any (l'.takeWhile (· != 59)) (by omega) w')
    have HC : Hid (nameOK (l'.takeWhile (· != 59)) = false→classP n l' = none):=fun h=>by simp [classP,h]
    have HD : Hid (nameOK (l'.takeWhile (· != 59)) = true→classP n l' = some (((n : Int),l'.takeWhile (· != 59)),(l'.dropWhile (· != 59)).drop 1)):=fun h=>by simp [classP,h,hz]
    rw [e1] at hk2
    rw [List.drop_one,List.tail_cons,Nat.add_sub_cancel,htw] at hk1
    clear htw hdw e1 hix
    generalize (l'.dropWhile (· != 59)) = R at *
    generalize (l'.takeWhile (· != 59)) = T at *
    have g0 : ¬ ((T.length : Int) + 1 < 0):=by omega
    simp only [Int.natCast_add,Int.cast_ofNat_Int] at hk1 hk2
    cases hN : nameOK T with
    | false=>
     rw [hN] at HN
     go_wp2_with (first | (go_at_call 203; refine HI.out.mono ?_; rintro e w2 ⟨rfl,rfl⟩) | (go_at_call 109; refine HN.out.mono ?_; rintro e w2 ⟨rfl,rfl⟩))
     apply wp_goto
     refine ⟨⟨((n : Int),[]),_,_,_,_,_,_,_,_,_,_,_,_,_,_,_,_,_,_,_,_,_,_,_,_,_,_,_,_,_,_,_,_,_,_,_,_,_,_,_,_,_,_,_,_,_,_,_,_,_,_,rfl,HT.out,hO,?_⟩,?_⟩
     ·rw [← HR.out]
      exact HC.out hN
     ·exact Nat.one_pos
    | true=>
     rw [hN] at HN
     go_wp2_with (first | (go_at_call 203; refine HI.out.mono ?_; rintro e w2 ⟨rfl,rfl⟩) | (go_at_call 109; refine HN.out.mono ?_; rintro e w2 ⟨rfl,rfl⟩))
     have hk3:=hk2
     rw [show (T.length : Int) + 2 = (T.length : Int) + 1 + 1 by omega] at hk3
     go_region
     all_goals
      go_wp2
      have z0 : (w2.setCell ⟨w.heap.size,1,none⟩ (.string (str T))).cell? ⟨w.heap.size,0,none⟩ = some (.int .i64 (n : Int)):=by rw [cell_setCell_ne _ _ (by simp)]; exact c0
      have z1 : (w2.setCell ⟨w.heap.size,1,none⟩ (.string (str T))).cell? ⟨w.heap.size,1,none⟩ = some (.string (str T)):=cell_setCell_same _ _ c1
      obtain ⟨d0,d1⟩:=put2 (.int .i64 (n : Int)) (.string (str T)) z0 z1 (by omega)
      simp only [Exit.jumps]
      refine bodyPost_ret (v:=.tuple #[.agg #[.int .i64 (n : Int),.string (str T)],.string (str (R.drop 1)),.bool true]) (by simp [results,Tryz.results184,go_sem,d0,d1]) rfl ⟨?_,(((hO.setCell (.inr (by simp)) _).setCell (.inr (by simp)) _).setCell (.inr (by simp)) _).drew⟩
      have hq : firstP 0 l = some (((n : Int),T),R.drop 1):=by
       rw [← HR.out]
       exact HD.out hN
      simp [firstR,hq,tyV]
  ·exact hJ.elim
 ·intro hj
  go_wp2
  apply wp_label
  rename_i hK
  refine hK _ _ (hj 1 _ _ _ rfl ⟨0,l,_,_,_,_,_,_,_,_,_,_,_,_,_,_,_,_,_,_,_,_,_,_,_,_,_,_,_,_,_,_,_,_,_,_,_,_,_,_,_,_,_,_,_,_,_,_,_,rfl,⟨by simp,by simp; rfl,by simp,by simp⟩,(Only.refl [] w).alloc _,rfl,by omega,Nat.le_refl _⟩)


def typeR (l : List UInt8) : Ty × Int:=match firstP 0 l with | some (t,[])=>(t,0) | _=>((0,[]),15)

set_option maxHeartbeats 1000000 in
theorem type_any (l : List UInt8) (hl : l.length≤9223372036854775807) (w : World) : Calls Tryz.prog 161 #[.string (str l)] w fun e w'=>e = .returned (.tuple #[tyV (typeR l).1,.int .i64 (typeR l).2])∧Only [] w w':=by
 have HF:=hid (first_any l hl (w.alloc (.cells #[.int .i64 0,.string ⟨#[]⟩] 35)))
 cases hp : firstP 0 l with
 | none=>
  have e1 : firstR l = ((0,[]),[],false):=by simp [firstR,hp]
  have e2 : typeR l = ((0,[]),15):=by simp [typeR,hp]
  rw [e1] at HF
  rw [e2]
  simp only [tyV] at HF ⊢
  go_enter Tryz.func161,Tryz.ntmps161
  go_wp2_with fail
  refine HF.out.mono ?_
  rintro e w1 ⟨rfl,ho1⟩
  have c0 : w1.cell? ⟨w.heap.size,0,none⟩ = some (.int .i64 0):=by rw [ho1.cell (by simp) (by simp)]; simp
  have c1 : w1.cell? ⟨w.heap.size,1,none⟩ = some (.string ⟨#[]⟩):=by rw [ho1.cell (by simp) (by simp)]; simp
  have f0 : w1.frozen? ⟨w.heap.size,0,none⟩ = false:=by rw [ho1.frozen (by simp) (by simp)]; simp
  have f1 : w1.frozen? ⟨w.heap.size,1,none⟩ = false:=by rw [ho1.frozen (by simp) (by simp)]; simp
  have hsz:=ho1.size
  simp at hsz
  have o1:=((Only.refl [] w).alloc (.cells #[.int .i64 0,.string ⟨#[]⟩] 35)).next ho1 (by simp)
  have c0' : ∀ o,(w1.alloc o).cell? ⟨w.heap.size,0,none⟩ = some (.int .i64 0):=fun o=>cell_alloc o c0
  have c1' : ∀ o,(w1.alloc o).cell? ⟨w.heap.size,1,none⟩ = some (.string ⟨#[]⟩):=fun o=>cell_alloc o c1
  have f0' : ∀ o,(w1.alloc o).frozen? ⟨w.heap.size,0,none⟩ = false:=fun o=>by rw [frozen_alloc o (show w.heap.size < w1.heap.size by omega)]; exact f0
  have f1' : ∀ o,(w1.alloc o).frozen? ⟨w.heap.size,1,none⟩ = false:=fun o=>by rw [frozen_alloc o (show w.heap.size < w1.heap.size by omega)]; exact f1
  go_wp2
  obtain ⟨d0,d1⟩:=put2 (.int .i64 0) (.string ⟨#[]⟩) (c0' (.cells #[.int .i64 0,.string (str [])] 35)) (c1' _) (by omega)
  refine bodyPost_ret (v:=.tuple #[.agg #[.int .i64 0,.string ⟨#[]⟩],.int .i64 15]) (by simp [results,Tryz.results161,go_sem,d0,d1]) rfl ⟨rfl,((o1.alloc _).setCell (.inr (by simp)) _).setCell (.inr (by simp)) _⟩
 | some x=>
  obtain ⟨t,r⟩:=x
  have e1 : firstR l = (t,r,true):=by simp [firstR,hp]
  have e2 : typeR l = if r = [] then (t,0) else ((0,[]),15):=by
   simp only [typeR,hp]
   cases r <;> simp
  rw [e1] at HF
  rw [e2]
  have ht:=str_toList r
  have HP:=hid hp
  clear hp
  by_cases hr : r = []
  ·subst hr
   obtain ⟨d,n⟩:=t
   simp only [tyV,if_true] at HF ⊢
   go_enter Tryz.func161,Tryz.ntmps161
   go_wp2_with fail
   refine HF.out.mono ?_
   rintro e w1 ⟨rfl,ho1⟩
   have c0 : w1.cell? ⟨w.heap.size,0,none⟩ = some (.int .i64 0):=by rw [ho1.cell (by simp) (by simp)]; simp
   have c1 : w1.cell? ⟨w.heap.size,1,none⟩ = some (.string ⟨#[]⟩):=by rw [ho1.cell (by simp) (by simp)]; simp
   have f0 : w1.frozen? ⟨w.heap.size,0,none⟩ = false:=by rw [ho1.frozen (by simp) (by simp)]; simp
   have f1 : w1.frozen? ⟨w.heap.size,1,none⟩ = false:=by rw [ho1.frozen (by simp) (by simp)]; simp
   have hsz:=ho1.size
   simp at hsz
   have o1:=((Only.refl [] w).alloc (.cells #[.int .i64 0,.string ⟨#[]⟩] 35)).next ho1 (by simp)
   have c0' : ∀ o,(w1.alloc o).cell? ⟨w.heap.size,0,none⟩ = some (.int .i64 0):=fun o=>cell_alloc o c0
   have c1' : ∀ o,(w1.alloc o).cell? ⟨w.heap.size,1,none⟩ = some (.string ⟨#[]⟩):=fun o=>cell_alloc o c1
   have f0' : ∀ o,(w1.alloc o).frozen? ⟨w.heap.size,0,none⟩ = false:=fun o=>by rw [frozen_alloc o (show w.heap.size < w1.heap.size by omega)]; exact f0
   have f1' : ∀ o,(w1.alloc o).frozen? ⟨w.heap.size,1,none⟩ = false:=fun o=>by rw [frozen_alloc o (show w.heap.size < w1.heap.size by omega)]; exact f1
   go_wp2
   obtain ⟨d0,d1⟩:=put2 (.int .i64 d) (.string (str n)) (c0' (.cells #[.int .i64 d,.string (str n)] 35)) (c1' _) (by omega)
   refine bodyPost_ret (v:=.tuple #[.agg #[.int .i64 d,.string (str n)],.int .i64 0]) (by simp [results,Tryz.results161,go_sem,d0,d1]) rfl ⟨rfl,((o1.alloc _).setCell (.inr (by simp)) _).setCell (.inr (by simp)) _⟩
  ·have hri : r.isEmpty = false:=by simpa using hr
   obtain ⟨d,n⟩:=t
   simp only [tyV,hr,if_false] at HF ⊢
   go_enter Tryz.func161,Tryz.ntmps161
   go_wp2_with fail
   refine HF.out.mono ?_
   rintro e w1 ⟨rfl,ho1⟩
   have c0 : w1.cell? ⟨w.heap.size,0,none⟩ = some (.int .i64 0):=by rw [ho1.cell (by simp) (by simp)]; simp
   have c1 : w1.cell? ⟨w.heap.size,1,none⟩ = some (.string ⟨#[]⟩):=by rw [ho1.cell (by simp) (by simp)]; simp
   have f0 : w1.frozen? ⟨w.heap.size,0,none⟩ = false:=by rw [ho1.frozen (by simp) (by simp)]; simp
   have f1 : w1.frozen? ⟨w.heap.size,1,none⟩ = false:=by rw [ho1.frozen (by simp) (by simp)]; simp
   have hsz:=ho1.size
   simp at hsz
   have o1:=((Only.refl [] w).alloc (.cells #[.int .i64 0,.string ⟨#[]⟩] 35)).next ho1 (by simp)
   have c0' : ∀ o,(w1.alloc o).cell? ⟨w.heap.size,0,none⟩ = some (.int .i64 0):=fun o=>cell_alloc o c0
   have c1' : ∀ o,(w1.alloc o).cell? ⟨w.heap.size,1,none⟩ = some (.string ⟨#[]⟩):=fun o=>cell_alloc o c1
   have f0' : ∀ o,(w1.alloc o).frozen? ⟨w.heap.size,0,none⟩ = false:=fun o=>by rw [frozen_alloc o (show w.heap.size < w1.heap.size by omega)]; exact f0
   have f1' : ∀ o,(w1.alloc o).frozen? ⟨w.heap.size,1,none⟩ = false:=fun o=>by rw [frozen_alloc o (show w.heap.size < w1.heap.size by omega)]; exact f1
   go_wp2
   obtain ⟨d0,d1⟩:=put2 (.int .i64 0) (.string ⟨#[]⟩) (c0' (.cells #[.int .i64 d,.string (str n)] 35)) (c1' _) (by omega)
   refine bodyPost_ret (v:=.tuple #[.agg #[.int .i64 0,.string ⟨#[]⟩],.int .i64 15]) (by simp [results,Tryz.results161,go_sem,d0,d1]) rfl ⟨rfl,((o1.alloc _).setCell (.inr (by simp)) _).setCell (.inr (by simp)) _⟩

end Go.Proofs.YtildemmkhndhjaaGreatDoor
