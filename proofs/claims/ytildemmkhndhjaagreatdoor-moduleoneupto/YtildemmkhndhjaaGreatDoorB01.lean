/-
  What the proof leans on, part 1 of 28. The conditions stand in each theorem.
-/
import Derived.Test.YtildemmkhndhjaaGreatDoorRows
import Derived.WalkSpells
import Derived.Lib.Strings
import Derived.Lib.Bytealg
import Derived.Lib.Walk
import Derived.WalkKit
import Derived.Below
import Derived.Outline
import Derived.LaidEql
import Derived.Stop.Asserts
import Derived.RowKitTokens
import Derived.ChangeSame
import Derived.ChangeVars
import Derived.JoinedOf
import Derived.RowKit
import Derived.LaidLaws
import Derived.LaidHandle
import Derived.Lib.LaidTab
import Derived.Deep.DeepHandedRow
import Derived.Deep.DeepWitnessRowRef
import Derived.SevenTiedAt
import Derived.ProofKit
import Derived.OpenShut
import Derived.ShutString
import Derived.ChangeOld
import Derived.ChangeMaps5
import Derived.SizedLaws
import Derived.SliceStrings
import Derived.Deep.Strs
import Derived.Laws.AppendOwnNone
import Derived.Laws.OwnMore
import Derived.Deep.RegionLaw
import Derived.Laws.BitsAllLaws
import Derived.Laws.Bits64
namespace Go.Proofs.YtildemmkhndhjaaGreatDoor
open Go.RowKit

theorem hid {p : Prop} (h : p) : Hid p := h

/-- Of the blocks that were there only those in S may have turned. -/
structure Only (S : List Nat) (w w' : World) : Prop where
 os : w'.os = w.os
 tape : w'.tape = w.tape
 output : w'.output = w.output
 size : w.heap.size ≤ w'.heap.size
 block : ∀ k, k < w.heap.size → k ∉ S → w'.heap[k]? = w.heap[k]?

theorem Only.refl (S : List Nat) (w : World) : Only S w w := ⟨rfl, rfl, rfl, Nat.le_refl _, fun _ _ _ => rfl⟩

theorem Only.trans {S S' : List Nat} {a b c : World} (h : Only S a b) (k : Only S' b c) (hs : ∀ x, x ∈ S' → x ∈ S ∨ a.heap.size ≤ x) : Only S a c :=
 ⟨k.os.trans h.os, k.tape.trans h.tape, k.output.trans h.output, Nat.le_trans h.size k.size, fun i hi hn => by
  rw [k.block i (Nat.lt_of_lt_of_le hi h.size) (fun hm => by rcases hs i hm with q | q <;> first | exact hn q | omega)]
  exact h.block i hi hn⟩

theorem Only.mono {S S' : List Nat} {a b : World} (h : Only S a b) (hs : ∀ x, x ∈ S → x ∈ S' ∨ a.heap.size ≤ x) : Only S' a b :=
 ⟨h.os, h.tape, h.output, h.size, fun i hi hn => h.block i hi fun hm => by rcases hs i hm with q | q <;> first | exact hn q | omega⟩

/-- Blocks that were not there may turn. -/
theorem Only.next {S S' : List Nat} {w a b : World} (h : Only S w a) (k : Only S' a b) (hs : ∀ x, x ∈ S' → w.heap.size ≤ x) : Only S w b := h.trans k fun x hx => .inr (hs x hx)

theorem Only.alloc {S : List Nat} {a w : World} (h : Only S a w) (o : Obj) : Only S a (w.alloc o) :=
 h.trans (S' := []) ⟨rfl, rfl, rfl, by simp, fun k hk _ => Below.heap_alloc _ _ _ hk⟩ (fun _ hx => by cases hx)

theorem Only.drew {S : List Nat} {a w : World} (h : Only S a w) : Only S a w.drew := ⟨h.os, h.tape, h.output, h.size, h.block⟩

theorem Only.setCell {S : List Nat} {a w : World} (h : Only S a w) {p : Addr} (hp : p.block ∈ S ∨ a.heap.size ≤ p.block) (u : Value) : Only S a (w.setCell p u) :=
 h.trans (S' := [p.block]) ⟨rfl, rfl, rfl, by simp [World.setCell], fun k _ hk => Below.heap_setCell _ _ _ _ (by simpa using hk)⟩ (fun x hx => by simp at hx; subst hx; exact hp)

theorem Only.cell {S : List Nat} {w w' : World} (h : Only S w w') {p : Addr} (hp : p.block < w.heap.size) (hn : p.block ∉ S) : w'.cell? p = w.cell? p := World.cell?_of_block (h.block p.block hp hn)

theorem Only.frozen {S : List Nat} {w w' : World} (h : Only S w w') {p : Addr} (hp : p.block < w.heap.size) (hn : p.block ∉ S) : w'.frozen? p = w.frozen? p := World.frozen?_of_block (h.block p.block hp hn)

theorem Only.below {S : List Nat} {B : Nat} {w w' : World} (h : Only S w w') (hB : B ≤ w.heap.size) (hs : ∀ x, x ∈ S → B ≤ x) : Below B w w' :=
 ⟨h.os, h.tape, h.output, h.size, fun k hk => h.block k (by omega) fun hm => by have := hs k hm; omega⟩

theorem Only.of_grown {w w' : World} {row : Option Nat} (h : w.grownBy w' row) : Only row.toList w w' :=
 ⟨h.os, h.tape, h.output, h.size, fun k hk hn => h.block k hk (fun e => hn (by rw [← e]; simp))⟩

theorem cell_setCell_ne (w : World) {a b : Addr} (u : Value) (h : b ≠ a) : (w.setCell b u).cell? a = w.cell? a := World.cell?_setCell_other _ _ _ _ h
theorem cell_setCell_same (w : World) {a : Addr} (u : Value) {v : Value} (h : w.cell? a = some v) : (w.setCell a u).cell? a = some u := World.cell?_setCell_same _ _ _ h
theorem frozen_setCell (w : World) (a b : Addr) (u : Value) : (w.setCell b u).frozen? a = w.frozen? a := by simp
theorem cell_new (w : World) (cs : Array Value) (t : TypeId) (j : Nat) : (w.alloc (.cells cs t)).cell? ⟨w.heap.size, j, none⟩ = cs[j]? := World.cell?_alloc_new w cs t j
theorem frozen_new (w : World) (cs : Array Value) (t : TypeId) (j : Nat) : (w.alloc (.cells cs t)).frozen? ⟨w.heap.size, j, none⟩ = false := by simp
theorem cell_alloc {w : World} {a : Addr} {u : Value} (o : Obj) (h : w.cell? a = some u) : (w.alloc o).cell? a = some u := by
 rw [World.cell?_alloc_lt _ _ _ (World.block_lt_of_cell? w a h)]
 exact h

theorem frozen_alloc {w : World} {a : Addr} (o : Obj) (h : a.block < w.heap.size) : (w.alloc o).frozen? a = w.frozen? a := World.frozen?_alloc_old w o a (Nat.ne_of_lt h)

theorem put2 {w : World} {b i j : Nat} {x y : Value} (u v : Value) (c0 : w.cell? ⟨b, i, none⟩ = some x) (c1 : w.cell? ⟨b, j, none⟩ = some y) (h : i ≠ j) :
  ((w.setCell ⟨b, i, none⟩ u).setCell ⟨b, j, none⟩ v).cell? ⟨b, i, none⟩ = some u ∧ ((w.setCell ⟨b, i, none⟩ u).setCell ⟨b, j, none⟩ v).cell? ⟨b, j, none⟩ = some v := by
 refine ⟨?_, cell_setCell_same _ _ (by rw [cell_setCell_ne _ _ (by simp)]; exact c1)⟩
 rw [cell_setCell_ne _ _ (by simp)]
 exact cell_setCell_same _ _ c0

/-- A text of these bytes. -/
def str (l : List UInt8) : ByteArray := ⟨l.toArray⟩

theorem str_size (l : List UInt8) : (str l).size = l.length := by simp [str, ByteArray.size]
theorem str_toList (l : List UInt8) : (str l).toList = l := by simp [str]
theorem str_data (l : List UInt8) : (str l).data.toList = l := by simp [str]
theorem str_get (l : List UInt8) (j : Nat) (h : j < (str l).size) : (str l)[j] = l[j]'(by rw [str_size] at h; exact h) := by
 simp [str, ByteArray.getElem_eq_getElem_data]
theorem str_extract (l : List UInt8) (a b : Nat) : (str l).extract a b = str ((l.drop a).take (b - a)) := ByteArray.extract_mk l a b
theorem str_of (s : ByteArray) : s = str s.data.toList := by
 apply ByteArray.ext
 simp [str]

/-- A byte of a text. -/
theorem run_at (l : List UInt8) (j : Nat) (h : j < l.length) (w : World) : (Instr.index 9 (.string (str l)) (.int .i64 (j : Int))).run Tryz.prog w = .ok (.int .u8 (l[j].toNat : Int)) w := by
 rw [run_index_string w _ _ _ _ Tryz.underlying9, dif_pos ⟨by omega, by rw [str_size]; omega⟩]
 simp only [Int.toNat_natCast, str_get]

/-- A text from a place on. -/
theorem run_from (l : List UInt8) (j : Nat) (h : j ≤ l.length) (w : World) : (Instr.slice 9 (.string (str l)) (some (.int .i64 (j : Int))) none none).run Tryz.prog w = .ok (.string (str (l.drop j))) w := by
 have := str_size l
 have e : (str l).extract j l.length = str (l.drop j) := by rw [str_extract, List.take_of_length_le (by simp)]
 simp [Instr.slice, run_underlying Tryz.underlying9, Instr.sliceBounds, run_sliceBound, this, h, e]

/-- A text from a place to another. -/
theorem run_part (l : List UInt8) (i j : Nat) (h : i ≤ j) (hj : j ≤ l.length) (w : World) : (Instr.slice 9 (.string (str l)) (some (.int .i64 (i : Int))) (some (.int .i64 (j : Int))) none).run Tryz.prog w = .ok (.string (str ((l.drop i).take (j - i)))) w := by
 rw [run_slice_string w _ _ _ _ _ _ Tryz.underlying9 (by omega) (by omega) (by rw [str_size]; omega), str_extract]
 simp

end Go.Proofs.YtildemmkhndhjaaGreatDoor
namespace Go.Proofs.YtildemmkhndhjaaGreatDoor
open Go.RowKit Go.Extern.Stop Go.Stop Go.Extern

/-- The package errors holds the type error. -/
def Ety (w : World) : Prop := w.cell? ⟨0, 0, none⟩ = some (.iface 172 (.agg #[.pointer (some ⟨5, 48, none⟩)]))

theorem Ety.lt {w : World} (h : Ety w) : 0 < w.heap.size := World.block_lt_of_cell? w _ h

theorem Ety.only {w w' : World} {S : List Nat} (h : Ety w) (ho : Only S w w') (hS : 0 ∉ S) : Ety w' := (ho.cell (p := ⟨0, 0, none⟩) h.lt hS).trans h
theorem Ety.only0 {w w' : World} (h : Ety w) (ho : Only [] w w') : Ety w' := h.only ho (by simp)

theorem run_equalIn_iface_int {P : Program} (w : World) (d : Nat) {ti tn : TypeId} {ms : Array (String × TypeId)} {i : TypeInfo} {k : IntKind} (a b : Int)
  (hi : P.underlying ti = some (.interface ms)) (hn : P.underlying tn = some (.int k)) (hinfo : P.info? tn = some i) (hcomp : i.comparable = true) :
  (Op.equalIn (d + 2) ti (.iface tn (.int k a)) (.iface tn (.int k b))).run P w = .ok (a == b) w := by
 simp [Op.equalIn, run_underlying hi, run_underlying hn, typeInfo, hinfo, hcomp]

theorem run_eql_iface_int {P : Program} (w : World) {ti tn : TypeId} {ms : Array (String × TypeId)} {i : TypeInfo} {k : IntKind} (a b : Int)
  (hi : P.underlying ti = some (.interface ms)) (hn : P.underlying tn = some (.int k)) (hinfo : P.info? tn = some i) (hcomp : i.comparable = true) :
  (binOp .eql ti (.iface tn (.int k a)) (.iface tn (.int k b))).run P w = .ok (.bool (a == b)) w := by
 simp only [binOp]
 simp [Op.equal, Op.maxDepth, run_equalIn_iface_int w 9998 a b hi hn hinfo hcomp]

theorem infoErrno : (Tryz.prog.info? 63).map (fun i => i.comparable) = some true := by kernel_rfl
theorem eql_errno (a b : Int) (w : World) : (binOp .eql 48 (.iface 63 (.int .i64 a)) (.iface 63 (.int .i64 b))).run Tryz.prog w = .ok (.bool (a == b)) w := by
 obtain ⟨i, hi, hc⟩ := Option.map_eq_some_iff.1 infoErrno
 exact run_eql_iface_int w a b Tryz.underlying48 Tryz.underlying63 hi hc
theorem eql_bad_errno (v : Value) (b : Int) (w : World) : (binOp .eql 48 (.iface 66 v) (.iface 63 (.int .i64 b))).run Tryz.prog w = .ok (.bool false) w :=
 run_eql_iface_types (P := Tryz.prog) 66 63 v _ Tryz.underlying48 (by decide) w

theorem rlm (z : Sem Value) (f : TypeId → Addr → Nat → Nat → Sem Value) (v : Value) :
  ReflectliteValue.method z f #[v] = (do match ← ReflectliteValue.parts v with | none => z | some (t, a, fl) => f t a fl (fl % 32)) := rfl

theorem mKind (h : Value) (w : World) : (Go.method 464 172 (.agg #[h]) "Kind").run Tryz.prog w = .ok (251, h) w := by kernel_rfl
theorem mElem (h : Value) (w : World) : (Go.method 464 172 (.agg #[h]) "Elem").run Tryz.prog w = .ok (276, .agg #[h]) w := by kernel_rfl
theorem mImpl (h : Value) (w : World) : (Go.method 464 172 (.agg #[h]) "Implements").run Tryz.prog w = .ok (277, .agg #[h]) w := by kernel_rfl
theorem mAssign (h : Value) (w : World) : (Go.method 464 172 (.agg #[h]) "AssignableTo").run Tryz.prog w = .ok (274, .agg #[h]) w := by kernel_rfl
theorem mComp (h : Value) (w : World) : (Go.method 464 172 (.agg #[h]) "Comparable").run Tryz.prog w = .ok (275, .agg #[h]) w := by kernel_rfl

theorem valueOfPP (t : Addr) (w : World) : (ReflectliteValue.unpack (.iface 81 (.pointer (some t)))).run Tryz.prog w
  = .ok (.agg #[.pointer (some ⟨5, 81, none⟩), .pointer (some ⟨w.heap.size, 0, none⟩), .int .u64 150]) (w.alloc (.cells #[.pointer (some t)] 81)) := by kernel_rfl
theorem typePP (a : Addr) (w : World) : (ReflectliteValue.methodAny (ReflectliteValue.valueError "reflectlite.Value.Type" 0) (fun t _ _ _ => ReflectliteType.toType t) #[.agg #[.pointer (some ⟨5, 81, none⟩), .pointer (some a), .int .u64 150]]).run Tryz.prog w
  = .ok (.iface 172 (.agg #[.pointer (some ⟨5, 81, none⟩)])) w := by kernel_rfl
theorem kindPP (w : World) : ((ReflectliteType.abiMethod fun t => (fun a : Nat => Value.int IntKind.u8 (a : Int)) <$> Rtype.kind t) #[.pointer (some ⟨5, 81, none⟩)]).run Tryz.prog w = .ok (.int .u8 22) w := by kernel_rfl
theorem kindP (w : World) : ((ReflectliteType.abiMethod fun t => (fun a : Nat => Value.int IntKind.u8 (a : Int)) <$> Rtype.kind t) #[.pointer (some ⟨5, 66, none⟩)]).run Tryz.prog w = .ok (.int .u8 22) w := by kernel_rfl
theorem partsPP (a : Addr) (w : World) : (ReflectliteValue.parts (.agg #[.pointer (some ⟨5, 81, none⟩), .pointer (some a), .int .u64 150])).run Tryz.prog w = .ok (some (81, a, 150)) w := by kernel_rfl
theorem isNilPP (a p : Addr) (W : World) (ha : W.cell? a = some (.pointer (some p))) :
  (ReflectliteValue.method (ReflectliteValue.valueError "reflectlite.Value.IsNil" 0) ReflectliteValue.isNil #[.agg #[.pointer (some ⟨5, 81, none⟩), .pointer (some a), .int .u64 150]]).run Tryz.prog W = .ok (.bool false) W := by
 rw [rlm]
 simp only [Sem.run_bind, partsPP, Result.andThen]
 simp [ReflectliteValue.isNil, loadVar, isAgg, underlying, Tryz.underlying81, ha, Result.andThen]
theorem elemPP (w : World) : (ReflectliteType.method ReflectliteType.elem #[.agg #[.pointer (some ⟨5, 81, none⟩)]]).run Tryz.prog w = .ok (.iface 172 (.agg #[.pointer (some ⟨5, 66, none⟩)])) w := by kernel_rfl
theorem implP (w : World) : (ReflectliteType.relation "Implements" ReflectliteType.implements_ #[.agg #[.pointer (some ⟨5, 66, none⟩)], .iface 172 (.agg #[.pointer (some ⟨5, 48, none⟩)])]).run Tryz.prog w = .ok (.bool true) w := by kernel_rfl
theorem typeOfP (v : Value) (w : World) : (ReflectliteType.typeOf #[.iface 66 v]).run Tryz.prog w = .ok (.iface 172 (.agg #[.pointer (some ⟨5, 66, none⟩)])) w := by kernel_rfl
theorem assignP (w : World) : (ReflectliteType.relation "AssignableTo" ReflectliteType.assignableTo #[.agg #[.pointer (some ⟨5, 66, none⟩)], .iface 172 (.agg #[.pointer (some ⟨5, 66, none⟩)])]).run Tryz.prog w = .ok (.bool true) w := by kernel_rfl
theorem valueOfP (e : Addr) (w : World) : (ReflectliteValue.unpack (.iface 66 (.pointer (some e)))).run Tryz.prog w
  = .ok (.agg #[.pointer (some ⟨5, 66, none⟩), .pointer (some ⟨w.heap.size, 0, none⟩), .int .u64 150]) (w.alloc (.cells #[.pointer (some e)] 66)) := by kernel_rfl
theorem elemOfPP (w : World) : (Rtype.elem? 81).run Tryz.prog w = .ok (some 66) w := by kernel_rfl
theorem mkP (p : Addr) (w : World) : (ReflectliteValue.mk 66 p ReflectliteValue.flagAddr).run Tryz.prog w = .ok (.agg #[.pointer (some ⟨5, 66, none⟩), .pointer (some p), .int .u64 406]) w := by kernel_rfl
theorem elemVPP (a p : Addr) (W : World) (ha : W.cell? a = some (.pointer (some p))) :
  (ReflectliteValue.method (ReflectliteValue.valueError "reflectlite.Value.Elem" 0) ReflectliteValue.elem #[.agg #[.pointer (some ⟨5, 81, none⟩), .pointer (some a), .int .u64 150]]).run Tryz.prog W
   = .ok (.agg #[.pointer (some ⟨5, 66, none⟩), .pointer (some p), .int .u64 406]) W := by
 rw [rlm]
 simp only [Sem.run_bind, partsPP, Result.andThen]
 simp [ReflectliteValue.elem, loadVar, isAgg, underlying, Tryz.underlying81, ha, Result.andThen, elemOfPP, mkP]
theorem rls (v x : Value) : ReflectliteValue.set #[v, x] = (do
  let (some (dst, a, fl), some (src, b, _)) := (← ReflectliteValue.parts v, ← ReflectliteValue.parts x)
   | unsupported (.noEntry "extern/(internal/reflectlite.Value).Set.zeroValue")
  if fl / ReflectliteValue.flagAddr % 2 == 0 then unsupported (.noEntry "extern/(internal/reflectlite.Value).Set.unaddressable")
  let val ← loadVar src b
  if ← Rtype.directlyAssignable dst src then storeVar dst a val
  else if ← Rtype.implements dst src then
   if (← Rtype.kind src) == 20 then
    match val with
    | .nilIface => unsupported (.noEntry "extern/reflectlite: a nil value of one interface type handed on as a value of another")
    | _ => storeVar dst a val
   else storeVar dst a (.iface src val)
  else panicString ("reflectlite.Set: value of type " ++ (← Rtype.spelt src) ++ " is not assignable to type " ++ (← Rtype.spelt dst))
  pure (.tuple #[])) := rfl
theorem partsPa (a : Addr) (w : World) : (ReflectliteValue.parts (.agg #[.pointer (some ⟨5, 66, none⟩), .pointer (some a), .int .u64 406])).run Tryz.prog w = .ok (some (66, a, 406)) w := by kernel_rfl
theorem partsP (a : Addr) (w : World) : (ReflectliteValue.parts (.agg #[.pointer (some ⟨5, 66, none⟩), .pointer (some a), .int .u64 150])).run Tryz.prog w = .ok (some (66, a, 150)) w := by kernel_rfl
theorem directP (w : World) : (Rtype.directlyAssignable 66 66).run Tryz.prog w = .ok true w := by kernel_rfl
theorem setP (ta b e : Addr) (old : Value) (W : World) (hb : W.cell? b = some (.pointer (some e))) (ht : W.cell? ta = some old) (hf : W.frozen? ta = false) :
  (ReflectliteValue.set #[.agg #[.pointer (some ⟨5, 66, none⟩), .pointer (some ta), .int .u64 406], .agg #[.pointer (some ⟨5, 66, none⟩), .pointer (some b), .int .u64 150]]).run Tryz.prog W
   = .ok (.tuple #[]) (W.setCell ta (.pointer (some e))) := by
 rw [rls]
 simp only [Sem.run_bind, partsPa, partsP, Result.andThen]
 simp [ReflectliteValue.flagAddr, loadVar, isAgg, underlying, Tryz.underlying66, hb, Result.andThen, directP, storeVar, Value.cells, storeCells, Addr.add]
 rw [run_store Tryz.prog W ta _ _ (by rfl)]
 simp [ht, hf]


set_option maxHeartbeats 4000000 in
theorem as_hit0 (e t : Addr) (old : Value) (w : World) (hg : Ety w) (ht0 : w.cell? t = some old) (hf0 : w.frozen? t = false) :
  Calls Tryz.prog 28 #[.iface 66 (.pointer (some e)), .iface 81 (.pointer (some t))] w fun ev w' => ev = .returned (.bool true) ∧ w' = ((((w.alloc (.cells #[.pointer (some t)] 81)).alloc (.cells #[.pointer (some ⟨5, 81, none⟩), .pointer (some ⟨w.heap.size, 0, none⟩), .int .u64 150] 131)).alloc (.cells #[.pointer (some ⟨5, 81, none⟩), .pointer (some ⟨w.heap.size, 0, none⟩), .int .u64 150] 131)).alloc (.cells #[.pointer (some e)] 66)).setCell t (.pointer (some e)) := by
 have hlt := hg.lt
 unfold Ety at hg
 have h6 := @run_callFunc_extern Tryz.prog 65 _ (fun args => ReflectliteValue.unpack (args.getD 0 (.tuple #[]))) Tryz.func65 (by kernel_rfl) (by kernel_rfl) (by kernel_rfl) (by kernel_rfl)
 have h7 := @run_callFunc_extern Tryz.prog 66 _ (ReflectliteValue.methodAny (ReflectliteValue.valueError "reflectlite.Value.Type" 0) (fun t _ _ _ => ReflectliteType.toType t)) Tryz.func66 (by kernel_rfl) (by kernel_rfl) (by kernel_rfl) (by kernel_rfl)
 have h8 := @run_callFunc_extern Tryz.prog 67 _ (ReflectliteValue.method (ReflectliteValue.valueError "reflectlite.Value.IsNil" 0) ReflectliteValue.isNil) Tryz.func67 (by kernel_rfl) (by kernel_rfl) (by kernel_rfl) (by kernel_rfl)
 have h27 := @run_callFunc_extern Tryz.prog 251 _ (ReflectliteType.abiMethod fun t => do pure (.int .u8 (← Rtype.kind t))) Tryz.func251 (by kernel_rfl) (by kernel_rfl) (by kernel_rfl) (by kernel_rfl)
 have h37 := @run_callFunc_extern Tryz.prog 276 _ (ReflectliteType.method ReflectliteType.elem) Tryz.func276 (by kernel_rfl) (by kernel_rfl) (by kernel_rfl) (by kernel_rfl)
 have h38 := @run_callFunc_extern Tryz.prog 277 _ (ReflectliteType.relation "Implements" ReflectliteType.implements_) Tryz.func277 (by kernel_rfl) (by kernel_rfl) (by kernel_rfl) (by kernel_rfl)
 have h10 := @run_callFunc_extern Tryz.prog 43 _ ReflectliteType.typeOf Tryz.func43 (by kernel_rfl) (by kernel_rfl) (by kernel_rfl) (by kernel_rfl)
 have h35 := @run_callFunc_extern Tryz.prog 274 _ (ReflectliteType.relation "AssignableTo" ReflectliteType.assignableTo) Tryz.func274 (by kernel_rfl) (by kernel_rfl) (by kernel_rfl) (by kernel_rfl)
 have h11 := @run_callFunc_extern Tryz.prog 133 _ (ReflectliteValue.method (ReflectliteValue.valueError "reflectlite.Value.Elem" 0) ReflectliteValue.elem) Tryz.func133 (by kernel_rfl) (by kernel_rfl) (by kernel_rfl) (by kernel_rfl)
 have h12 := @run_callFunc_extern Tryz.prog 134 _ ReflectliteValue.set Tryz.func134 (by kernel_rfl) (by kernel_rfl) (by kernel_rfl) (by kernel_rfl)
 have tO := typeOfP
 have mA := mAssign
 have a25 := assignP
 have v25 := valueOfP
 have f6 := valueOfPP
 have f7 := typePP
 have mK := mKind
 have mE := mElem
 have mI := mImpl
 have k27 := kindPP
 have k25 := kindP
 have e27 := elemPP
 have i25 := implP
 have n8 := isNilPP ⟨w.heap.size, 0, none⟩ t ((w.alloc (.cells #[.pointer (some t)] 81)).alloc (.cells #[.pointer (some ⟨5, 81, none⟩), .pointer (some ⟨w.heap.size, 0, none⟩), .int .u64 150] 131)) (by simp)
 have hg2 : ((w.alloc (.cells #[.pointer (some t)] 81)).alloc (.cells #[.pointer (some ⟨5, 81, none⟩), .pointer (some ⟨w.heap.size, 0, none⟩), .int .u64 150] 131)).cell? ⟨0, 0, none⟩ = some (.iface 172 (.agg #[.pointer (some ⟨5, 48, none⟩)])) := by
  rw [World.cell?_alloc_lt _ _ ⟨0, 0, none⟩ (by simp), World.cell?_alloc_lt _ _ ⟨0, 0, none⟩ hlt]; exact hg
 have htl : t.block < w.heap.size := World.block_lt_of_cell? w t ht0
 have el := elemVPP ⟨w.heap.size, 0, none⟩ t (((w.alloc (.cells #[.pointer (some t)] 81)).alloc (.cells #[.pointer (some ⟨5, 81, none⟩), .pointer (some ⟨w.heap.size, 0, none⟩), .int .u64 150] 131)).alloc (.cells #[.pointer (some ⟨5, 81, none⟩), .pointer (some ⟨w.heap.size, 0, none⟩), .int .u64 150] 131)) (by rw [World.cell?_alloc_lt _ _ ⟨w.heap.size, 0, none⟩ (by simp; omega)]; simp)
 have st := setP t ⟨w.heap.size + 1 + 1 + 1, 0, none⟩ e old ((((w.alloc (.cells #[.pointer (some t)] 81)).alloc (.cells #[.pointer (some ⟨5, 81, none⟩), .pointer (some ⟨w.heap.size, 0, none⟩), .int .u64 150] 131)).alloc (.cells #[.pointer (some ⟨5, 81, none⟩), .pointer (some ⟨w.heap.size, 0, none⟩), .int .u64 150] 131)).alloc (.cells #[.pointer (some e)] 66))
  (by rw [World.cell?_alloc_at _ _ _ _ (by simp)]; rfl)
  (by rw [World.cell?_alloc_lt _ _ t (by simp; omega), World.cell?_alloc_lt _ _ t (by simp; omega), World.cell?_alloc_lt _ _ t (by simp; omega), World.cell?_alloc_lt _ _ t htl]; exact ht0)
  (by rw [World.frozen?_alloc_old _ _ t (by simp; omega), World.frozen?_alloc_old _ _ t (by simp; omega), World.frozen?_alloc_old _ _ t (by simp; omega), World.frozen?_alloc_old _ _ t (Nat.ne_of_lt htl)]; exact hf0)
 go_enter Tryz.func28, Tryz.ntmps28
 go_wp2
 refine wp_loop_rounds 1 ?_
 rw [rounds_succ]
 go_wp2
 go_ret
 exact ⟨rfl, rfl⟩

/-- errors.As of a *Bad at a variable that holds one. -/
theorem as_hit (e t : Addr) (old : Value) (w : World) (hg : Ety w) (ht0 : w.cell? t = some old) (hf0 : w.frozen? t = false) :
  Calls Tryz.prog 28 #[.iface 66 (.pointer (some e)), .iface 81 (.pointer (some t))] w fun ev w' => ev = .returned (.bool true) ∧ ∃ w1, Only [] w w1 ∧ w' = w1.setCell t (.pointer (some e)) :=
 (as_hit0 e t old w hg ht0 hf0).mono fun _ _ h => ⟨h.1, _, ((((Only.refl [] w).alloc _).alloc _).alloc _).alloc _, h.2⟩

end Go.Proofs.YtildemmkhndhjaaGreatDoor
namespace Go.Proofs.YtildemmkhndhjaaGreatDoor
open Go.ChangeShapes Go.WideShapes Go.ChangeAt Go.RowKit

theorem own : ownKnob Tryz.prog.godebug = none := by kernel_rfl
theorem laidOut : laidOutB Tryz.prog = true := by kernel_rfl
theorem g_et : Tryz.prog.globalNamed "errors.errorType" = some 0 := by kernel_rfl
theorem g_rt : (Tryz.prog.cutTypes.find? (·.1 == "internal/reflectlite.rtype")).map (·.2) = some 172 := by kernel_rfl
theorem g_one : ((List.range 364).filter fun t => Tryz.prog.rowNamed t [101, 114, 114, 111, 114]) = [48] := by kernel_rfl
theorem g_size : Tryz.prog.types.size = 364 := by kernel_rfl

/-- What the condition gives a walk: the variable's one cell. -/
theorem ety_of {W : World} (h : laidMetH Tryz.prog [("errors.errorType", Rows.laid_errors_errorType)] W) : Ety W := by
 have h' : laidMet Tryz.prog [] W ∧ handlesMet Tryz.prog [("errors.errorType", Rows.laid_errors_errorType)] W := h
 obtain ⟨name, u, ty, e1, e2, e3, e4, e5⟩ := h'.2 _ (List.mem_singleton.2 rfl)
 have en : name = [101, 114, 114, 111, 114] := (Option.some.inj e1).symm
 subst en
 obtain rfl := Option.some.inj (g_rt.symm.trans e2)
 have hm : ty ∈ (List.range 364).filter fun t => Tryz.prog.rowNamed t [101, 114, 114, 111, 114] := List.mem_filter.2 ⟨List.mem_range.2 (by rw [← g_size]; exact e3), e4⟩
 rw [g_one] at hm
 obtain rfl := List.mem_singleton.1 hm
 have hh : typeHandle Tryz.prog 48 = .pointer (some ⟨5, 48, none⟩) := by kernel_rfl
 rw [hh] at e5
 unfold Ety
 simpa using World.var?_cell g_et e5 0

end Go.Proofs.YtildemmkhndhjaaGreatDoor
namespace Go.Proofs.YtildemmkhndhjaaGreatDoor
open Go.RowKit

/-- Where the cells of a slice lie that is read: nowhere, if there are none; else in block d, one behind the other. -/
def RS (w : World) (ao : Option Addr) (cs : List Value) (d : Nat) : Prop :=
 cs = [] ∨ ∃ off, ao = some ⟨d, off, none⟩ ∧ ∀ j u, cs[j]? = some u → w.cell? ⟨d, off + j, none⟩ = some u

theorem RS.nil (w : World) (ao : Option Addr) (d : Nat) : RS w ao [] d := .inl rfl

theorem RS.lt {w : World} {ao : Option Addr} {cs : List Value} {d : Nat} (h : RS w ao cs d) (hn : cs ≠ []) : d < w.heap.size := by
 rcases h with h | ⟨off, _, hc⟩
 ·exact absurd h hn
 ·have h0 : 0 < cs.length := List.length_pos_iff.2 hn
  exact World.block_lt_of_cell? w _ (hc 0 cs[0] (by simp [h0]))

theorem RS.only {w w' : World} {S : List Nat} {ao : Option Addr} {cs : List Value} {d : Nat} (h : RS w ao cs d) (ho : Only S w w') (hn : cs ≠ [] → d ∉ S) : RS w' ao cs d := by
 rcases h with h | ⟨off, ha, hc⟩
 ·exact .inl h
 ·by_cases hb : cs = []
  ·exact .inl hb
  have hd := hn hb
  exact .inr ⟨off, ha, fun j u hj => by rw [ho.cell (World.block_lt_of_cell? w _ (hc j u hj)) hd]; exact hc j u hj⟩

theorem RS.only0 {w w' : World} {ao : Option Addr} {cs : List Value} {d : Nat} (h : RS w ao cs d) (ho : Only [] w w') : RS w' ao cs d := h.only ho (by simp)

theorem RS.take {w : World} {ao : Option Addr} {cs : List Value} {d : Nat} (h : RS w ao cs d) (n : Nat) : RS w ao (cs.take n) d := by
 rcases h with h | ⟨off, ha, hc⟩
 ·exact .inl (by simp [h])
 ·refine .inr ⟨off, ha, fun j u hj => hc j u ?_⟩
  rw [List.getElem?_take] at hj
  split at hj
  ·exact hj
  ·cases hj

theorem RS.none_nil {w : World} {cs : List Value} {d : Nat} (h : RS w none cs d) : cs = [] := by
 rcases h with h | ⟨off, ha, _⟩
 ·exact h
 ·cases ha

theorem RS.cells {w : World} {a : Addr} {cs : List Value} {d : Nat} (h : RS w (some a) cs d) : ∀ j u, cs[j]? = some u → w.cell? (a.add j) = some u := by
 intro j u hu
 rcases h with h | ⟨off, ha, hc⟩
 ·rw [h] at hu
  simp at hu
 ·cases ha
  rw [Addr.add_lit]
  exact hc j u hu

/-- The cell of a row. -/
theorem RS.at {w : World} {ao : Option Addr} {cs : List Value} {d : Nat} (h : RS w ao cs d) {j : Nat} (hj : j < cs.length) : ∃ off, ao = some ⟨d, off, none⟩ ∧ ∀ j u, cs[j]? = some u → w.cell? ⟨d, off + j, none⟩ = some u := by
 rcases h with h | h
 ·rw [h] at hj
  simp at hj
 ·exact h

section
variable {e : TypeId} {k : Nat}

theorem rows_mono {w : World} {B C n : Nat} {v : Value} {xs : List Value} (h : w.ownsRow B e k v n xs) (hC : C ≤ B) : w.ownsRow C e k v n xs := by
 refine ⟨h.1, ?_⟩
 rcases h.2 with q | ⟨g, cap, cur, q1, q2, q3⟩
 ·exact .inl q
 ·exact .inr ⟨g, cap, cur, q1, by omega, q3⟩

theorem rows_only {w w' : World} {B n : Nat} {S : List Nat} {v : Value} {xs : List Value} (h : w.ownsRow B e k v n xs) (ho : Only S w w') (hn : ∀ k, v.ownBlock = some k → k ∉ S) : w'.ownsRow B e k v n xs := by
 refine ⟨h.1, ?_⟩
 rcases h.2 with q | ⟨g, cap, cur, q1, q2, q3, q4⟩
 ·exact .inl q
 ·subst q1
  exact .inr ⟨g, cap, cur, rfl, q2, by rw [ho.block g (Array.getElem?_eq_some_iff.1 q3).1 (hn g rfl)]; exact q3, q4⟩

theorem rows_slice {w : World} {B n : Nat} {v : Value} {xs : List Value} (h : w.ownsRow B e k v n xs) : ∃ ao cap, v = .slice ao n cap := by
 rcases h.2 with ⟨rfl, h0⟩ | ⟨g, cap, _, rfl, _⟩
 ·exact ⟨none, 0, by rw [h0]⟩
 ·exact ⟨_, _, rfl⟩

/-- What the call owns is a row that is read. -/
theorem RS.of_owns {w : World} {B n : Nat} {ao : Option Addr} {cap : Nat} {xs : List Value} (h : w.ownsRow B e k (.slice ao n cap) n xs) :
  RS w ao xs ((ao.map (·.block)).getD 0) ∧ n ≤ cap ∧ cap ≤ maxLen ∧ (ao = none → cap = 0) ∧ (∀ a, ao = some a → B ≤ a.block ∧ a.block < w.heap.size ∧ a = ⟨a.block, 0, none⟩) := by
 rcases h.2 with ⟨hv, h0⟩ | ⟨g, cap', cur, hv, hb, hg, hn, hm, hs, ht⟩
 ·simp only [Value.slice.injEq] at hv
  obtain ⟨rfl, _, rfl⟩ := hv
  have hx : xs = [] := List.eq_nil_of_length_eq_zero (by rw [h.1, h0]; simp)
  subst hx
  exact ⟨RS.nil _ _ _, by omega, by decide, fun _ => rfl, fun a ha => by cases ha⟩
 ·simp only [Value.slice.injEq] at hv
  obtain ⟨rfl, _, rfl⟩ := hv
  refine ⟨.inr ⟨0, rfl, fun j u hj => ?_⟩, hn, hm, (fun e => by cases e), fun a ha => ?_⟩
  ·have := h.cells (g := g) rfl j u hj
   rw [Addr.add_lit] at this
   exact this
  ·simp at ha
   subst ha
   exact ⟨hb, (Array.getElem?_eq_some_iff.1 hg).1, rfl⟩

/-- A row cut off behind its first m. -/
theorem rows_take {w : World} {B n : Nat} {ao : Option Addr} {cap : Nat} {xs : List Value} (h : w.ownsRow B e k (.slice ao n cap) n xs) (m : Nat) (hm : m ≤ n) : w.ownsRow B e k (.slice ao m cap) m (xs.take (m * k)) := by
 have hmk : m * k ≤ n * k := Nat.mul_le_mul_right k hm
 refine ⟨by rw [List.length_take, h.1]; omega, ?_⟩
 rcases h.2 with ⟨hv, h0⟩ | ⟨g, cap', cur, hv, hb, hg, hc, hx, hs, ht⟩
 ·simp only [Value.slice.injEq] at hv
  obtain ⟨rfl, _, rfl⟩ := hv
  have : m = 0 := by omega
  subst this
  exact .inl ⟨rfl, rfl⟩
 ·simp only [Value.slice.injEq] at hv
  obtain ⟨rfl, _, rfl⟩ := hv
  refine .inr ⟨g, cap, cur, rfl, hb, hg, by omega, hx, hs, ?_⟩
  rw [← ht, List.take_take]
  congr 1
  omega
end

/-- How much room an append asks for that grows. -/
theorem growG (need : Nat) : ∀ (k old : Nat), old ≤ need + need / 4 + 192 → Builtin.growBy need k old ≤ need + need / 4 + 192 := by
 intro k
 induction k with
 | zero =>
  intro old h
  exact h
 | succ k ih =>
  intro old h
  simp only [Builtin.growBy]
  split
  ·exact h
  ·exact ih _ (by omega)

theorem capG {need old n : Nat} (h : old < need) (hn : need ≤ 8000000) (hb : n ≤ 4096) : Builtin.nextslicecap need old * n ≤ 281474976710656 := by
 have := growG need 4 old (by omega)
 have h2 : Builtin.nextslicecap need old ≤ 16000000 := by
  unfold Builtin.nextslicecap
  split
  ·omega
  ·split
   ·omega
   ·omega
 exact Nat.le_trans (Nat.mul_le_mul h2 hb) (by decide)

/-- What is known of an element's type: its zero, its cells, its bytes. -/
structure ElT (e : TypeId) (z : Value) (k n : Nat) : Prop where
 info : (Tryz.prog.info? e).map (fun i => (i.zero, i.size, i.bytes)) = some (some z, k, n)
 zero : z.cells.size = k
 pos : 0 < k
 few : n ≤ 4096

theorem ElT.parts {e : TypeId} {z : Value} {k n : Nat} (h : ElT e z k n) : ∃ i0, Tryz.prog.info? e = some i0 ∧ i0.zero = some z ∧ i0.size = k ∧ i0.bytes = n := by
 have h := h.info
 cases hi : Tryz.prog.info? e with
 | none => rw [hi] at h; cases h
 | some i =>
  rw [hi] at h
  simp at h
  exact ⟨i, rfl, h.1, h.2.1, h.2.2⟩

/-- A new row that an append has made. -/
theorem rows_fresh {e : TypeId} {z : Value} {k n : Nat} (hE : ElT e z k n) (w : World) (xs : List Value) (m cap : Nat) (hx : xs.length = m * k) (hc : m ≤ cap) (hm : cap ≤ maxLen) :
  (w.drew.alloc (.cells (xs.toArray ++ Builtin.zeroCells z.cells (cap - m)) e)).ownsRow w.heap.size e k (.slice (some ⟨w.heap.size, 0, none⟩) m cap) m xs ∧
  w.grownBy (w.drew.alloc (.cells (xs.toArray ++ Builtin.zeroCells z.cells (cap - m)) e)) none := by
 refine ⟨⟨hx, .inr ⟨w.heap.size, cap, _, rfl, Nat.le_refl _, Go.heap_alloc_new w.drew _, hc, hm, ?_, ?_⟩⟩, ⟨rfl, rfl, rfl, by simp, fun k hk _ => Below.heap_alloc w.drew _ k hk⟩⟩
 ·rw [Array.size_append, size_zeroCells, hE.zero]
  have e1 : m * k + (cap - m) * k = cap * k := by rw [← Nat.add_mul]; congr 1; omega
  simp only [List.size_toArray, hx]
  exact e1
 ·simp only [Array.toList_append]
  rw [← hx]
  exact List.take_left

/-- append(out, l...), out the call's own. -/
theorem append_runG {w : World} {B : Nat} {ao lao : Option Addr} {cap lcap d m l k n : Nat} {e : TypeId} {z : Value} {xs ys : List Value} (hE : ElT e z k n) (ty st : TypeId) (hst : Tryz.prog.underlying st = some (.slice e)) (hown : w.ownsRow B e k (.slice ao m cap) m xs) (hb : RS w lao ys d) (hy : ys.length = l * k) (hone : ∀ u ∈ ys, u.oneCell' = true) (hl : lao = none → lcap = 0)
  (hsz : m + l ≤ 8000000) (hB : B ≤ w.heap.size) :
  ∃ ao' cap' w', (Builtin.append_ #[st, st] ty #[.slice ao m cap, .slice lao l lcap]).run Tryz.prog w = .ok (.slice ao' (m + l) cap') w' ∧ w'.ownsRow B e k (.slice ao' (m + l) cap') (m + l) (xs ++ ys) ∧
   w.grownBy w' (Value.ownBlock (.slice ao m cap)) ∧ (∀ a, ao' = some a → (∃ a', ao = some a' ∧ a'.block = a.block) ∨ w.heap.size ≤ a.block) ∧ (ao' = none → ao = none) ∧ w'.ownsRow B e k (.slice ao m cap) m xs := by
 obtain ⟨i0, hi, hz0, hz1, hz2⟩ := hE.parts
 have hk := hE.pos
 have hmax : m + l ≤ maxLen := by unfold maxLen; omega
 cases lao with
 | none =>
  have := hb.none_nil
  subst this
  have := hl rfl
  subst this
  have hl0 : l = 0 := by
   rcases Nat.eq_zero_or_pos l with h | h
   ·exact h
   ·have := Nat.mul_pos h hk
    simp at hy
    omega
  subst hl0
  refine ⟨ao, cap, w, ?_, by simpa using hown, ⟨rfl, rfl, rfl, Nat.le_refl _, fun _ _ _ => rfl⟩, fun a ha => .inl ⟨a, ha, rfl⟩, fun h => h, hown⟩
  exact run_append_owned_none (P := Tryz.prog) (w := w) B st ty e i0 k hst hi _ m xs hown
 | some a =>
  rcases hown.2 with ⟨hv, h0⟩ | ⟨g, cap', cur, hv, hbg, hg, hnc, hcm, hcs, htake⟩
  ·subst h0
   have hx : xs = [] := List.eq_nil_of_length_eq_zero (by rw [hown.1]; simp)
   subst hx
   simp only [Value.slice.injEq, true_and] at hv
   obtain ⟨rfl, rfl⟩ := hv
   by_cases hm : l = 0
   ·obtain ⟨v', w', hr, ho, hgr, hiff⟩ := run_append_own (P := Tryz.prog) w B st ty e i0 z k n hst hi hz0 hz1 hz2 hE.zero hk _ _ _ hown a l lcap ys hy hb.cells hone (by simpa using hmax) (by
      have := hE.few
      subst hm
      simp) hB
    have := hiff.2 ⟨rfl, hm⟩
    subst this
    subst hm
    exact ⟨none, 0, w', hr, ho, hgr, (fun a ha => by cases ha), fun _ => rfl, World.ownsRow_nil _ _ _ _⟩
   ·have hr := run_append_nil (P := Tryz.prog) w st ty e i0 z hst hi hz0 a l lcap ys (by rw [hz1]; exact hy) hb.cells (by omega) (by omega) (by
      rw [hz2]
      exact Nat.le_trans (Nat.mul_le_mul (show l ≤ 8000000 by omega) hE.few) (by decide))
    obtain ⟨q1, q2⟩ := rows_fresh hE w ys l (grownCap w l 0 e) hy (grownCap_ge _ _ _ _) (grownCap_le_maxLen _ _ _ _ (by simpa using hmax))
    rw [List.nil_append, Nat.zero_add]
    exact ⟨_, _, _, hr, rows_mono q1 hB, ⟨q2.os, q2.tape, q2.output, q2.size, fun k hk _ => q2.block k hk (by simp)⟩, fun b hb' => .inr (by simp at hb'; rw [← hb']; exact Nat.le_refl _), (fun h => by cases h), World.ownsRow_nil _ _ _ _⟩
  ·simp only [Value.slice.injEq, true_and] at hv
   obtain ⟨rfl, rfl⟩ := hv
   by_cases hroom : m + l ≤ cap
   ·obtain ⟨w', hr, ho, hgr⟩ := run_append_fits (P := Tryz.prog) w B st ty e i0 k hst hi hz1 g m cap xs hown a l lcap ys hy hb.cells hone hroom
    have hold := rows_take ho m (by omega)
    rw [show (xs ++ ys).take (m * k) = xs by rw [← hown.1]; exact List.take_left] at hold
    exact ⟨some ⟨g, 0, none⟩, cap, w', hr, ho, hgr, fun a ha => .inl ⟨_, rfl, by simp at ha; rw [← ha]⟩, (fun h => by cases h), hold⟩
   ·have hr := run_append_grow (P := Tryz.prog) w st ty e i0 z hst hi hz0 ⟨g, 0, none⟩ m cap xs (by rw [hz1]; exact hown.1) (hown.cells (g := g) rfl) a l lcap ys (by rw [hz1]; exact hy) hb.cells (by omega) (by omega) (by rw [hz2]; exact capG (by omega) hsz hE.few)
    obtain ⟨q1, q2⟩ := rows_fresh hE w (xs ++ ys) (m + l) (grownCap w (m + l) cap e) (by rw [List.length_append, hown.1, hy, Nat.add_mul]) (grownCap_ge _ _ _ _) (grownCap_le_maxLen _ _ _ _ hmax)
    have e1 : (xs ++ ys).toArray = xs.toArray ++ ys.toArray := by simp
    replace q1 := rows_mono q1 hB
    have hold := rows_only hown (Only.of_grown q2) (by simp)
    rw [e1] at q2 q1 hold
    exact ⟨_, _, _, hr, q1, ⟨q2.os, q2.tape, q2.output, q2.size, fun k hk _ => q2.block k hk (by simp)⟩, fun b hb' => .inr (by simp at hb'; rw [← hb']; exact Nat.le_refl _), (fun h => by cases h), hold⟩

/-- What an append did: where the row lies now, and that nothing else has turned. -/
structure Appd (w w' : World) (B : Nat) (e : TypeId) (k : Nat) (ao ao' : Option Addr) (m n' cap' : Nat) (xs : List Value) : Prop where
 own : w'.ownsRow B e k (.slice ao' n' cap') n' xs
 grown : w.grownBy w' (Value.ownBlock (.slice ao m 0))
 place : ∀ a, ao' = some a → (∃ a', ao = some a' ∧ a'.block = a.block) ∨ w.heap.size ≤ a.block
 none : ao' = none → ao = none

theorem Appd.only {w w' : World} {B : Nat} {e : TypeId} {k : Nat} {ao ao' : Option Addr} {m n' cap' : Nat} {xs : List Value} (h : Appd w w' B e k ao ao' m n' cap' xs) : Only (Value.ownBlock (.slice ao m 0)).toList w w' := Only.of_grown h.grown

theorem wpList_append_any {w : World} {ops : Array Oper} {rest : List Oper} {o : Oper} {a : Act} {Q : Exit → Act → World → Prop} (hgd : o.guard = none) (s x : Operand) {st e : TypeId} {z : Value} {k n : Nat} (hE : ElT e z k n) (hst : Tryz.prog.underlying st = some (.slice e))
  (ho : o.op = .call { callee := .builtin .append, args := #[s, x], argTypes := #[st, st] })
  {B : Nat} {ao lao : Option Addr} {cap lcap d m l : Nat} {xs ys : List Value} (hs : a.eval s = .slice ao m cap) (hx : a.eval x = .slice lao l lcap) (hown : w.ownsRow B e k (.slice ao m cap) m xs) (hb : RS w lao ys d) (hy : ys.length = l * k) (hone : ∀ u ∈ ys, u.oneCell' = true) (hl : lao = none → lcap = 0)
  (hsz : m + l ≤ 8000000) (hB : B ≤ w.heap.size)
  (h : ∀ ao' cap' w', Appd w w' B e k ao ao' m (m + l) cap' (xs ++ ys) → wpList Tryz.prog ops Q rest (a.put o.dst (.slice ao' (m + l) cap')) w') : wpList Tryz.prog ops Q (o :: rest) a w := by
 refine wpList_plain hgd fun K hK => ?_
 obtain ⟨ao', cap', w', hr, h1, h2, h3, h4, h5⟩ := append_runG hE o.type st hst hown hb hy hone hl hsz hB
 unfold Oper.wp execOp
 simp only [ho, resolve, invoke, builtin, Sem.run_bind, Sem.run_pure, Result.andThen_ok, List.map_toArray, List.map_cons, List.map_nil, hs, hx, hr]
 exact hK _ _ (h ao' cap' w' ⟨h1, by cases ao <;> exact h2, h3, h4⟩)

/-- A new block is a row that is read. -/
theorem RS.fresh (w : World) (cs : Array Value) (t : TypeId) : RS (w.alloc (.cells cs t)) (some ⟨w.heap.size, 0, none⟩) cs.toList w.heap.size :=
 .inr ⟨0, rfl, fun j u hj => by rw [Nat.zero_add, cell_new]; simpa using hj⟩

/-- Which row of the table: 0 none, 1 no number, 2 a local, 3 a number, 4 a place, 5 a class, 6 a field, 7 a type, 8 a method. -/
def rowI (op : Int) : Int := if op < 0 ∨ 45 < op then 0 else if op = 3 ∨ op = 4 then 2 else if op = 1 then 3 else if 19 ≤ op ∧ op ≤ 24 then 4 else if op = 25 then 5 else if 26 ≤ op ∧ op ≤ 29 then 6 else if op = 30 ∨ op = 36 ∨ op = 37 then 7 else if 38 ≤ op ∧ op ≤ 41 then 8 else 1
/-- How many bytes. -/
def sizeN (op : Int) : Nat := if op < 0 ∨ 45 < op then 0 else if op = 3 ∨ op = 4 then 2 else if op = 1 ∨ (19 ≤ op ∧ op ≤ 30) ∨ (36 ≤ op ∧ op ≤ 41) then 3 else 1

theorem sizeN_le (op : Int) : sizeN op ≤ 3 := by
 unfold sizeN
 repeat' split
 all_goals omega

theorem row_cases (op : Int) : (rowI op = 0 ∧ sizeN op = 0) ∨ (rowI op = 1 ∧ sizeN op = 1) ∨ (rowI op = 2 ∧ sizeN op = 2) ∨ (3 ≤ rowI op ∧ rowI op ≤ 8 ∧ sizeN op = 3) := by
 unfold rowI sizeN
 repeat' split
 all_goals omega

/-- An instruction: its place, its operation, its number, its size. -/
abbrev In := Int × Int × Int × Int
def inV (i : In) : Value := .agg #[.int .i64 i.1, .int .i64 i.2.1, .int .i64 i.2.2.1, .int .i64 i.2.2.2]
def in0 : In := (0, 0, 0, 0)

/-- A number of bytes, the highest first. -/
def beI (l : List UInt8) : Nat := l.foldl (fun n b => n * 256 + b.toNat) 0

theorem beI_append (l : List UInt8) (b : UInt8) : beI (l ++ [b]) = beI l * 256 + b.toNat := by simp [beI]

theorem beF_lt (l : List UInt8) : ∀ n, l.foldl (fun n b => n * 256 + b.toNat) n < (n + 1) * 256 ^ l.length := by
 induction l with
 | nil => intro n; simp
 | cons b r ih =>
  intro n
  have h1 := ih (n * 256 + b.toNat)
  have h2 := b.toNat_lt
  simp only [List.foldl_cons, List.length_cons]
  refine Nat.lt_of_lt_of_le h1 ?_
  rw [Nat.pow_succ, Nat.mul_comm (256 ^ r.length) 256, ← Nat.mul_assoc]
  exact Nat.mul_le_mul_right _ (by omega)

theorem beI_lt (l : List UInt8) : beI l < 256 ^ l.length := by
 have := beF_lt l 0
 simpa [beI] using this

theorem beI_take_succ (l : List UInt8) (j : Nat) (h : j < l.length) : beI (l.take (j + 1)) = beI (l.take j) * 256 + l[j].toNat := by
 rw [List.take_succ_eq_append_getElem h, beI_append]

/-- The instruction that some bytes begin with, its place beside it. -/
def decAt (at_ : Nat) : List UInt8 → In × Int
 | [] => (in0, 11)
 | c :: r => if sizeN c.toNat = 0 then (in0, 17) else if r.length + 1 < sizeN c.toNat then (in0, 11) else (((at_ : Int), (c.toNat : Int), (beI (r.take (sizeN c.toNat - 1)) : Int), (sizeN c.toNat : Int)), 0)
def decR (code : List UInt8) (at_ : Int) : In × Int := if at_ < 0 then (in0, 11) else decAt at_.toNat (code.drop at_.toNat)

/-- Instructions ahead of what was read behind them. -/
def joinR (l : List In) (r : List In × Int × Int) : List In × Int × Int := if r.2.2 = 0 then (l ++ r.1, 0, 0) else ([], r.2.1, r.2.2)
/-- All instructions of some bytes that begin at a place. -/
def allL : Nat → Nat → List UInt8 → List In × Int × Int
 | 0, _, _ => ([], 0, 0)
 | f + 1, at_, bs => if bs = [] then ([], 0, 0) else if (decAt at_ bs).2 = 0 then joinR [(decAt at_ bs).1] (allL f (at_ + (decAt at_ bs).1.2.2.2.toNat) (bs.drop (decAt at_ bs).1.2.2.2.toNat)) else ([], (at_ : Int), (decAt at_ bs).2)
def allR (code : List UInt8) : List In × Int × Int := allL code.length 0 code

theorem joinR_joinR (a b : List In) (r : List In × Int × Int) : joinR a (joinR b r) = joinR (a ++ b) r := by
 unfold joinR
 split <;> simp_all

theorem joinR_nil (r : List In × Int × Int) (h : r.2.2 = 0 → r.2.1 = 0) (h2 : r.2.2 ≠ 0 → r.1 = []) : joinR [] r = r := by
 obtain ⟨a, b, c⟩ := r
 unfold joinR
 by_cases hc : c = 0
 ·have := h hc
  simp at this
  simp [hc, this]
 ·have := h2 hc
  simp at this
  simp [hc, this]

/-- What a decoded instruction is. -/
theorem decAt_ok {at_ : Nat} {bs : List UInt8} (h : (decAt at_ bs).2 = 0) : ∃ c r, bs = c :: r ∧ 0 < sizeN c.toNat ∧ sizeN c.toNat ≤ bs.length ∧ (decAt at_ bs).1 = ((at_ : Int), (c.toNat : Int), (beI (r.take (sizeN c.toNat - 1)) : Int), (sizeN c.toNat : Int)) := by
 cases bs with
 | nil => simp [decAt] at h
 | cons c r =>
  simp only [decAt] at h ⊢
  by_cases h1 : sizeN c.toNat = 0
  ·simp [h1] at h
  ·by_cases h2 : r.length + 1 < sizeN c.toNat
   ·simp [h1, h2] at h
   ·rw [if_neg h1, if_neg h2]
    exact ⟨c, r, rfl, by omega, by simp; omega, rfl⟩

theorem decAt_err {at_ : Nat} {bs : List UInt8} (h : (decAt at_ bs).2 ≠ 0) : (decAt at_ bs).1 = in0 ∧ ((decAt at_ bs).2 = 11 ∨ (decAt at_ bs).2 = 17) := by
 cases bs with
 | nil => simp [decAt]
 | cons c r =>
  simp only [decAt] at h ⊢
  by_cases h1 : sizeN c.toNat = 0
  ·simp [h1]
  ·by_cases h2 : r.length + 1 < sizeN c.toNat
   ·simp [h1, h2]
   ·rw [if_neg h1, if_neg h2] at h
    simp at h

/-- More fuel than bytes changes nothing. -/
theorem allL_fuel : ∀ (f g at_ : Nat) (bs : List UInt8), bs.length ≤ f → bs.length ≤ g → allL f at_ bs = allL g at_ bs := by
 intro f
 induction f with
 | zero =>
  intro g at_ bs hf _
  have : bs = [] := List.eq_nil_of_length_eq_zero (by omega)
  subst this
  cases g <;> simp [allL]
 | succ f ih =>
  intro g at_ bs hf hg
  cases g with
  | zero =>
   have : bs = [] := List.eq_nil_of_length_eq_zero (by omega)
   subst this
   simp [allL]
  | succ g =>
   unfold allL
   by_cases h0 : bs = []
   ·simp [h0]
   ·rw [if_neg h0, if_neg h0]
    by_cases h1 : (decAt at_ bs).2 = 0
    ·rw [if_pos h1, if_pos h1]
     obtain ⟨c, r, rfl, hp, hl, he⟩ := decAt_ok h1
     rw [he]
     simp only [Int.toNat_natCast]
     rw [ih g _ _ (by simp at hf ⊢; omega) (by simp at hg ⊢; omega)]
    ·rw [if_neg h1, if_neg h1]

theorem allL_nil (f at_ : Nat) : allL f at_ [] = ([], 0, 0) := by cases f <;> simp [allL]

theorem allL_step {f at_ : Nat} {bs : List UInt8} (h0 : bs ≠ []) (hf : bs.length ≤ f) (h1 : (decAt at_ bs).2 = 0) :
  allL f at_ bs = joinR [(decAt at_ bs).1] (allL f (at_ + (decAt at_ bs).1.2.2.2.toNat) (bs.drop (decAt at_ bs).1.2.2.2.toNat)) := by
 cases f with
 | zero => exact absurd (List.eq_nil_of_length_eq_zero (by omega)) h0
 | succ f =>
  obtain ⟨c, r, hb, hp, hl, he⟩ := decAt_ok h1
  rw [allL, if_neg h0, if_pos h1]
  rw [allL_fuel f (f + 1) _ _ (by rw [he]; simp; omega) (by rw [he]; simp; omega)]

theorem allL_stop {f at_ : Nat} {bs : List UInt8} (h0 : bs ≠ []) (hf : bs.length ≤ f) (h1 : (decAt at_ bs).2 ≠ 0) : allL f at_ bs = ([], (at_ : Int), (decAt at_ bs).2) := by
 cases f with
 | zero => exact absurd (List.eq_nil_of_length_eq_zero (by omega)) h0
 | succ f => rw [allL, if_neg h0, if_neg h1]

/-- Instructions as cells. -/
def qcs : List In → List Value
 | [] => []
 | i :: l => .int .i64 i.1 :: .int .i64 i.2.1 :: .int .i64 i.2.2.1 :: .int .i64 i.2.2.2 :: qcs l

theorem qcs_length (l : List In) : (qcs l).length = l.length * 4 := by
 induction l with
 | nil => rfl
 | cons e l ih => simp [qcs, ih]; omega

theorem qcs_append (a b : List In) : qcs (a ++ b) = qcs a ++ qcs b := by
 induction a with
 | nil => rfl
 | cons e l ih => simp [qcs, ih]

theorem qcs_one (l : List In) : ∀ u ∈ qcs l, u.oneCell' = true := by
 induction l with
 | nil => simp [qcs]
 | cons t l ih =>
  intro u hu
  simp [qcs] at hu
  rcases hu with rfl | rfl | rfl | rfl | hu
  ·rfl
  ·rfl
  ·rfl
  ·rfl
  ·exact ih u hu

theorem qcs_get (l : List In) (j : Nat) (h : j < l.length) : (qcs l)[j * 4]? = some (.int .i64 l[j].1) ∧ (qcs l)[j * 4 + 1]? = some (.int .i64 l[j].2.1) ∧ (qcs l)[j * 4 + 2]? = some (.int .i64 l[j].2.2.1) ∧ (qcs l)[j * 4 + 3]? = some (.int .i64 l[j].2.2.2) := by
 induction l generalizing j with
 | nil => simp at h
 | cons t l ih =>
  cases j with
  | zero => exact ⟨rfl, rfl, rfl, rfl⟩
  | succ j =>
   have := ih j (by simpa using h)
   simp only [qcs, Nat.add_mul, Nat.one_mul, List.getElem_cons_succ]
   exact this

theorem qcs_ne {l : List In} (h : l ≠ []) : qcs l ≠ [] := by
 cases l with
 | nil => exact absurd rfl h
 | cons => simp [qcs]

/-- Bytes as cells; numbers; bools. -/
def bcs (l : List UInt8) : List Value := l.map fun b => Value.int .u8 (b.toNat : Int)
def lcs (l : List Bool) : List Value := l.map fun x => Value.bool x

theorem bcs_length (l : List UInt8) : (bcs l).length = l.length * 1 := by simp [bcs]
theorem bcs_append (a b : List UInt8) : bcs (a ++ b) = bcs a ++ bcs b := by simp [bcs]
theorem bcs_one (l : List UInt8) : ∀ u ∈ bcs l, u.oneCell' = true := by
 intro u hu
 simp [bcs] at hu
 obtain ⟨b, _, rfl⟩ := hu
 rfl
theorem bcs_get (l : List UInt8) (j : Nat) (h : j < l.length) : (bcs l)[j]? = some (.int .u8 (l[j].toNat : Int)) := by simp [bcs, h]
theorem lcs_length (l : List Bool) : (lcs l).length = l.length * 1 := by simp [lcs]
theorem lcs_get (l : List Bool) (j : Nat) (h : j < l.length) : (lcs l)[j]? = some (.bool l[j]) := by simp [lcs, h]

end Go.Proofs.YtildemmkhndhjaaGreatDoor
namespace Go.Proofs.YtildemmkhndhjaaGreatDoor

/-- The number that bytes say, the highest first. -/
def be (l : List UInt8) : Nat := l.foldl (fun n c => n * 256 + c.toNat) 0

theorem be_snoc (l : List UInt8) (c : UInt8) : be (l ++ [c]) = be l * 256 + c.toNat := by simp [be, List.foldl_append]
theorem be_lt (l : List UInt8) : be l < 256 ^ l.length := by
 suffices h : ∀ n l', List.length l' = n → be l' < 256 ^ n from h _ l rfl
 intro n
 induction n with
 | zero => intro l' hl; rw [List.eq_nil_of_length_eq_zero hl]; decide
 | succ n ih =>
  intro l' hl
  have hne : l' ≠ [] := by intro e; simp [e] at hl
  rw [← List.dropLast_concat_getLast hne, be_snoc, Nat.pow_succ]
  have h1 := ih l'.dropLast (by simp [hl])
  have h2 := (l'.getLast hne).toNat_lt
  omega

theorem be_take_succ (l : List UInt8) (k : Nat) (h : k < l.length) : be (l.take (k + 1)) = be (l.take k) * 256 + l[k].toNat := by
 rw [List.take_succ_eq_append_getElem h, be_snoc]

theorem ret_int {k : IntKind} {a b : Int} (h : a = b) : Ending.returned (.int k a) = .returned (.int k b) := by rw [h]

/-- A number moved by a byte, and a byte. -/
theorem or_shl8c (x c : Nat) (hx : x < 72057594037927936) (hc : c < 256) : bits .or .u64 (IntKind.u64.wrap ((x : Int) * 256)) (IntKind.u64.wrap (c : Int)) = ((x * 256 + c : Nat) : Int) := by
 have e1 : IntKind.u64.wrap ((x : Int) * 256) = ((x * 256 : Nat) : Int) := by rw [IntKind.wrap_u64]; omega
 have e2 : IntKind.u64.wrap (c : Int) = (c : Int) := by rw [IntKind.wrap_u64]; omega
 rw [e1, e2, u64_or_nat _ _ (by omega) (by omega), nat_join 8 _ _ (by omega) (by omega)]

/-- What a reader's take does to its bytes that are left, how many were read, and its error: what it answers, and what is then. -/
def rTake (s : List UInt8 × Nat × Int) (m : Nat) : List UInt8 × (List UInt8 × Nat × Int) :=
 if s.2.2 = 0 then (if s.1.length < m then ([], s.1, s.2.1, 11) else (s.1.take m, s.1.drop m, s.2.1 + m, 0)) else ([], s)

theorem rTake_le (s : List UInt8 × Nat × Int) (m : Nat) : (rTake s m).1.length ≤ m := by
 unfold rTake
 split
 ·split <;> simp; omega
 ·simp

theorem be_lt8 (l : List UInt8) (k : Nat) (h : k < 8) : be (l.take k) < 72057594037927936 := by
 have h1 := be_lt (l.take k)
 have h2 : (l.take k).length ≤ 7 := by simp; omega
 have h3 : 256 ^ (l.take k).length ≤ 256 ^ 7 := Nat.pow_le_pow_right (by decide) h2
 have h4 : (256 : Nat) ^ 7 = 72057594037927936 := by decide
 omega

theorem be_lt_of (l : List UInt8) (k : Nat) (h : l.length ≤ k) : be l < 256 ^ k := Nat.lt_of_lt_of_le (be_lt l) (Nat.pow_le_pow_right (by decide) h)

end Go.Proofs.YtildemmkhndhjaaGreatDoor
namespace Go.Proofs.YtildemmkhndhjaaGreatDoor
open Go.RowKit

theorem bcs_len (l : List UInt8) : (bcs l).length = l.length := by simp [bcs]

/-- Where the bytes of a slice lie that is read: nowhere, if there are none; else in block d, one behind the other. -/
def BS (w : World) (ao : Option Addr) (bs : List UInt8) (d : Nat) : Prop :=
  bs = [] ∨ ∃ off, ao = some ⟨d, off, none⟩ ∧ ∀ j (h : j < bs.length), w.cell? ⟨d, off + j, none⟩ = some (.int .u8 (bs[j].toNat : Int))

theorem BS.nil (w : World) (ao : Option Addr) (d : Nat) : BS w ao [] d := .inl rfl

theorem BS.only {w w' : World} {S : List Nat} {ao : Option Addr} {bs : List UInt8} {d : Nat} (h : BS w ao bs d) (ho : Only S w w') (hn : bs ≠ [] → d ∉ S) : BS w' ao bs d := by
  rcases h with h | ⟨off, ha, hc⟩
  · exact .inl h
  · by_cases hb : bs = []
    · exact .inl hb
    have hd := hn hb
    exact .inr ⟨off, ha, fun j hj => by rw [ho.cell (World.block_lt_of_cell? w _ (hc j hj)) hd]; exact hc j hj⟩

theorem BS.take {w : World} {ao : Option Addr} {bs : List UInt8} {d : Nat} (h : BS w ao bs d) (n : Nat) : BS w ao (bs.take n) d := by
  rcases h with h | ⟨off, ha, hc⟩
  · exact .inl (by simp [h])
  · exact .inr ⟨off, ha, fun j hj => by rw [hc j (by simp at hj; omega)]; simp⟩

/-- The address of what is left when n elements are taken away at the left. -/
def cutAt (ao : Option Addr) (cap n : Nat) : Option Addr := if cap = n then ao else ao.map (·.add n)

theorem cutAt_none {ao : Option Addr} {cap n : Nat} (h : cutAt ao cap n = none) : ao = none := by
  unfold cutAt at h
  split at h
  · exact h
  · simpa using h

theorem BS.drop {w : World} {ao : Option Addr} {bs : List UInt8} {d : Nat} (h : BS w ao bs d) (n cap : Nat) (hc : bs.length ≤ cap) : BS w (cutAt ao cap n) (bs.drop n) d := by
  rcases h with h | ⟨off, ha, hcell⟩
  · exact .inl (by simp [h])
  · by_cases hn : n < bs.length
    · refine .inr ⟨off + n, ?_, fun j hj => ?_⟩
      · unfold cutAt
        rw [if_neg (by omega), ha]
        simp [Addr.add_lit]
      · have := hcell (n + j) (by simp at hj; omega)
        rw [show off + n + j = off + (n + j) by omega, this]
        simp
    · exact .inl (List.drop_eq_nil_of_le (by omega))

/-- A reader in block r: its bytes lie in block d; bs are left, 'at' were read, err is its first error. -/
structure Rd (w : World) (r d : Nat) (ao : Option Addr) (cap : Nat) (bs : List UInt8) (n : Nat) (err : Int) : Prop where
  c0 : w.cell? ⟨r, 0, none⟩ = some (.int .i64 (n : Int))
  c1 : w.cell? ⟨r, 1, none⟩ = some (.int .i64 err)
  c2 : w.cell? ⟨r, 2, none⟩ = some (.slice ao bs.length cap)
  f0 : w.frozen? ⟨r, 0, none⟩ = false
  f1 : w.frozen? ⟨r, 1, none⟩ = false
  f2 : w.frozen? ⟨r, 2, none⟩ = false
  data : BS w ao bs d
  capLe : bs.length ≤ cap
  capMax : cap ≤ 9223372036854775807
  capNone : ao = none → cap = 0
  fit : n + bs.length ≤ 9223372036854775807
  ne : bs ≠ [] → d ≠ r

theorem Rd.lt {w : World} {r d : Nat} {ao : Option Addr} {cap : Nat} {bs : List UInt8} {n : Nat} {err : Int} (h : Rd w r d ao cap bs n err) : r < w.heap.size := World.block_lt_of_cell? w _ h.c0

theorem Rd.only {w w' : World} {S : List Nat} {r d : Nat} {ao : Option Addr} {cap : Nat} {bs : List UInt8} {n : Nat} {err : Int} (h : Rd w r d ao cap bs n err) (ho : Only S w w') (hr : r ∉ S) (hd : d ∉ S) : Rd w' r d ao cap bs n err := by
  have hl := h.lt
  exact { c0 := (ho.cell (p := ⟨r, 0, none⟩) hl hr).trans h.c0, c1 := (ho.cell (p := ⟨r, 1, none⟩) hl hr).trans h.c1, c2 := (ho.cell (p := ⟨r, 2, none⟩) hl hr).trans h.c2,
          f0 := (ho.frozen (p := ⟨r, 0, none⟩) hl hr).trans h.f0, f1 := (ho.frozen (p := ⟨r, 1, none⟩) hl hr).trans h.f1, f2 := (ho.frozen (p := ⟨r, 2, none⟩) hl hr).trans h.f2,
          data := h.data.only ho (fun _ => hd), capLe := h.capLe, capMax := h.capMax, capNone := h.capNone, fit := h.fit, ne := h.ne }

/-- A reader in block r, whatever the address of its bytes: what is left, how many were read, its error. -/
def RdE (w : World) (r d : Nat) (s : List UInt8 × Nat × Int) : Prop := ∃ ao cap, Rd w r d ao cap s.1 s.2.1 s.2.2

theorem RdE.only {w w' : World} {S : List Nat} {r d : Nat} {s : List UInt8 × Nat × Int} (h : RdE w r d s) (ho : Only S w w') (hr : r ∉ S) (hd : d ∉ S) : RdE w' r d s := by
  obtain ⟨ao, cap, h⟩ := h
  exact ⟨ao, cap, h.only ho hr hd⟩

theorem RdE.lt {w : World} {r d : Nat} {s : List UInt8 × Nat × Int} (h : RdE w r d s) : r < w.heap.size := by
  obtain ⟨ao, cap, h⟩ := h
  exact h.lt

/-- What a reader is when m bytes were taken. -/
theorem Rd.taken {w : World} {r d : Nat} {ao : Option Addr} {cap : Nat} {bs : List UInt8} {n : Nat} {err : Int} (h : Rd w r d ao cap bs n err) (m : Nat) (hm : m ≤ bs.length) (w' : World)
    (hw : (w.setCell ⟨r, 2, none⟩ (.slice (cutAt ao cap m) (bs.length - m) (cap - m))).setCell ⟨r, 0, none⟩ (.int .i64 ((n + m : Nat) : Int)) = w') :
    BS w' ao (bs.take m) d ∧ Rd w' r d (cutAt ao cap m) (cap - m) (bs.drop m) (n + m) err ∧ Only [r] w w' := by
  have ho : Only [r] w w' := by
    rw [← hw]
    exact ((Only.refl [r] w).setCell (.inl (by simp)) _).setCell (.inl (by simp)) _
  have hdata := h.data.only ho (fun hb => by simpa using h.ne hb)
  refine ⟨hdata.take m, ?_, ho⟩
  have hf : ∀ a, w'.frozen? a = w.frozen? a := fun a => by rw [← hw, frozen_setCell, frozen_setCell]
  have k0 : (w.setCell ⟨r, 2, none⟩ (.slice (cutAt ao cap m) (bs.length - m) (cap - m))).cell? ⟨r, 0, none⟩ = some (.int .i64 (n : Int)) := by
    rw [cell_setCell_ne w _ (by simp)]; exact h.c0
  have hc := h.capLe
  have hx := h.capMax
  have hfit := h.fit
  exact { c0 := by rw [← hw]; exact cell_setCell_same _ _ k0,
          c1 := by rw [← hw, cell_setCell_ne _ _ (by simp), cell_setCell_ne _ _ (by simp)]; exact h.c1,
          c2 := by rw [← hw, cell_setCell_ne _ _ (by simp), List.length_drop]; exact cell_setCell_same _ _ h.c2,
          f0 := (hf _).trans h.f0, f1 := (hf _).trans h.f1, f2 := (hf _).trans h.f2,
          data := hdata.drop m cap hc,
          capLe := by rw [List.length_drop]; omega, capMax := by omega, capNone := fun e => by have := h.capNone (cutAt_none e); omega, fit := by rw [List.length_drop]; omega, ne := fun hb => h.ne (fun e => hb (by rw [e]; simp)) }

/-- What a reader is when its first error was set. -/
theorem Rd.failed {w : World} {r d : Nat} {ao : Option Addr} {cap : Nat} {bs : List UInt8} {n : Nat} {err : Int} (h : Rd w r d ao cap bs n err) (x : Int) (w' : World)
    (hw : w.setCell ⟨r, 1, none⟩ (.int .i64 x) = w') : Rd w' r d ao cap bs n x ∧ Only [r] w w' := by
  have ho : Only [r] w w' := by
    rw [← hw]
    exact (Only.refl [r] w).setCell (.inl (by simp)) _
  have hf : ∀ a, w'.frozen? a = w.frozen? a := fun a => by rw [← hw, frozen_setCell]
  refine ⟨{ c0 := by rw [← hw, cell_setCell_ne _ _ (by simp)]; exact h.c0,
            c1 := by rw [← hw]; exact cell_setCell_same _ _ h.c1,
            c2 := by rw [← hw, cell_setCell_ne _ _ (by simp)]; exact h.c2,
            f0 := (hf _).trans h.f0, f1 := (hf _).trans h.f1, f2 := (hf _).trans h.f2,
            data := h.data.only ho (fun hb => by simpa using h.ne hb), capLe := h.capLe, capMax := h.capMax, capNone := h.capNone, fit := h.fit, ne := h.ne }, ho⟩

theorem fine_any (r : Nat) (x : Int) (w : World) (h1 : w.cell? ⟨r, 1, none⟩ = some (.int .i64 x)) :
  Calls Tryz.prog 63 #[.pointer (some ⟨r, 0, none⟩)] w fun e w' => e = .returned (.bool (x == 0)) ∧ w = w' := by
 go_enter Tryz.func63, Tryz.ntmps63
 go_wp2
 go_ret
 exact ⟨rfl, rfl⟩

theorem fail_new (r : Nat) (x : Int) (w : World) (h1 : w.cell? ⟨r, 1, none⟩ = some (.int .i64 0)) (f1 : w.frozen? ⟨r, 1, none⟩ = false) :
  Calls Tryz.prog 135 #[.pointer (some ⟨r, 0, none⟩), .int .i64 x] w fun e w' => e = .returned (.tuple #[]) ∧ w.setCell ⟨r, 1, none⟩ (.int .i64 x) = w' := by
 go_enter Tryz.func135, Tryz.ntmps135
 go_wp2_with (go_at_call 63; refine (fine_any r 0 _ (by assumption)).mono ?_; rintro e w' ⟨rfl, rfl⟩)
 go_end0
 exact ⟨rfl, rfl⟩

theorem fail_old (r : Nat) (x y : Int) (w : World) (hy : (y == 0) = false) (h1 : w.cell? ⟨r, 1, none⟩ = some (.int .i64 y)) :
  Calls Tryz.prog 135 #[.pointer (some ⟨r, 0, none⟩), .int .i64 x] w fun e w' => e = .returned (.tuple #[]) ∧ w = w' := by
 go_enter Tryz.func135, Tryz.ntmps135
 go_wp2_with (go_at_call 63; refine (fine_any r y _ (by assumption)).mono ?_; rintro e w' ⟨rfl, rfl⟩)
 go_end0
 exact ⟨rfl, rfl⟩

theorem move_any (r n m : Nat) (w : World) (h0 : w.cell? ⟨r, 0, none⟩ = some (.int .i64 (n : Int))) (f0 : w.frozen? ⟨r, 0, none⟩ = false) (hb : n + m ≤ 9223372036854775807) :
  Calls Tryz.prog 172 #[.pointer (some ⟨r, 0, none⟩), .int .i64 (m : Int)] w fun e w' => e = .returned (.tuple #[]) ∧ w.setCell ⟨r, 0, none⟩ (.int .i64 ((n + m : Nat) : Int)) = w' := by
 go_enter Tryz.func172, Tryz.ntmps172
 go_wp2
 go_end0
 exact ⟨rfl, by simp⟩

end Go.Proofs.YtildemmkhndhjaaGreatDoor
