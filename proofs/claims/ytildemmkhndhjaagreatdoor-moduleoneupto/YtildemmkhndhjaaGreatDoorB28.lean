/-
  ModuleOne answers true for any two modules whose bulk is at most 1048576: two modules that may be have the same bytes just where they are the same. errors.errorType holds what the program's text lays there (the tie is given).
-/
import Derived.Test.YtildemmkhndhjaaGreatDoorB27
import Derived.Test.YtildemmkhndhjaaGreatDoorB21
import Derived.Test.YtildemmkhndhjaaGreatDoorB22
import Derived.Test.YtildemmkhndhjaaGreatDoorCards
import Derived.Test.YtildemmkhndhjaaGreatDoorTie
import Derived.Test.YtildemmkhndhjaaGreatDoorB01
namespace Go.Proofs.YtildemmkhndhjaaGreatDoor
open Go.ChangeShapes Go.WideShapes Go.ChangeAt Go.RowKit

/-- The cells of a list whose elements' cells are known. -/
theorem els_flat_eq {α : Type} {k : Nat} {f : α → List Value} {cs : List Value} {l : List α} (h : Els k (fun c y => c = f y) cs l) (hk : 0 < k) (hf : ∀ x, (f x).length = k) : cs = l.flatMap f := by
 have h2 := els_flat f hf l
 apply List.ext_getElem?
 intro j
 by_cases hj : j < l.length * k
 ·have hq : j / k < l.length := Nat.div_lt_of_lt_mul (by rw [Nat.mul_comm]; exact hj)
  have hr : j % k < k := Nat.mod_lt _ hk
  have hj2 : j / k * k + j % k = j := by rw [Nat.mul_comm]; exact Nat.div_add_mod j k
  have e1 : cs[j]? = (f l[j / k])[j % k]? := by rw [← h.el (j / k) hq, List.getElem?_take, if_pos hr, List.getElem?_drop, hj2]
  have e2 : (l.flatMap f)[j]? = (f l[j / k])[j % k]? := by rw [← h2.el (j / k) hq, List.getElem?_take, if_pos hr, List.getElem?_drop, hj2]
  rw [e1, e2]
 ·rw [List.getElem?_eq_none (by rw [h.len]; omega), List.getElem?_eq_none (by rw [h2.len]; omega)]

theorem tcs_flat (l : List Ty) : tcs l = l.flatMap fun t => [.int .i64 t.1, .string (str t.2)] := by
 induction l with
 | nil => rfl
 | cons t l ih => simp [tcs, ih]

theorem bcs_flat (l : List UInt8) : bcs l = l.flatMap fun c => [.int .u8 (c.toNat : Int)] := by
 induction l with
 | nil => rfl
 | cons t l ih => simp only [bcs, List.map_cons, List.flatMap_cons] at ih ⊢; rw [ih]; rfl

def enC (e : En) : List Value := [.int .i64 e.1, .string (str e.2.1), .int .i64 e.2.2.1, .int .i64 e.2.2.2.1, .int .i64 e.2.2.2.2.1, .int .i64 e.2.2.2.2.2]
theorem ecs_flat (l : List En) : ecs l = l.flatMap enC := by
 induction l with
 | nil => rfl
 | cons t l ih => simp [ecs, ih, enC]

theorem els_all {α : Type} {k B : Nat} {f : α → List Value} {Q : α → Nat → Prop} {cs : List Value} {l : List α} (h : Els k (fun c y => ∃ b, b ≤ B ∧ (c = f y ∧ Q y b)) cs l) : Els k (fun c y => c = f y) cs l ∧ ∀ y ∈ l, ∃ b, b ≤ B ∧ Q y b :=
 ⟨h.imp fun _ _ _ ⟨_, _, h, _⟩ => h, fun y hy => by
  obtain ⟨j, hj, rfl⟩ := List.getElem_of_mem hy
  obtain ⟨b, hb, _, hq⟩ := h.el j hj
  exact ⟨b, hb, hq⟩⟩


theorem list_2 {α : Type} {l : List α} (h : l.length = 2) : ∃ a0 a1, l = [a0, a1] := by
 match l, h with
 | [a0, a1], _ => exact ⟨a0, a1, rfl⟩

theorem list_4 {α : Type} {l : List α} (h : l.length = 4) : ∃ a0 a1 a2 a3, l = [a0, a1, a2, a3] := by
 match l, h with
 | [a0, a1, a2, a3], _ => exact ⟨a0, a1, a2, a3, rfl⟩

theorem list_6 {α : Type} {l : List α} (h : l.length = 6) : ∃ a0 a1 a2 a3 a4 a5, l = [a0, a1, a2, a3, a4, a5] := by
 match l, h with
 | [a0, a1, a2, a3, a4, a5], _ => exact ⟨a0, a1, a2, a3, a4, a5, rfl⟩

theorem list_10 {α : Type} {l : List α} (h : l.length = 10) : ∃ a0 a1 a2 a3 a4 a5 a6 a7 a8 a9, l = [a0, a1, a2, a3, a4, a5, a6, a7, a8, a9] := by
 match l, h with
 | [a0, a1, a2, a3, a4, a5, a6, a7, a8, a9], _ => exact ⟨a0, a1, a2, a3, a4, a5, a6, a7, a8, a9, rfl⟩

section
variable {H : Type} {enc : TypeId × Value → H} {W : World}

theorem trod_field {t : TypeId} {fs : Array Field} {fuel : Nat} {cs : List Value} {x : DataW H × List MemPlace} (ht : Tryz.prog.underlying t = some (.struct fs)) (h : DataW.trod enc Tryz.prog W 0 (fun _ => true) true fuel t cs = some x) :
  cs.length = Tryz.prog.cellsOf t ∧ ∀ (i : Nat) (f : Field), fs[i]? = some f → ∃ (n : Nat) (y : DataW H × List MemPlace), DataW.trod enc Tryz.prog W 0 (fun _ => true) true n f.type ((cs.drop f.offset).take (Tryz.prog.cellsOf f.type)) = some y ∧ Rows.uptoBulk y.1 ≤ Rows.uptoBulk x.1 := by
 obtain ⟨xs, n, _, hx, hl, hlen, hf⟩ := DataW.trod_struct ht h
 refine ⟨hl, fun i f hi => ?_⟩
 have hi' : i < xs.length := by rw [hlen]; exact (Array.getElem?_eq_some_iff.1 hi).1
 have := hf i f hi
 rw [List.getElem?_eq_getElem hi'] at this
 refine ⟨n, xs[i], this, ?_⟩
 have hb := bulk_mem (xs.map (·.1)) xs[i].1 (List.mem_map.2 ⟨xs[i], List.getElem_mem hi', rfl⟩)
 rw [hx]
 simp only [Rows.uptoBulk]
 omega

theorem c_int : Tryz.prog.cellsOf 3 = 1 := by kernel_rfl
theorem c_int64 : Tryz.prog.cellsOf 2 = 1 := by kernel_rfl
theorem c_bool : Tryz.prog.cellsOf 4 = 1 := by kernel_rfl
theorem c_string : Tryz.prog.cellsOf 9 = 1 := by kernel_rfl
theorem c_byte : Tryz.prog.cellsOf 5 = 1 := by kernel_rfl
theorem c_type : Tryz.prog.cellsOf 35 = 2 := by kernel_rfl
theorem c_sig : Tryz.prog.cellsOf 37 = 4 := by kernel_rfl
theorem c_hd : Tryz.prog.cellsOf 46 = 4 := by kernel_rfl
theorem c_fd : Tryz.prog.cellsOf 44 = 4 := by kernel_rfl
theorem c_en : Tryz.prog.cellsOf 90 = 6 := by kernel_rfl
theorem c_me : Tryz.prog.cellsOf 41 = 10 := by kernel_rfl
theorem c_cl : Tryz.prog.cellsOf 28 = 6 := by kernel_rfl
theorem c_mo : Tryz.prog.cellsOf 32 = 2 := by kernel_rfl
theorem c_ls : Tryz.prog.cellsOf 24 = 1 := by kernel_rfl
theorem c_lb : Tryz.prog.cellsOf 38 = 1 := by kernel_rfl
theorem c_lt : Tryz.prog.cellsOf 33 = 1 := by kernel_rfl
theorem c_lh : Tryz.prog.cellsOf 39 = 1 := by kernel_rfl
theorem c_lf : Tryz.prog.cellsOf 25 = 1 := by kernel_rfl
theorem c_lm : Tryz.prog.cellsOf 26 = 1 := by kernel_rfl
theorem c_le : Tryz.prog.cellsOf 29 = 1 := by kernel_rfl
theorem c_lc : Tryz.prog.cellsOf 30 = 1 := by kernel_rfl

/-- A number that a machine holds. -/
def I64 (n : Int) : Prop := -9223372036854775808 ≤ n ∧ n ≤ 9223372036854775807
theorem i64_of {n : Int} (h : (Lit.int .i64 n).wf = true) : I64 n := bounds_i64 h

/-- How great the parts of a module are that came in: B bounds each of them. -/
structure SgSm (B : Nat) (g : Sg) : Prop where
 n : g.1.length ≤ B
 each : ∀ t ∈ g.1, t.2.length ≤ B ∧ t.2.length ≤ 9223372036854775807
 res : g.2.2.2.length ≤ B
 res2 : g.2.2.2.length ≤ 9223372036854775807

theorem SgSm.mono {B C : Nat} {g : Sg} (h : SgSm B g) (hC : B ≤ C) : SgSm C g := ⟨Nat.le_trans h.n hC, fun t ht => ⟨Nat.le_trans (h.each t ht).1 hC, (h.each t ht).2⟩, Nat.le_trans h.res hC, h.res2⟩

structure MeSm (B : Nat) (m : Me) : Prop where
 name : m.name.length ≤ B
 name2 : m.name.length ≤ 9223372036854775807
 sig : SgSm B m.sig
 code : m.code.length ≤ B
 n : m.hands.length ≤ B
 each : ∀ h ∈ m.hands, h.2.2.2.length ≤ B ∧ h.2.2.2.length ≤ 9223372036854775807

theorem MeSm.mono {B C : Nat} {m : Me} (h : MeSm B m) (hC : B ≤ C) : MeSm C m := ⟨Nat.le_trans h.name hC, h.name2, h.sig.mono hC, Nat.le_trans h.code hC, Nat.le_trans h.n hC, fun x hx => ⟨Nat.le_trans (h.each x hx).1 hC, (h.each x hx).2⟩⟩

theorem MeSm.fit {B : Nat} {m : Me} (h : MeSm B m) : MeFit m := ⟨h.name2, fun t ht => (h.sig.each t ht).2, h.sig.res2, fun x hx => (h.each x hx).2⟩

structure ClSm (B : Nat) (c : Cl) : Prop where
 name : c.name.length ≤ B
 name2 : c.name.length ≤ 9223372036854775807
 super : c.super.length ≤ B
 super2 : c.super.length ≤ 9223372036854775807
 nf : c.faces.length ≤ B
 faces : ∀ s ∈ c.faces, s.length ≤ B ∧ s.length ≤ 9223372036854775807
 nd : c.fields.length ≤ B
 fields : ∀ f ∈ c.fields, (f.2.1.length ≤ B ∧ f.2.2.2.length ≤ B) ∧ (f.2.1.length ≤ 9223372036854775807 ∧ f.2.2.2.length ≤ 9223372036854775807)
 nm : c.methods.length ≤ B
 methods : ∀ m ∈ c.methods, MeSm B m

theorem ClSm.mono {B C : Nat} {c : Cl} (h : ClSm B c) (hC : B ≤ C) : ClSm C c := ⟨Nat.le_trans h.name hC, h.name2, Nat.le_trans h.super hC, h.super2, Nat.le_trans h.nf hC, fun s hs => ⟨Nat.le_trans (h.faces s hs).1 hC, (h.faces s hs).2⟩, Nat.le_trans h.nd hC, fun f hf => ⟨⟨Nat.le_trans (h.fields f hf).1.1 hC, Nat.le_trans (h.fields f hf).1.2 hC⟩, (h.fields f hf).2⟩, Nat.le_trans h.nm hC, fun m hm => (h.methods m hm).mono hC⟩

theorem ClSm.fit {B : Nat} {c : Cl} (h : ClSm B c) : ClFit c := ⟨h.name2, h.super2, fun s hs => (h.faces s hs).2, fun f hf => (h.fields f hf).2, fun m hm => (h.methods m hm).fit⟩

structure MoSm (B : Nat) (m : Mo) : Prop where
 np : m.pool.length ≤ B
 pool : ∀ e ∈ m.pool, e.2.1.length ≤ B ∧ e.2.1.length ≤ 9223372036854775807 ∧ I64 e.2.2.1
 nc : m.classes.length ≤ B
 classes : ∀ c ∈ m.classes, ClSm B c

theorem MoSm.fit {B : Nat} {m : Mo} (h : MoSm B m) : MoFit m := ⟨fun e he => (h.pool e he).2.1, fun c hc => (h.classes c hc).fit⟩

theorem e_string {fuel : Nat} {cs : List Value} {x : DataW H × List MemPlace} (h : DataW.trod enc Tryz.prog W 0 (fun _ => true) true fuel 9 cs = some x) : ∃ s : List UInt8, cs = scC s ∧ s.length ≤ Rows.uptoBulk x.1 ∧ s.length ≤ 9223372036854775807 := by
 obtain ⟨s, e1, q1, hs⟩ := DataW.trod_string Tryz.underlying9 h
 have hsz : s.data.toList.length = s.size := by cases s; rfl
 refine ⟨s.data.toList, by rw [e1]; unfold scC; rw [← str_of], ?_, by rw [hsz]; simpa [maxLen] using hs⟩
 simp only [q1, Rows.uptoBulk]
 omega

theorem e_byte {fuel : Nat} {cs : List Value} {x : DataW H × List MemPlace} (h : DataW.trod enc Tryz.prog W 0 (fun _ => true) true fuel 5 cs = some x) : ∃ c : UInt8, cs = [.int .u8 (c.toNat : Int)] ∧ True := by
 obtain ⟨n, e1, _, hw⟩ := DataW.trod_int Tryz.underlying5 h
 have := bounds_u8 hw
 refine ⟨UInt8.ofNat n.toNat, ?_, trivial⟩
 rw [e1, UInt8.toNat_ofNat', show ((n.toNat % 2 ^ 8 : Nat) : Int) = n by omega]

theorem e_type {fuel : Nat} {cs : List Value} {x : DataW H × List MemPlace} (h : DataW.trod enc Tryz.prog W 0 (fun _ => true) true fuel 35 cs = some x) : ∃ t : Ty, cs = [.int .i64 t.1, .string (str t.2)] ∧ t.2.length ≤ Rows.uptoBulk x.1 ∧ t.2.length ≤ 9223372036854775807 := by
 obtain ⟨hl, hf⟩ := trod_field Tryz.underlying35 h
 rw [c_type] at hl
 obtain ⟨a0, a1, rfl⟩ := list_2 hl
 obtain ⟨n0, y0, g0, b0⟩ := hf 0 _ rfl
 obtain ⟨n1, y1, g1, b1⟩ := hf 1 _ rfl
 simp only [List.getElem_toArray, List.getElem_cons_zero, List.getElem_cons_succ, c_int, c_string, List.drop_zero, List.drop_succ_cons, List.take_succ_cons, List.take_zero] at g0 g1
 obtain ⟨i0, e0, _, w0⟩ := DataW.trod_int Tryz.underlying3 g0
 simp only [List.cons.injEq, and_true] at e0
 subst e0
 obtain ⟨i1, e1, l1, m1⟩ := e_string g1
 simp only [scC, List.cons.injEq, and_true] at e1
 subst e1
 exact ⟨(i0, i1), rfl, Nat.le_trans l1 b1, m1⟩

theorem e_hd {fuel : Nat} {cs : List Value} {x : DataW H × List MemPlace} (h : DataW.trod enc Tryz.prog W 0 (fun _ => true) true fuel 46 cs = some x) : ∃ y : Hd, cs = hdC y ∧ y.2.2.2.length ≤ Rows.uptoBulk x.1 ∧ y.2.2.2.length ≤ 9223372036854775807 := by
 obtain ⟨hl, hf⟩ := trod_field Tryz.underlying46 h
 rw [c_hd] at hl
 obtain ⟨a0, a1, a2, a3, rfl⟩ := list_4 hl
 obtain ⟨n0, y0, g0, b0⟩ := hf 0 _ rfl
 obtain ⟨n1, y1, g1, b1⟩ := hf 1 _ rfl
 obtain ⟨n2, y2, g2, b2⟩ := hf 2 _ rfl
 obtain ⟨n3, y3, g3, b3⟩ := hf 3 _ rfl
 simp only [List.getElem_toArray, List.getElem_cons_zero, List.getElem_cons_succ, c_int, c_string, List.drop_zero, List.drop_succ_cons, List.take_succ_cons, List.take_zero] at g0 g1 g2 g3
 obtain ⟨i0, e0, _, w0⟩ := DataW.trod_int Tryz.underlying3 g0
 simp only [List.cons.injEq, and_true] at e0
 subst e0
 obtain ⟨i1, e1, _, w1⟩ := DataW.trod_int Tryz.underlying3 g1
 simp only [List.cons.injEq, and_true] at e1
 subst e1
 obtain ⟨i2, e2, _, w2⟩ := DataW.trod_int Tryz.underlying3 g2
 simp only [List.cons.injEq, and_true] at e2
 subst e2
 obtain ⟨i3, e3, l3, m3⟩ := e_string g3
 simp only [scC, List.cons.injEq, and_true] at e3
 subst e3
 exact ⟨(i0, i1, i2, i3), rfl, Nat.le_trans l3 b3, m3⟩

theorem e_fd {fuel : Nat} {cs : List Value} {x : DataW H × List MemPlace} (h : DataW.trod enc Tryz.prog W 0 (fun _ => true) true fuel 44 cs = some x) : ∃ y : Fd, cs = fdC y ∧ (y.2.1.length ≤ Rows.uptoBulk x.1 ∧ y.2.2.2.length ≤ Rows.uptoBulk x.1) ∧ (y.2.1.length ≤ 9223372036854775807 ∧ y.2.2.2.length ≤ 9223372036854775807) := by
 obtain ⟨hl, hf⟩ := trod_field Tryz.underlying44 h
 rw [c_fd] at hl
 obtain ⟨a0, a1, a2, a3, rfl⟩ := list_4 hl
 obtain ⟨n0, y0, g0, b0⟩ := hf 0 _ rfl
 obtain ⟨n1, y1, g1, b1⟩ := hf 1 _ rfl
 obtain ⟨n2, y2, g2, b2⟩ := hf 2 _ rfl
 simp only [List.getElem_toArray, List.getElem_cons_zero, List.getElem_cons_succ, c_int, c_string, c_type, List.drop_zero, List.drop_succ_cons, List.take_succ_cons, List.take_zero] at g0 g1 g2
 obtain ⟨i0, e0, _, w0⟩ := DataW.trod_int Tryz.underlying3 g0
 simp only [List.cons.injEq, and_true] at e0
 subst e0
 obtain ⟨i1, e1, l1, m1⟩ := e_string g1
 simp only [scC, List.cons.injEq, and_true] at e1
 subst e1
 obtain ⟨i2, e2, l2, m2⟩ := e_type g2
 simp only [List.cons.injEq, and_true] at e2
 obtain ⟨rfl, rfl⟩ := e2
 exact ⟨(i0, i1, i2), rfl, ⟨Nat.le_trans l1 b1, Nat.le_trans l2 b2⟩, m1, m2⟩

theorem e_en {fuel : Nat} {cs : List Value} {x : DataW H × List MemPlace} (h : DataW.trod enc Tryz.prog W 0 (fun _ => true) true fuel 90 cs = some x) : ∃ y : En, cs = enC y ∧ y.2.1.length ≤ Rows.uptoBulk x.1 ∧ y.2.1.length ≤ 9223372036854775807 ∧ I64 y.2.2.1 := by
 obtain ⟨hl, hf⟩ := trod_field Tryz.underlying90 h
 rw [c_en] at hl
 obtain ⟨a0, a1, a2, a3, a4, a5, rfl⟩ := list_6 hl
 obtain ⟨n0, y0, g0, b0⟩ := hf 0 _ rfl
 obtain ⟨n1, y1, g1, b1⟩ := hf 1 _ rfl
 obtain ⟨n2, y2, g2, b2⟩ := hf 2 _ rfl
 obtain ⟨n3, y3, g3, b3⟩ := hf 3 _ rfl
 obtain ⟨n4, y4, g4, b4⟩ := hf 4 _ rfl
 obtain ⟨n5, y5, g5, b5⟩ := hf 5 _ rfl
 simp only [List.getElem_toArray, List.getElem_cons_zero, List.getElem_cons_succ, c_int, c_string, c_int64, List.drop_zero, List.drop_succ_cons, List.take_succ_cons, List.take_zero] at g0 g1 g2 g3 g4 g5
 obtain ⟨i0, e0, _, w0⟩ := DataW.trod_int Tryz.underlying3 g0
 simp only [List.cons.injEq, and_true] at e0
 subst e0
 obtain ⟨i1, e1, l1, m1⟩ := e_string g1
 simp only [scC, List.cons.injEq, and_true] at e1
 subst e1
 obtain ⟨i2, e2, _, w2⟩ := DataW.trod_int Tryz.underlying2 g2
 simp only [List.cons.injEq, and_true] at e2
 subst e2
 obtain ⟨i3, e3, _, w3⟩ := DataW.trod_int Tryz.underlying3 g3
 simp only [List.cons.injEq, and_true] at e3
 subst e3
 obtain ⟨i4, e4, _, w4⟩ := DataW.trod_int Tryz.underlying3 g4
 simp only [List.cons.injEq, and_true] at e4
 subst e4
 obtain ⟨i5, e5, _, w5⟩ := DataW.trod_int Tryz.underlying3 g5
 simp only [List.cons.injEq, and_true] at e5
 subst e5
 exact ⟨(i0, i1, i2, i3, i4, i5), rfl, Nat.le_trans l1 b1, m1, i64_of w2⟩

theorem e_sig {fuel : Nat} {cs : List Value} {x : DataW H × List MemPlace} (h : DataW.trod enc Tryz.prog W 0 (fun _ => true) true fuel 37 cs = some x) : ∃ (g : Sg) (v : Value), cs = [v, .bool g.2.1, .int .i64 g.2.2.1, .string (str g.2.2.2)] ∧ SlV W (fun _ => True) v g.1.length (tcs g.1) ∧ SgSm (Rows.uptoBulk x.1) g := by
 obtain ⟨hl, hf⟩ := trod_field Tryz.underlying37 h
 rw [c_sig] at hl
 obtain ⟨a0, a1, a2, a3, rfl⟩ := list_4 hl
 obtain ⟨n0, y0, g0, b0⟩ := hf 0 _ rfl
 obtain ⟨n1, y1, g1, b1⟩ := hf 1 _ rfl
 obtain ⟨n2, y2, g2, b2⟩ := hf 2 _ rfl
 simp only [List.getElem_toArray, List.getElem_cons_zero, List.getElem_cons_succ, c_lt, c_bool, c_type, List.drop_zero, List.drop_succ_cons, List.take_succ_cons, List.take_zero] at g0 g1 g2
 obtain ⟨i0, cs0, s0, r0, l0⟩ := cell_row (A := fun c (y : Ty) b => c = [.int .i64 y.1, .string (str y.2)] ∧ (y.2.length ≤ b ∧ y.2.length ≤ 9223372036854775807)) Tryz.underlying33 c_type (by decide) (fun _ _ _ q => e_type q) g0
 obtain ⟨u0, q0⟩ := els_all r0
 have z0 := els_flat_eq u0 (by decide) (fun _ => rfl)
 obtain ⟨i1, e1, _⟩ := DataW.trod_bool Tryz.underlying4 g1
 simp only [List.cons.injEq, and_true] at e1
 subst e1
 obtain ⟨i2, e2, l2, m2⟩ := e_type g2
 simp only [List.cons.injEq, and_true] at e2
 obtain ⟨rfl, rfl⟩ := e2
 refine ⟨(i0, i1, i2), a0, rfl, ?_, ?_⟩
 ·rw [tcs_flat, ← z0]; exact s0
 ·exact ⟨Nat.le_trans l0 b0, fun t ht => by obtain ⟨b, hb, h1, h2⟩ := q0 t ht; exact ⟨by omega, h2⟩, Nat.le_trans l2 b2, m2⟩

theorem e_me {fuel : Nat} {cs : List Value} {x : DataW H × List MemPlace} (h : DataW.trod enc Tryz.prog W 0 (fun _ => true) true fuel 41 cs = some x) : ∃ m : Me, MeC (SlR W fun _ => True) cs m ∧ MeSm (Rows.uptoBulk x.1) m := by
 obtain ⟨hl, hf⟩ := trod_field Tryz.underlying41 h
 rw [c_me] at hl
 obtain ⟨a0, a1, a2, a3, a4, a5, a6, a7, a8, a9, rfl⟩ := list_10 hl
 obtain ⟨n0, y0, g0, b0⟩ := hf 0 _ rfl
 obtain ⟨n1, y1, g1, b1⟩ := hf 1 _ rfl
 obtain ⟨n2, y2, g2, b2⟩ := hf 2 _ rfl
 obtain ⟨n3, y3, g3, b3⟩ := hf 3 _ rfl
 obtain ⟨n4, y4, g4, b4⟩ := hf 4 _ rfl
 obtain ⟨n5, y5, g5, b5⟩ := hf 5 _ rfl
 obtain ⟨n6, y6, g6, b6⟩ := hf 6 _ rfl
 simp only [List.getElem_toArray, List.getElem_cons_zero, List.getElem_cons_succ, c_int, c_string, c_sig, c_lb, c_lh, List.drop_zero, List.drop_succ_cons, List.take_succ_cons, List.take_zero] at g0 g1 g2 g3 g4 g5 g6
 obtain ⟨i0, e0, _, w0⟩ := DataW.trod_int Tryz.underlying3 g0
 simp only [List.cons.injEq, and_true] at e0
 subst e0
 obtain ⟨i1, e1, l1, m1⟩ := e_string g1
 simp only [scC, List.cons.injEq, and_true] at e1
 subst e1
 obtain ⟨i2, v2, e2, s2, l2⟩ := e_sig g2
 simp only [List.cons.injEq, and_true] at e2
 obtain ⟨rfl, rfl, rfl, rfl⟩ := e2
 obtain ⟨i3, e3, _, w3⟩ := DataW.trod_int Tryz.underlying3 g3
 simp only [List.cons.injEq, and_true] at e3
 subst e3
 obtain ⟨i4, e4, _, w4⟩ := DataW.trod_int Tryz.underlying3 g4
 simp only [List.cons.injEq, and_true] at e4
 subst e4
 obtain ⟨i5, cs5, s5, r5, l5⟩ := cell_row (A := fun c (y : UInt8) _ => c = [.int .u8 (y.toNat : Int)] ∧ True) Tryz.underlying38 c_byte (by decide) (fun _ _ _ q => e_byte q) g5
 obtain ⟨u5, q5⟩ := els_all r5
 have z5 := els_flat_eq u5 (by decide) (fun _ => rfl)
 obtain ⟨i6, cs6, s6, r6, l6⟩ := cell_row (A := fun c (y : Hd) b => c = hdC y ∧ (y.2.2.2.length ≤ b ∧ y.2.2.2.length ≤ 9223372036854775807)) Tryz.underlying39 c_hd (by decide) (fun _ _ _ q => e_hd q) g6
 obtain ⟨u6, q6⟩ := els_all r6
 have z6 := els_flat_eq u6 (by decide) (fun _ => rfl)
 refine ⟨⟨i0, i1, i2, i3, i4, i5, i6⟩, ⟨a2, a8, a9, rfl, ⟨s2, ?_, ?_⟩⟩, ?_⟩
 ·show SlV W _ a8 i5.length (bcs i5); rw [bcs_flat, ← z5]; exact s5
 ·show SlV W _ a9 i6.length (hcs i6); unfold hcs; rw [← z6]; exact s6
 ·exact ⟨Nat.le_trans l1 b1, m1, l2.mono b2, Nat.le_trans l5 b5, Nat.le_trans l6 b6, fun h hh => by obtain ⟨b, hb, h1, h2⟩ := q6 h hh; exact ⟨by omega, h2⟩⟩

theorem e_cl {fuel : Nat} {cs : List Value} {x : DataW H × List MemPlace} (h : DataW.trod enc Tryz.prog W 0 (fun _ => true) true fuel 28 cs = some x) : ∃ c : Cl, ClC (SlR W fun _ => True) cs c ∧ ClSm (Rows.uptoBulk x.1) c := by
 obtain ⟨hl, hf⟩ := trod_field Tryz.underlying28 h
 rw [c_cl] at hl
 obtain ⟨a0, a1, a2, a3, a4, a5, rfl⟩ := list_6 hl
 obtain ⟨n0, y0, g0, b0⟩ := hf 0 _ rfl
 obtain ⟨n1, y1, g1, b1⟩ := hf 1 _ rfl
 obtain ⟨n2, y2, g2, b2⟩ := hf 2 _ rfl
 obtain ⟨n3, y3, g3, b3⟩ := hf 3 _ rfl
 obtain ⟨n4, y4, g4, b4⟩ := hf 4 _ rfl
 obtain ⟨n5, y5, g5, b5⟩ := hf 5 _ rfl
 simp only [List.getElem_toArray, List.getElem_cons_zero, List.getElem_cons_succ, c_int, c_string, c_ls, c_lf, c_lm, List.drop_zero, List.drop_succ_cons, List.take_succ_cons, List.take_zero] at g0 g1 g2 g3 g4 g5
 obtain ⟨i0, e0, _, w0⟩ := DataW.trod_int Tryz.underlying3 g0
 simp only [List.cons.injEq, and_true] at e0
 subst e0
 obtain ⟨i1, e1, l1, m1⟩ := e_string g1
 simp only [scC, List.cons.injEq, and_true] at e1
 subst e1
 obtain ⟨i2, e2, l2, m2⟩ := e_string g2
 simp only [scC, List.cons.injEq, and_true] at e2
 subst e2
 obtain ⟨i3, cs3, s3, r3, l3⟩ := cell_row (A := fun c (y : List UInt8) b => c = scC y ∧ (y.length ≤ b ∧ y.length ≤ 9223372036854775807)) Tryz.underlying24 c_string (by decide) (fun _ _ _ q => e_string q) g3
 obtain ⟨u3, q3⟩ := els_all r3
 have z3 := els_flat_eq u3 (by decide) (fun _ => rfl)
 obtain ⟨i4, cs4, s4, r4, l4⟩ := cell_row (A := fun c (y : Fd) b => c = fdC y ∧ ((y.2.1.length ≤ b ∧ y.2.2.2.length ≤ b) ∧ (y.2.1.length ≤ 9223372036854775807 ∧ y.2.2.2.length ≤ 9223372036854775807))) Tryz.underlying25 c_fd (by decide) (fun _ _ _ q => e_fd q) g4
 obtain ⟨u4, q4⟩ := els_all r4
 have z4 := els_flat_eq u4 (by decide) (fun _ => rfl)
 obtain ⟨i5, cs5, s5, r5, l5⟩ := cell_row (A := fun c (y : Me) b => MeC (SlR W fun _ => True) c y ∧ MeSm b y) Tryz.underlying26 c_me (by decide) (fun _ _ _ q => e_me q) g5
 refine ⟨⟨i0, i1, i2, i3, i4, i5⟩, ⟨a3, a4, a5, rfl, ⟨?_, ?_, cs5, s5, r5.imp fun _ _ _ ⟨_, _, h, _⟩ => h⟩⟩, ?_⟩
 ·show SlV W _ a3 i3.length (scs i3); unfold scs; rw [← z3]; exact s3
 ·show SlV W _ a4 i4.length (fcs i4); unfold fcs; rw [← z4]; exact s4
 ·exact ⟨Nat.le_trans l1 b1, m1, Nat.le_trans l2 b2, m2, Nat.le_trans l3 b3, fun s hs => by obtain ⟨b, hb, h1, h2⟩ := q3 s hs; exact ⟨by omega, h2⟩, Nat.le_trans l4 b4, fun f hf => by obtain ⟨b, hb, ⟨h1, h2⟩, h3⟩ := q4 f hf; exact ⟨⟨by omega, by omega⟩, h3⟩, Nat.le_trans l5 b5, fun m hm => by
   obtain ⟨j, hj, rfl⟩ := List.getElem_of_mem hm
   obtain ⟨b, hb, _, h2⟩ := r5.el j hj
   exact h2.mono (by omega)⟩

theorem e_mo {fuel : Nat} {cs : List Value} {x : DataW H × List MemPlace} (h : DataW.trod enc Tryz.prog W 0 (fun _ => true) true fuel 32 cs = some x) : ∃ (m : Mo) (vp vc : Value), cs = [vp, vc] ∧ MoAt (SlR W fun _ => True) vp vc m ∧ MoSm (Rows.uptoBulk x.1) m := by
 obtain ⟨hl, hf⟩ := trod_field Tryz.underlying32 h
 rw [c_mo] at hl
 obtain ⟨a0, a1, rfl⟩ := list_2 hl
 obtain ⟨n0, y0, g0, b0⟩ := hf 0 _ rfl
 obtain ⟨n1, y1, g1, b1⟩ := hf 1 _ rfl
 simp only [List.getElem_toArray, List.getElem_cons_zero, List.getElem_cons_succ, c_le, c_lc, List.drop_zero, List.drop_succ_cons, List.take_succ_cons, List.take_zero] at g0 g1
 obtain ⟨i0, cs0, s0, r0, l0⟩ := cell_row (A := fun c (y : En) b => c = enC y ∧ (y.2.1.length ≤ b ∧ y.2.1.length ≤ 9223372036854775807 ∧ I64 y.2.2.1)) Tryz.underlying29 c_en (by decide) (fun _ _ _ q => e_en q) g0
 obtain ⟨u0, q0⟩ := els_all r0
 have z0 := els_flat_eq u0 (by decide) (fun _ => rfl)
 obtain ⟨i1, cs1, s1, r1, l1⟩ := cell_row (A := fun c (y : Cl) b => ClC (SlR W fun _ => True) c y ∧ ClSm b y) Tryz.underlying30 c_cl (by decide) (fun _ _ _ q => e_cl q) g1
 refine ⟨⟨i0, i1⟩, a0, a1, rfl, ⟨?_, cs1, s1, r1.imp fun _ _ _ ⟨_, _, h, _⟩ => h⟩, ?_⟩
 ·show SlV W _ a0 i0.length (ecs i0); rw [ecs_flat, ← z0]; exact s0
 ·exact ⟨Nat.le_trans l0 b0, fun e he => by obtain ⟨b, hb, h1, h2⟩ := q0 e he; exact ⟨by omega, h2⟩, Nat.le_trans l1 b1, fun c hc => by
   obtain ⟨j, hj, rfl⟩ := List.getElem_of_mem hc
   obtain ⟨b, hb, _, h2⟩ := r1.el j hj
   exact h2.mono (by omega)⟩

set_option maxRecDepth 100000 in
/-- A module that came in. -/
theorem arg_module {base : Nat} {d : DataW H} {p : List MemPlace} {v : Value} (hval : Value.okWide Tryz.prog W .any base 32 v) (h : DataW.Trod enc Tryz.prog W 0 (fun _ => true) true 32 v d p) :
  ∃ (m : Mo) (vp vc : Value), v = .agg #[vp, vc] ∧ MoAt (SlR W fun _ => True) vp vc m ∧ MoSm (Rows.uptoBulk d) m := by
 obtain ⟨cs, rfl, _⟩ := okWide_struct Tryz.underlying32 hval
 obtain ⟨fuel, hf⟩ := h
 obtain ⟨m, vp, vc, hc, h1, h2⟩ := e_mo (x := (d, p)) (fuel := fuel) (by simpa [Value.cells] using hf)
 refine ⟨m, vp, vc, ?_, h1, h2⟩
 have : cs = #[vp, vc] := by
  apply Array.toList_inj.1
  simpa using hc
 rw [this]

end

end Go.Proofs.YtildemmkhndhjaaGreatDoor
namespace Go.Proofs.YtildemmkhndhjaaGreatDoor
open Go.RowKit

theorem keep_one {z0 z z' : World} {p q da db ca cb : Nat} {u0 u1 v0 v1 : Value} {ao bo : Option Addr} {a b : List UInt8} (hA : RS z0 ao (bcs a) da) (hB : RS z0 bo (bcs b) db) (ho : Only [] z z')
  (h : z.cell? ⟨p, 0, none⟩ = some u0 ∧ z.cell? ⟨p, 1, none⟩ = some u1 ∧ z.cell? ⟨q, 0, none⟩ = some v0 ∧ z.cell? ⟨q, 1, none⟩ = some v1 ∧ (convert 38 9 (.slice ao a.length ca)).run Tryz.prog z = .ok (.string (str a)) z ∧ (convert 38 9 (.slice bo b.length cb)).run Tryz.prog z = .ok (.string (str b)) z ∧ Only [] z0 z) :
  z'.cell? ⟨p, 0, none⟩ = some u0 ∧ z'.cell? ⟨p, 1, none⟩ = some u1 ∧ z'.cell? ⟨q, 0, none⟩ = some v0 ∧ z'.cell? ⟨q, 1, none⟩ = some v1 ∧ (convert 38 9 (.slice ao a.length ca)).run Tryz.prog z' = .ok (.string (str a)) z' ∧ (convert 38 9 (.slice bo b.length cb)).run Tryz.prog z' = .ok (.string (str b)) z' ∧ Only [] z0 z' := by
 obtain ⟨h0, h1, h2, h3, _, _, h6⟩ := h
 have k : ∀ {p : Addr} {v : Value}, z.cell? p = some v → z'.cell? p = some v := fun {p v} hc => (ho.cell (World.block_lt_of_cell? z _ hc) (by simp)).trans hc
 have o := h6.trans ho (by simp)
 exact ⟨k h0, k h1, k h2, k h3, (hA.only0 o).conv ca, (hB.only0 o).conv cb, o⟩

theorem MoSm.mono {B C : Nat} {m : Mo} (h : MoSm B m) (hC : B ≤ C) : MoSm C m := ⟨Nat.le_trans h.np hC, fun e he => ⟨Nat.le_trans (h.pool e he).1 hC, (h.pool e he).2⟩, Nat.le_trans h.nc hC, fun c hc => (h.classes c hc).mono hC⟩

theorem write_ok {m : Mo} (hn : ∀ e ∈ m.pool, -9223372036854775808 ≤ e.2.2.1 ∧ e.2.2.1 ≤ 9223372036854775807) (h : (writeM m).2.2.2.2 = 0) : (writeM m).1 = encM m ∧ MoGood m := by
 unfold writeM at h ⊢
 by_cases h1 : (checkM m).2.2.2 = 0
 ·rw [if_pos h1] at h ⊢
  by_cases h2 : 262144 < (encM m).length
  ·rw [if_pos h2] at h
   exact absurd h (by decide)
  ·rw [if_neg h2]
   exact ⟨rfl, mo_good h1 hn⟩
 ·rw [if_neg h1] at h
  exact absurd h h1

set_option maxHeartbeats 8000000 in
set_option maxRecDepth 100000 in
theorem modone_any {w : World} (hg : Ety w) {P Q : Nat → Prop} (m n : Mo) (hm : MoSm 1048576 m) (hn : MoSm 1048576 n) {vp vc up uc : Value} (hM : MoAt (SlR w P) vp vc m) (hN : MoAt (SlR w Q) up uc n) :
  Calls Tryz.prog 4 #[.agg #[vp, vc], .agg #[up, uc]] w fun e w' => e = .returned (.bool true) ∧ Only [] w w' := by
 have nm := fun e he => (hm.pool e he).2.2
 have nn := fun e he => (hn.pool e he).2.2
 have HK := fun W (hW : Only [] w W) => known5 (hg.only0 hW)
 have H1 := fun W (hW : Only [] w W) => small5_any m hm.fit (fun e he => (hm.pool e he).1) (fun c hc x hx => Nat.le_trans ((hm.classes c hc).methods x hx).sig.n (by decide)) nm (hM.only0 hW)
 have H2 := fun W (hW : Only [] w W) => small5_any n hn.fit (fun e he => (hn.pool e he).1) (fun c hc x hx => Nat.le_trans ((hn.classes c hc).methods x hx).sig.n (by decide)) nn (hN.only0 hW)
 have H3 := fun W (hW : Only [] w W) => mwrite_any (hg.only0 hW) (P := P) m hm.fit nm (hM.only0 hW)
 have H4 := fun W (hW : Only [] w W) => mwrite_any (hg.only0 hW) (P := Q) n hn.fit nn (hN.only0 hW)
 have H5 := fun W (hW : Only [] w W) => rsame_module m n (hM.only0 hW) (hN.only0 hW)
 have H6 := fun W (hW : Only [] w W) => msame_any m n (hM.only0 hW) (hN.only0 hW)
 obtain ⟨hP1, _, hC1, _⟩ := hM
 obtain ⟨hP2, _, hC2, _⟩ := hN
 obtain ⟨po, pc, rfl, _⟩ := SlV.shape hP1
 obtain ⟨co, cc, rfl, _⟩ := SlV.shape hC1
 obtain ⟨qo, qc, rfl, _⟩ := SlV.shape hP2
 obtain ⟨eo, ec, rfl, _⟩ := SlV.shape hC2
 have wk := hid (fun h => write_ok (m := m) nm h)
 have wn := hid (fun h => write_ok (m := n) nn h)
 clear hP1 hC1 hP2 hC2 nm nn hm hn hg
 replace HK := hid HK
 replace H1 := hid H1
 replace H2 := hid H2
 replace H3 := hid H3
 replace H4 := hid H4
 replace H5 := hid H5
 replace H6 := hid H6
 have o1 := ((Only.refl [] w).alloc (.cells #[.slice po m.pool.length pc, .slice co m.classes.length cc] 32)).alloc (.cells #[.slice qo n.pool.length qc, .slice eo n.classes.length ec] 32)
 have A1 := hid ((mo2_new w (.slice po m.pool.length pc) (.slice co m.classes.length cc) 32).only ((Only.refl [] _).alloc (.cells #[.slice qo n.pool.length qc, .slice eo n.classes.length ec] 32)) (by simp))
 have B1 := mo2_new (w.alloc (.cells #[.slice po m.pool.length pc, .slice co m.classes.length cc] 32)) (.slice qo n.pool.length qc) (.slice eo n.classes.length ec) 32
 rw [World.size_alloc] at B1
 replace B1 := hid B1
 go_enter Tryz.func4, Tryz.ntmps4
 go_wp2_with fail
 refine (HK.out _ o1).mono ?_
 rintro e w2 ⟨rfl, o2⟩
 have A2 := hid (A1.out.only o2 (by simp))
 have B2 := hid (B1.out.only o2 (by simp))
 have O2 := hid (o1.trans o2 (by simp))
 clear HK A1 B1 o1 o2
 obtain ⟨a0, a1, _, _⟩ := A2.out
 obtain ⟨b0, b1, _, _⟩ := B2.out
 go_wp2_with fail
 refine (H1.out _ O2.out).mono ?_
 rintro e w3 ⟨s1, rfl, o3⟩
 have A3 := hid (A2.out.only o3 (by simp))
 have B3 := hid (B2.out.only o3 (by simp))
 have O3 := hid (O2.out.trans o3 (by simp))
 clear H1 A2 B2 O2 o3 a0 a1 b0 b1
 obtain ⟨a0, a1, _, _⟩ := A3.out
 obtain ⟨b0, b1, _, _⟩ := B3.out
 cases s1 with
 | false =>
  go_wp2_with fail
  go_ret
  exact ⟨rfl, O3.out⟩
 | true =>
  go_wp2_with fail
  refine (H2.out _ O3.out).mono ?_
  rintro e w4 ⟨s2, rfl, o4⟩
  have A4 := hid (A3.out.only o4 (by simp))
  have B4 := hid (B3.out.only o4 (by simp))
  have O4 := hid (O3.out.trans o4 (by simp))
  clear H2 A3 B3 O3 o4 a0 a1 b0 b1
  obtain ⟨a0, a1, _, _⟩ := A4.out
  obtain ⟨b0, b1, _, _⟩ := B4.out
  cases s2 with
  | false =>
   go_wp2_with fail
   go_ret
   exact ⟨rfl, O4.out⟩
  | true =>
   go_wp2_with fail
   refine (H3.out _ O4.out).mono ?_
   rintro e w5 ⟨xo, xc, v5, rfl, own5, ev5, o5⟩
   have A5 := hid (A4.out.only o5 (by simp))
   have B5 := hid (B4.out.only o5 (by simp))
   have O5 := hid (O4.out.trans o5 (by simp))
   obtain ⟨dx, rx⟩ : ∃ d, RS w5 xo (bcs (writeM m).1) d := ⟨_, (RS.of_owns own5).1⟩
   have ev5' := hid (ev5.cases_nil)
   replace rx := hid rx
   clear H3 A4 B4 O4 o5 own5 ev5 a0 a1 b0 b1
   obtain ⟨a0, a1, _, _⟩ := A5.out
   obtain ⟨b0, b1, _, _⟩ := B5.out
   rcases ev5'.out with ⟨z5, rfl⟩ | ⟨z5, p5, rfl, _, _⟩
   ·go_wp2_with fail
    refine (H4.out _ O5.out).mono ?_
    rintro e w6 ⟨yo, yc, v6, rfl, own6, ev6, o6⟩
    have A6 := hid (A5.out.only o6 (by simp))
    have B6 := hid (B5.out.only o6 (by simp))
    have O6 := hid (O5.out.trans o6 (by simp))
    obtain ⟨dy, ry⟩ : ∃ d, RS w6 yo (bcs (writeM n).1) d := ⟨_, (RS.of_owns own6).1⟩
    have rx6 := rx.out.only0 o6
    have ev6' := hid (ev6.cases_nil)
    clear H4 A5 B5 O5 o6 own6 ev6 a0 a1 b0 b1 rx
    obtain ⟨a0, a1, _, _⟩ := A6.out
    obtain ⟨b0, b1, _, _⟩ := B6.out
    rcases ev6'.out with ⟨z6, rfl⟩ | ⟨z6, p6, rfl, _, _⟩
    ·obtain ⟨em, gm⟩ := wk.out z5
     obtain ⟨en, gn⟩ := wn.out z6
     rw [em] at rx6 ⊢
     rw [en] at ry ⊢
     have hdec : decide (encM m = encM n) = decide (m = n) := by
      by_cases h : m = n
      ·simp [h]
      ·have h2 : ¬ encM m = encM n := fun e => h (enc_inj gm gn e)
       simp [h, h2]
     clear wk wn z5 z6 ev5' ev6' em en gm gn
     have t1 := str_toList (encM m)
     have t2 := str_toList (encM n)
     have kx := rx6.conv xc
     have ky := ry.conv yc
     have hk : Hid (w6.cell? ⟨w.heap.size, 0, none⟩ = some (.slice po m.pool.length pc) ∧ w6.cell? ⟨w.heap.size, 1, none⟩ = some (.slice co m.classes.length cc) ∧ w6.cell? ⟨w.heap.size + 1, 0, none⟩ = some (.slice qo n.pool.length qc) ∧ w6.cell? ⟨w.heap.size + 1, 1, none⟩ = some (.slice eo n.classes.length ec) ∧ (convert 38 9 (.slice xo (encM m).length xc)).run Tryz.prog w6 = .ok (.string (str (encM m))) w6 ∧ (convert 38 9 (.slice yo (encM n).length yc)).run Tryz.prog w6 = .ok (.string (str (encM n))) w6 ∧ Only [] w6 w6) := ⟨a0, a1, b0, b1, kx, ky, Only.refl _ _⟩
     have keep := fun (z z' : World) => keep_one (z := z) (z' := z') (p := w.heap.size) (q := w.heap.size + 1) (u0 := .slice po m.pool.length pc) (u1 := .slice co m.classes.length cc) (v0 := .slice qo n.pool.length qc) (v1 := .slice eo n.classes.length ec) (ca := xc) (cb := yc) rx6 ry
     have J5 := hid (fun W (hW : Only [] w6 W) => H5.out W (O6.out.trans hW (by simp)))
     have J6 := hid (fun W (hW : Only [] w6 W) => H6.out W (O6.out.trans hW (by simp)))
     clear H5 H6 A6 B6 kx ky a0 a1 b0 b1
     replace keep := hid keep
     clear rx6 ry
     generalize encM m = ea at *
     generalize encM n = eb at *
     cases hmn : decide (m = n) with
     | true =>
      rw [hmn] at J5 J6 hdec
      obtain rfl : ea = eb := of_decide_eq_true hdec
      clear hdec hmn t2
      go_wp2_with fail
      go_region_held3 (fun w' => w'.cell? ⟨w.heap.size, 0, none⟩ = some (.slice po m.pool.length pc) ∧ w'.cell? ⟨w.heap.size, 1, none⟩ = some (.slice co m.classes.length cc) ∧ w'.cell? ⟨w.heap.size + 1, 0, none⟩ = some (.slice qo n.pool.length qc) ∧ w'.cell? ⟨w.heap.size + 1, 1, none⟩ = some (.slice eo n.classes.length ec) ∧ (convert 38 9 (.slice xo ea.length xc)).run Tryz.prog w' = .ok (.string (str ea)) w' ∧ (convert 38 9 (.slice yo ea.length yc)).run Tryz.prog w' = .ok (.string (str ea)) w' ∧ Only [] w6 w')
       (first | (with_reducible assumption) | (with_reducible exact hk.out) | (with_reducible exact keep.out _ _ (Only.refl [] _).drew hk.out) | (with_reducible exact keep.out _ _ (by assumption) (by assumption)))
       (first
        | (go_at_call 13; (with_reducible refine (J5.out _ ?_).mono ?_); (first | (exact (Only.refl [] _).drew) | (simp [*])); rintro e w7 ⟨rfl, o7⟩)
        | (go_at_call 15; (with_reducible refine (J6.out _ ?_).mono ?_); (first | (exact (Only.refl [] _).drew) | (simp [*])); rintro e w8 ⟨rfl, o8⟩))
      rename_i hH
      have o9 := hid hH.2.2.2.2.2.2
      clear hH
      go_wp2
      go_ret
      exact ⟨rfl, O6.out.trans o9.out (by simp)⟩
     | false =>
      rw [hmn] at J5 J6 hdec
      have hne : ¬ ea = eb := of_decide_eq_false hdec
      have p1 : ¬ ((str ea).toList = (str eb).toList) := by rw [str_toList, str_toList]; exact hne
      have q1 : ((str ea).toList == (str eb).toList) = false := by simpa using p1
      have q2 : (ea == eb) = false := by simpa using hne
      clear hdec hmn
      go_wp2_with fail
      go_region_held3 (fun w' => w'.cell? ⟨w.heap.size, 0, none⟩ = some (.slice po m.pool.length pc) ∧ w'.cell? ⟨w.heap.size, 1, none⟩ = some (.slice co m.classes.length cc) ∧ w'.cell? ⟨w.heap.size + 1, 0, none⟩ = some (.slice qo n.pool.length qc) ∧ w'.cell? ⟨w.heap.size + 1, 1, none⟩ = some (.slice eo n.classes.length ec) ∧ (convert 38 9 (.slice xo ea.length xc)).run Tryz.prog w' = .ok (.string (str ea)) w' ∧ (convert 38 9 (.slice yo eb.length yc)).run Tryz.prog w' = .ok (.string (str eb)) w' ∧ Only [] w6 w')
       (first | (with_reducible assumption) | (with_reducible exact hk.out) | (with_reducible exact keep.out _ _ (Only.refl [] _).drew hk.out) | (with_reducible exact keep.out _ _ (by assumption) (by assumption)))
       (first
        | (go_at_call 13; (with_reducible refine (J5.out _ ?_).mono ?_); (first | (exact (Only.refl [] _).drew) | (simp [*])); rintro e w7 ⟨rfl, o7⟩)
        | (go_at_call 15; (with_reducible refine (J6.out _ ?_).mono ?_); (first | (exact (Only.refl [] _).drew) | (simp [*])); rintro e w8 ⟨rfl, o8⟩))
      rename_i hH
      have o9 := hid hH.2.2.2.2.2.2
      clear hH
      go_wp2
      go_ret
      exact ⟨rfl, O6.out.trans o9.out (by simp)⟩
    ·unfold badV
     go_wp2_with fail
     go_ret
     exact ⟨rfl, O6.out⟩
   ·unfold badV
    go_wp2_with fail
    refine (H4.out _ O5.out).mono ?_
    rintro e w6 ⟨yo, yc, v6, rfl, own6, ev6, o6⟩
    go_wp2_with fail
    go_ret
    exact ⟨rfl, O5.out.trans o6 (by simp)⟩

theorem one_walk {w : World} (hg : Ety w) {m n : Mo} {P Q : Nat → Prop} {vp vc up uc : Value} (hM : MoAt (SlR w P) vp vc m) (hm : MoSm 1048576 m) (hN : MoAt (SlR w Q) up uc n) (hn : MoSm 1048576 n) :
  Calls Tryz.prog 4 #[.agg #[vp, vc], .agg #[up, uc]] w fun e w' => e = .returned (.bool true) ∧ Below w.heap.size w w' :=
 (modone_any hg m n hm hn hM hN).mono fun _ _ h => ⟨h.1, h.2.below (Nat.le_refl _) (by simp)⟩

end Go.Proofs.YtildemmkhndhjaaGreatDoor
namespace Go.Proofs.YtildemmkhndhjaaGreatDoor
open Go.ChangeShapes Go.WideShapes Go.ChangeAt Go.RowKit

set_option maxRecDepth 100000 in
theorem one_contract (H : Type) (enc : TypeId × Value → H) (W : World) (base : Nat) (args : Array Value) (ds gs : List (DataW H)) (before : List MemPlace)
  (hval : ∀ (j : Nat) t v, Tryz.f4.params[j]? = some t → args[j]? = some v → Value.okWide Tryz.prog W .any base t v)
  (hW : DataW.Whole enc Tryz.prog Tryz.f4.params.toList Rows.moduleOneSpec.vars false W args.toList ds gs before) (hL : laidMetH Tryz.prog Rows.moduleOneUptoRow.laid W) (hk : Rows.uptoSmall H (ds ++ gs) = true) :
  Calls Tryz.prog 4 args W fun e W' => ∃ v, e = .returned v ∧ Rows.moduleOneSpec.post enc Tryz.prog Tryz.f4 false true false false W args v W' := by
 have hT : Ety W := ety_of hL
 have hW' := hW
 obtain ⟨p, q, hA0, hV, rfl, hfz, hnd⟩ := hW
 have hA : DataW.TrodAll enc Tryz.prog W 0 (fun _ => true) true Tryz.f4.params.toList args.toList ds p := hA0
 rw [Tryz.params4] at hA hval
 obtain ⟨v0, vs0, d0, ds0, p0, q0, hargs, rfl, rfl, h0, r0⟩ := trodAll_cons hA
 obtain ⟨v1, vs1, d1, ds1, p1, q1, rfl, rfl, rfl, h1, r1⟩ := trodAll_cons r0
 obtain ⟨rfl, rfl, rfl⟩ := trodAll_nil r1
 obtain rfl : args = #[v0, v1] := by cases args; simp_all
 obtain ⟨rfl, rfl⟩ := trodVars_none hV
 have hk0 : Rows.uptoBulkAll ([d0, d1] ++ []) ≤ 1048576 := of_decide_eq_true hk
 simp only [List.append_nil, Rows.uptoBulkAll] at hk0
 have k0 := h0
 have lt0 : ∀ x ∈ p0, x.block < W.heap.size := by obtain ⟨m, hm⟩ := k0; exact DataW.trod_lt m _ _ _ hm
 obtain ⟨m0, vp0, vc0, rfl, hM0, hS0⟩ := arg_module (hval 0 32 v0 rfl rfl) h0
 have k1 := h1
 have lt1 : ∀ x ∈ p1, x.block < W.heap.size := by obtain ⟨m, hm⟩ := k1; exact DataW.trod_lt m _ _ _ hm
 obtain ⟨m1, vp1, vc1, rfl, hM1, hS1⟩ := arg_module (hval 1 32 v1 rfl rfl) h1
 clear hA0
 have hw := one_walk hT hM0 (hS0.mono (by omega)) hM1 (hS1.mono (by omega))
 refine hw.mono fun e W' ⟨he, bel⟩ => ?_
 subst he
 exact ⟨_, rfl, _, _, _, [], _, [], hW', trodAll_mk1 (shut_bool Tryz.underlying4 _), (trodAll_cons_mk (Below.trod laidOut (by kernel_rfl) (of_decide_eq_true (by kernel_rfl)) k0 bel lt0) (trodAll_cons_mk (Below.trod laidOut (by kernel_rfl) (of_decide_eq_true (by kernel_rfl)) k1 bel lt1) trodAll_mk0)), rfl, bel.frame _, fun h => by cases h⟩

theorem one_met (os : Os) : laidMetH Tryz.prog Rows.moduleOneUptoRow.laid (({ World.holding Tryz.prog os ⟨#[], #[], []⟩ with heap := (World.holding Tryz.prog os ⟨#[], #[], []⟩).heap.modify 0 fun o => match o with | .cells _ t frozen => .cells #[.iface 172 (.agg #[.pointer (some ⟨5, 48, none⟩)])] t frozen | o => o } : World).forCall (fun _ _ => 0) ⟨#[], #[.agg #[.slice none 0 0, .slice none 0 0], .agg #[.slice none 0 0, .slice none 0 0]], []⟩).memory :=
 laidMetH_of_parts (laidMet_nil _ _) (by kernel_rfl)
theorem one_reads (os : Os) {H : Type} (enc : TypeId × Value → H) : ∃ places, DataW.whole enc Tryz.prog (({ World.holding Tryz.prog os ⟨#[], #[], []⟩ with heap := (World.holding Tryz.prog os ⟨#[], #[], []⟩).heap.modify 0 fun o => match o with | .cells _ t frozen => .cells #[.iface 172 (.agg #[.pointer (some ⟨5, 48, none⟩)])] t frozen | o => o } : World).forCall (fun _ _ => 0) ⟨#[], #[.agg #[.slice none 0 0, .slice none 0 0], .agg #[.slice none 0 0, .slice none 0 0]], []⟩).memory Tryz.f4.params.toList Rows.moduleOneSpec.vars false (#[.agg #[.slice none 0 0, .slice none 0 0], .agg #[.slice none 0 0, .slice none 0 0]] : Array Value).toList 8 = some ([.agg [.nil, .nil], .agg [.nil, .nil]], [], places) :=
 ⟨[], by kernel_rfl⟩

set_option maxRecDepth 100000 in
theorem one_lifted (os : Os) (started : os.Started) (H : Type) (enc : TypeId × Value → H) (F : Stop.Interp) :
  ReturnsInHanded {} Tryz.checked os 4 .any ((Rows.OpenSpec.upto Rows.moduleOneSpec).preRow enc Tryz.prog Tryz.f4 Rows.moduleOneUptoRow.domain false Rows.moduleOneUptoRow.laid) (((Rows.OpenSpec.upto Rows.moduleOneSpec).at F).post enc Tryz.prog Tryz.f4 false true false false) := by
 obtain ⟨places, hx⟩ := one_reads os enc
 refine returnsInHanded_of_row (C := Tryz.checked) (s := Rows.OpenSpec.upto Rows.moduleOneSpec) own started (by kernel_rfl) Tryz.func4
  (witness_row_at (enc := enc) (C := Tryz.checked) false ({ World.holding Tryz.prog os ⟨#[], #[], []⟩ with heap := (World.holding Tryz.prog os ⟨#[], #[], []⟩).heap.modify 0 fun o => match o with | .cells _ t frozen => .cells #[.iface 172 (.agg #[.pointer (some ⟨5, 48, none⟩)])] t frozen | o => o } : World) #[.agg #[.slice none 0 0, .slice none 0 0], .agg #[.slice none 0 0, .slice none 0 0]] rfl (by kernel_rfl) (by kernel_rfl) (by kernel_rfl)
   (OpenSpec.preRow_of_cond 8 hx (by kernel_rfl) (fun k hk => by cases hk; kernel_rfl) (by kernel_rfl) (one_met os))) ?_
 intro W base args ds gs before hval hW _ hcond _ hL _ _
 exact one_contract H enc W base args ds gs before hval hW hL (hcond _ rfl)

theorem one_said : Rows.ModuleOneUptoSaid :=
 OpenClaim.holds_of_cond 4 Tryz.f4 rfl rfl rfl rfl rfl rfl rfl ⟨rfl, rfl, rfl, rfl, rfl⟩ rfl rfl rfl rfl rfl (by kernel_rfl) Tryz.func4 (by kernel_rfl)
  (of_decide_eq_true (by kernel_rfl)) (by unfold Func.isWrapper; first | (rw [if_pos (by decide +kernel)]; kernel_rfl) | (rw [if_neg (by decide +kernel)]; exact ⟨rfl, rfl⟩))
  (fun os started H enc _ F => by rw [OpenClaim.pre_eq_preRow]; exact one_lifted os started H enc F)

theorem one_plain (f : FuncId) (fn : Func) (hf : Tryz.pinned.checked.prog.funcNamed "keystone/keystonelaw5.ModuleOne" = some f) (hfn : Tryz.pinned.checked.prog.funcs[f]? = some fn) :
  true = Tryz.pinned.checked.prog.looks [] ∧ ∀ (j : Nat) t, fn.params[j]? = some t → Tryz.pinned.checked.prog.wantsStandIn t = false := by
 obtain rfl : f = 4 := Option.some.inj ((show Tryz.prog.funcNamed "keystone/keystonelaw5.ModuleOne" = some 4 by kernel_rfl).symm.trans hf) |>.symm
 obtain rfl : fn = Tryz.f4 := (Option.some.inj (Tryz.func4.symm.trans hfn)).symm
 refine ⟨by kernel_rfl, fun j t ht => ?_⟩
 rw [Tryz.params4] at ht
 have hm : t ∈ [32, 32] := by simpa using Array.mem_of_getElem? ht
 have hall : ([32, 32].all fun u => !Tryz.prog.wantsStandIn u) = true := by kernel_rfl
 exact (show Tryz.prog.wantsStandIn t = false by simpa using List.all_eq_true.1 hall t hm)

/-- The statement. -/
theorem one_proved : Rows.ModuleOneUptoCardSaid :=
 Claim7.holds_tied_plain_at .later [] _ _ _ _ one_said (fun _ h => by cases h) (by kernel_rfl) (fun _ h => by cases h) moduleOneUpto_row_tie rfl ⟨rfl, rfl⟩ (by kernel_rfl) rfl one_plain (by kernel_rfl)
#print axioms one_proved
end Go.Proofs.YtildemmkhndhjaaGreatDoor
