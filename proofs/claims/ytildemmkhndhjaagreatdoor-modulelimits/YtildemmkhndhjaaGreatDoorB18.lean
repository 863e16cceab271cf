/-
  What the proof leans on, part 18 of 23. The conditions stand in each theorem.
-/
import Derived.Test.YtildemmkhndhjaaGreatDoorB10
import Derived.Test.YtildemmkhndhjaaGreatDoorB11
import Derived.Test.YtildemmkhndhjaaGreatDoorB17
import Derived.Test.YtildemmkhndhjaaGreatDoorB13
import Derived.Test.YtildemmkhndhjaaGreatDoorB12
import Derived.Test.YtildemmkhndhjaaGreatDoorB14
namespace Go.Proofs.YtildemmkhndhjaaGreatDoor
open Go.RowKit

def limW (w : World) : World := (((w.alloc (.cells #[.int .i64 0, .string ⟨#[65]⟩, .string ⟨#[79, 98, 106, 101, 99, 116]⟩, .slice none 0 0, .slice none 0 0, .slice none 0 0] 28)).alloc (.cells #[.slice none 0 0, .slice none 0 0] 32)).alloc (.cells #[.int .u8 42] 5)).alloc
  (.cells #[.int .i64 4, .string ⟨#[102]⟩, .slice none 0 0, .bool true, .int .i64 0, .string ⟨#[]⟩, .int .i64 1, .int .i64 0, .slice (some ⟨w.heap.size + 1 + 1, 0, none⟩) 1 1, .slice none 0 0] 41)

/-- The class, the module, the method and its code; which slices they hold. -/
structure LimI (w wr : World) (cb mb db fb : Nat) (vF vD vM vC : Value) (nm : ByteArray) (vH : Value) : Prop where
  c : Cl6 wr cb (.int .i64 0) (.string ⟨#[65]⟩) (.string ⟨#[79, 98, 106, 101, 99, 116]⟩) vF vD vM
  m : Mo2 wr mb (.slice none 0 0) vC
  d : wr.cell? ⟨db, 0, none⟩ = some (.int .u8 42)
  f : Me10 wr fb (.int .i64 4) (.string nm) (.slice none 0 0) (.bool true) (.int .i64 0) (.string ⟨#[]⟩) (.int .i64 1) (.int .i64 0) (.slice (some ⟨db, 0, none⟩) 1 1) vH
  o : Only [] w wr
  h : w.heap.size ≤ cb ∧ cb < mb ∧ mb < db ∧ db < fb

theorem LimI.only {w wr wr' : World} {cb mb db fb : Nat} {vF vD vM vC : Value} {nm : ByteArray} {vH : Value} {S : List Nat} (h : LimI w wr cb mb db fb vF vD vM vC nm vH) (ho : Only S wr wr') (hS : ∀ x ∈ S, fb < x) : LimI w wr' cb mb db fb vF vD vM vC nm vH := by
  have hh := h.h
  refine ⟨h.c.only ho fun hm => ?_, h.m.only ho fun hm => ?_, (ho.cell (p := ⟨db, 0, none⟩) (World.block_lt_of_cell? wr _ h.d) fun hm => ?_).trans h.d, h.f.only ho fun hm => ?_, h.o.next ho fun x hx => ?_, h.h⟩
  · have := hS _ hm; omega
  · have := hS _ hm; omega
  · have := hS _ hm; simp at this; omega
  · have := hS _ hm; omega
  · have := hS _ hx; omega

theorem limI_new {w w2 : World} (h : Only [] w w2) : LimI w (limW w2) w2.heap.size (w2.heap.size + 1) (w2.heap.size + 1 + 1) (w2.heap.size + 1 + 1 + 1) (.slice none 0 0) (.slice none 0 0) (.slice none 0 0) (.slice none 0 0) ⟨#[102]⟩ (.slice none 0 0) ∧ (limW w2).heap.size = w2.heap.size + 1 + 1 + 1 + 1 := by
  have a1 := cl6_new w2 (.int .i64 0) (.string ⟨#[65]⟩) (.string ⟨#[79, 98, 106, 101, 99, 116]⟩) (.slice none 0 0) (.slice none 0 0) (.slice none 0 0) 28
  generalize hw3 : w2.alloc (.cells #[.int .i64 0, .string ⟨#[65]⟩, .string ⟨#[79, 98, 106, 101, 99, 116]⟩, .slice none 0 0, .slice none 0 0, .slice none 0 0] 28) = w3 at a1
  have s3 : w3.heap.size = w2.heap.size + 1 := by rw [← hw3]; simp
  have a2 := mo2_new w3 (.slice none 0 0) (.slice none 0 0) 32
  have q2 := (Only.refl [] w3).alloc (.cells #[.slice none 0 0, .slice none 0 0] 32)
  generalize hw4 : w3.alloc (.cells #[.slice none 0 0, .slice none 0 0] 32) = w4 at a2 q2
  have s4 : w4.heap.size = w2.heap.size + 1 + 1 := by rw [← hw4]; simp [s3]
  have a3 : (w4.alloc (.cells #[.int .u8 42] 5)).cell? ⟨w4.heap.size, 0, none⟩ = some (.int .u8 42) := by rw [cell_new]; rfl
  have q3 := (Only.refl [] w4).alloc (.cells #[.int .u8 42] 5)
  generalize hw5 : w4.alloc (.cells #[.int .u8 42] 5) = w5 at a3 q3
  have s5 : w5.heap.size = w2.heap.size + 1 + 1 + 1 := by rw [← hw5]; simp [s4]
  have a4 := me10_new w5 (.int .i64 4) (.string ⟨#[102]⟩) (.slice none 0 0) (.bool true) (.int .i64 0) (.string ⟨#[]⟩) (.int .i64 1) (.int .i64 0) (.slice (some ⟨w2.heap.size + 1 + 1, 0, none⟩) 1 1) (.slice none 0 0) 41
  have q4 := (Only.refl [] w5).alloc (.cells #[.int .i64 4, .string ⟨#[102]⟩, .slice none 0 0, .bool true, .int .i64 0, .string ⟨#[]⟩, .int .i64 1, .int .i64 0, .slice (some ⟨w2.heap.size + 1 + 1, 0, none⟩) 1 1, .slice none 0 0] 41)
  have e : limW w2 = w5.alloc (.cells #[.int .i64 4, .string ⟨#[102]⟩, .slice none 0 0, .bool true, .int .i64 0, .string ⟨#[]⟩, .int .i64 1, .int .i64 0, .slice (some ⟨w2.heap.size + 1 + 1, 0, none⟩) 1 1, .slice none 0 0] 41) := by rw [← hw5, ← hw4, ← hw3]; rfl
  rw [e]
  have q1 : Only [] w w3 := by rw [← hw3]; exact h.alloc _
  rw [s4] at a3
  rw [s3] at a2
  rw [s5] at a4
  refine ⟨⟨((a1.only q2 (by simp)).only q3 (by simp)).only q4 (by simp), (a2.only q3 (by simp)).only q4 (by simp), (q4.cell (p := ⟨w2.heap.size + 1 + 1, 0, none⟩) (by simp; omega) (by simp)).trans a3, a4, ((q1.trans q2 (by simp)).trans q3 (by simp)).trans q4 (by simp), ⟨h.size, by omega, by omega, by omega⟩⟩, by simp [s5]⟩

/-- A row that is grown is none of them. -/
theorem LimI.grow {w wr w2 w3 : World} {cb mb db fb B : Nat} {vF vD vM vC : Value} {nm : ByteArray} {vH : Value} {ob : Obj} {e : TypeId} {k m n' cap cap' : Nat} {ao ao' : Option Addr} {xs zs : List Value} (h : LimI w wr cb mb db fb vF vD vM vC nm vH) (o2 : Only [] wr w2) (hown : w2.ownsRow B e k (.slice ao m cap) m xs) (hA : Appd (w2.alloc ob) w3 B e k ao ao' m n' cap' zs) (hB : fb < B) : LimI w w3 cb mb db fb vF vD vM vC nm vH := by
  refine (h.only (o2.alloc ob) (by simp)).only hA.only fun x hx => ?_
  cases ao with
  | none => simp [Value.ownBlock] at hx
  | some a =>
    simp [Value.ownBlock] at hx
    subst hx
    have := (hown.lt a.block rfl).1
    omega

theorem LimI.putF {w wr : World} {cb mb db fb : Nat} {vF vD vM vC : Value} {nm : ByteArray} {vH : Value} (h : LimI w wr cb mb db fb vF vD vM vC nm vH) (u : Value) : LimI w (wr.setCell ⟨cb, 3, none⟩ u) cb mb db fb u vD vM vC nm vH := by
  have hh := h.h
  have q : Only [cb] wr (wr.setCell ⟨cb, 3, none⟩ u) := (Only.refl [cb] wr).setCell (.inl (by simp)) _
  exact ⟨h.c.put3 u, h.m.only q (by simp; omega), (q.cell (p := ⟨db, 0, none⟩) (World.block_lt_of_cell? wr _ h.d) (by simp; omega)).trans h.d, h.f.only q (by simp; omega), h.o.next q (by simp; omega), h.h⟩

theorem LimI.putD {w wr : World} {cb mb db fb : Nat} {vF vD vM vC : Value} {nm : ByteArray} {vH : Value} (h : LimI w wr cb mb db fb vF vD vM vC nm vH) (u : Value) : LimI w (wr.setCell ⟨cb, 4, none⟩ u) cb mb db fb vF u vM vC nm vH := by
  have hh := h.h
  have q : Only [cb] wr (wr.setCell ⟨cb, 4, none⟩ u) := (Only.refl [cb] wr).setCell (.inl (by simp)) _
  exact ⟨h.c.put4 u, h.m.only q (by simp; omega), (q.cell (p := ⟨db, 0, none⟩) (World.block_lt_of_cell? wr _ h.d) (by simp; omega)).trans h.d, h.f.only q (by simp; omega), h.o.next q (by simp; omega), h.h⟩

theorem LimI.putM {w wr : World} {cb mb db fb : Nat} {vF vD vM vC : Value} {nm : ByteArray} {vH : Value} (h : LimI w wr cb mb db fb vF vD vM vC nm vH) (u : Value) : LimI w (wr.setCell ⟨cb, 5, none⟩ u) cb mb db fb vF vD u vC nm vH := by
  have hh := h.h
  have q : Only [cb] wr (wr.setCell ⟨cb, 5, none⟩ u) := (Only.refl [cb] wr).setCell (.inl (by simp)) _
  exact ⟨h.c.put5 u, h.m.only q (by simp; omega), (q.cell (p := ⟨db, 0, none⟩) (World.block_lt_of_cell? wr _ h.d) (by simp; omega)).trans h.d, h.f.only q (by simp; omega), h.o.next q (by simp; omega), h.h⟩

theorem LimI.putC {w wr : World} {cb mb db fb : Nat} {vF vD vM vC : Value} {nm : ByteArray} {vH : Value} (h : LimI w wr cb mb db fb vF vD vM vC nm vH) (u : Value) : LimI w (wr.setCell ⟨mb, 1, none⟩ u) cb mb db fb vF vD vM u nm vH := by
  have hh := h.h
  have q : Only [mb] wr (wr.setCell ⟨mb, 1, none⟩ u) := (Only.refl [mb] wr).setCell (.inl (by simp)) _
  exact ⟨h.c.only q (by simp; omega), h.m.put1 u, (q.cell (p := ⟨db, 0, none⟩) (World.block_lt_of_cell? wr _ h.d) (by simp; omega)).trans h.d, h.f.only q (by simp; omega), h.o.next q (by simp; omega), h.h⟩

theorem LimI.putN {w wr : World} {cb mb db fb : Nat} {vF vD vM vC : Value} {nm : ByteArray} {vH : Value} (h : LimI w wr cb mb db fb vF vD vM vC nm vH) (u : ByteArray) : LimI w (wr.setCell ⟨fb, 1, none⟩ (.string u)) cb mb db fb vF vD vM vC u vH := by
  have hh := h.h
  have q : Only [fb] wr (wr.setCell ⟨fb, 1, none⟩ (.string u)) := (Only.refl [fb] wr).setCell (.inl (by simp)) _
  exact ⟨h.c.only q (by simp; omega), h.m.only q (by simp; omega), (q.cell (p := ⟨db, 0, none⟩) (World.block_lt_of_cell? wr _ h.d) (by simp; omega)).trans h.d, h.f.put1 _, h.o.next q (by simp; omega), h.h⟩

theorem LimI.putH {w wr : World} {cb mb db fb : Nat} {vF vD vM vC : Value} {nm : ByteArray} {vH : Value} (h : LimI w wr cb mb db fb vF vD vM vC nm vH) (u : Value) : LimI w (wr.setCell ⟨fb, 9, none⟩ u) cb mb db fb vF vD vM vC nm u := by
  have hh := h.h
  have q : Only [fb] wr (wr.setCell ⟨fb, 9, none⟩ u) := (Only.refl [fb] wr).setCell (.inl (by simp)) _
  exact ⟨h.c.only q (by simp; omega), h.m.only q (by simp; omega), (q.cell (p := ⟨db, 0, none⟩) (World.block_lt_of_cell? wr _ h.d) (by simp; omega)).trans h.d, h.f.put9 u, h.o.next q (by simp; omega), h.h⟩

/-- A row of one's own under a store elsewhere. -/
theorem rows_set {w : World} {B b i n : Nat} {e : TypeId} {k : Nat} {v u : Value} {xs : List Value} (h : w.ownsRow B e k v n xs) (hb : b < B) : (w.setCell ⟨b, i, none⟩ u).ownsRow B e k v n xs :=
  rows_only h ((Only.refl [b] w).setCell (.inl (by simp)) u) fun g hg => by
    have := (h.lt g hg).1
    simp
    omega

def mostJ (K M j : Nat) : Nat := if j = 0 then K else M

abbrev nilV : Value := .slice none 0 0
def clz (l : List Cl) : List Value := l.flatMap (clC (.slice none 0 0) (.slice none 0 0) (.slice none 0 0))
def mez (db : Nat) (l : List Me) : List Value := l.flatMap (meC (.slice none 0 0) (.slice (some ⟨db, 0, none⟩) 1 1) (.slice none 0 0))

theorem own_slr {w : World} {B : Nat} {e : TypeId} {k n : Nat} {v : Value} {cs : List Value} (h : w.ownsRow B e k v n cs) : SlR w (fun _ => True) e k v n cs := owr_slice (P := fun _ => True) ⟨h, fun _ _ => trivial⟩

theorem code_slr {w : World} {db : Nat} (h : w.cell? ⟨db, 0, none⟩ = some (.int .u8 42)) : SlV w (fun _ => True) (.slice (some ⟨db, 0, none⟩) 1 1) 1 (bcs [42]) :=
  ⟨_, _, db, rfl, .inr ⟨0, rfl, fun j u hj => by
    cases j with
    | zero =>
      simp [bcs] at hj
      subst hj
      exact h
    | succ j => simp [bcs] at hj⟩, fun _ => trivial, Nat.le_refl _, by decide, fun e => by cases e⟩

theorem els_clz (w : World) (l : List Nat) : Els 6 (ClC (SlR w fun _ => True)) (clz (l.map clN)) (l.map clN) :=
  (els_flat (clC (.slice none 0 0) (.slice none 0 0) (.slice none 0 0)) (fun _ => rfl) (l.map clN)).imp fun c x hx hc => by
    obtain ⟨i, _, rfl⟩ := List.mem_map.1 hx
    exact ⟨_, _, _, hc, ⟨SlV.nil _ _, SlV.nil _ _, [], SlV.nil _ _, Els.nil _ _⟩⟩

theorem els_mez {w : World} {db : Nat} (h : w.cell? ⟨db, 0, none⟩ = some (.int .u8 42)) (l : List Nat) : Els 10 (MeC (SlR w fun _ => True)) (mez db (l.map meN)) (l.map meN) :=
  (els_flat (meC (.slice none 0 0) (.slice (some ⟨db, 0, none⟩) 1 1) (.slice none 0 0)) (fun _ => rfl) (l.map meN)).imp fun c x hx hc => by
    obtain ⟨i, _, rfl⟩ := List.mem_map.1 hx
    exact ⟨_, _, _, hc, ⟨SlV.nil _ _, code_slr h, SlV.nil _ _⟩⟩

/-- A module of one class. -/
theorem mo_one {w : World} {B : Nat} {vF vD vM : Value} {ao : Option Addr} {cap : Nat} {c : Cl} (h : w.ownsRow B 28 6 (.slice ao 1 cap) 1 (clC vF vD vM c)) (hc : ClAt (SlR w fun _ => True) vF vD vM c) : MoAt (SlR w fun _ => True) (.slice none 0 0) (.slice ao 1 cap) ⟨[], [c]⟩ :=
  ⟨SlV.nil _ _, clC vF vD vM c, own_slr h, ⟨rfl, fun j hj => by
    have : j = 0 := by simp at hj; omega
    subst this
    exact ⟨vF, vD, vM, rfl, hc⟩⟩⟩

theorem nm_len (i : Nat) : (nmL i).length = 3 := rfl

theorem fit_cl {c : Cl} (h1 : c.name.length ≤ 255) (h2 : c.super.length ≤ 255) (h3 : ∀ s ∈ c.faces, s.length ≤ 255) (h4 : ∀ f ∈ c.fields, f.2.1.length ≤ 255 ∧ f.2.2.2.length ≤ 255) (h5 : ∀ m ∈ c.methods, MeFit m) : ClFit c :=
  ⟨by omega, by omega, fun s hs => by have := h3 s hs; omega, fun f hf => by have := h4 f hf; omega, h5⟩

theorem fit_me (nm : List UInt8) (hs : List Hd) (h : nm.length ≤ 255) (hh : ∀ x ∈ hs, x = hdN) : MeFit (fM nm hs) :=
  ⟨by simp only [fM]; omega, by simp [fM], by simp [fM], fun x hx => by rw [hh x hx]; decide⟩

theorem fit_k (k n : Nat) : MoFit (modK k n) := by
  refine ⟨by rw [pool_nil]; simp, ?_⟩
  unfold modK
  split
  · intro c hc
    obtain ⟨i, _, rfl⟩ := List.mem_map.1 hc
    exact fit_cl (by simp [clN, nmL]) (by simp [clN, objL]) (by simp [clN]) (by simp [clN]) (by simp [clN])
  · split
    · intro c hc
      rw [List.mem_singleton.1 hc]
      exact fit_cl (by simp [clA]) (by simp [clA, objL]) (fun s hs => by obtain ⟨i, _, rfl⟩ := List.mem_map.1 hs; rw [nm_len]; omega) (by simp [clA]) (by simp [clA])
    · split
      · intro c hc
        rw [List.mem_singleton.1 hc]
        exact fit_cl (by simp [clA]) (by simp [clA, objL]) (by simp [clA]) (fun f hf => by obtain ⟨i, _, rfl⟩ := List.mem_map.1 hf; simp [fdN, nmL]) (by simp [clA])
      · split
        · intro c hc
          rw [List.mem_singleton.1 hc]
          exact fit_cl (by simp [clA]) (by simp [clA, objL]) (by simp [clA]) (by simp [clA]) (fun m hm => by obtain ⟨i, _, rfl⟩ := List.mem_map.1 hm; exact fit_me _ _ (by rw [nm_len]; omega) (by simp))
        · intro c hc
          rw [List.mem_singleton.1 hc]
          exact fit_cl (by simp [clA]) (by simp [clA, objL]) (by simp [clA]) (by simp [clA]) (fun m hm => by simp only [clA, List.mem_singleton] at hm; rw [hm]; exact fit_me _ _ (by simp) (fun x hx => List.eq_of_mem_replicate hx))

theorem range_map_succ {α : Type} (f : Nat → α) (j : Nat) : (List.range (j + 1)).map f = (List.range j).map f ++ [f j] := by rw [List.range_succ, List.map_append]; rfl

end Go.Proofs.YtildemmkhndhjaaGreatDoor
namespace Go.Proofs.YtildemmkhndhjaaGreatDoor
open Go.RowKit

theorem out_at {α : Type} {P : Nat → Pr α} {t t' : St} {x : α} {a : Nat} (ha : ∀ u, t = .inr u → a = u.2) (h : Out (P a) t x t') : Out (fun r => P r.2 r) t x t' := by
  unfold Out at h ⊢
  cases t with
  | inl f => exact h
  | inr u =>
    have := ha u rfl
    subst this
    exact h

theorem out_fail {α : Type} (a : Nat) (e : Int) (t : St) (x : α) : Out (pFail a e) t x (tRefuse (a : Int) e t) := by
  unfold Out
  cases t with
  | inl f => rfl
  | inr u => rfl

/-- What is read behind an entry's kind. -/
def entryF (a k : Nat) : Pr En :=
  if k = 1 then pBind pText fun s => pDone (1, s, 0, 0, 0, 0)
  else if k = 2 then pBind pN8 fun n => pDone (2, [], n, 0, 0, 0)
  else if k = 3 ∨ k = 4 then pBind (pU 2) fun a => pDone ((k : Int), [], 0, (a : Int), 0, 0)
  else if k = 5 ∨ k = 6 then pBind (pU 2) fun a => pBind (pU 2) fun b => pBind (pU 2) fun c => pDone ((k : Int), [], 0, (a : Int), (b : Int), (c : Int))
  else pFail a 3

theorem out_entry {t t1 t2 : St} {x : En} {a n : Nat} (ha : ∀ u, t = .inr u → a = u.2) (h : Out (pU 1) t n t1) (h2 : Out (entryF a n) t1 x t2) : Out pEntry t x t2 :=
  out_at (P := fun a => pBind (pU 1) (entryF a)) ha (out_bind h h2)

/-- The six cells of an entry's block. -/
structure En6 (w : World) (b : Nat) (v0 v1 v2 v3 v4 v5 : Value) : Prop where
  c0 : w.cell? ⟨b, 0, none⟩ = some v0
  c1 : w.cell? ⟨b, 1, none⟩ = some v1
  c2 : w.cell? ⟨b, 2, none⟩ = some v2
  c3 : w.cell? ⟨b, 3, none⟩ = some v3
  c4 : w.cell? ⟨b, 4, none⟩ = some v4
  c5 : w.cell? ⟨b, 5, none⟩ = some v5
  f0 : w.frozen? ⟨b, 0, none⟩ = false
  f1 : w.frozen? ⟨b, 1, none⟩ = false
  f2 : w.frozen? ⟨b, 2, none⟩ = false
  f3 : w.frozen? ⟨b, 3, none⟩ = false
  f4 : w.frozen? ⟨b, 4, none⟩ = false
  f5 : w.frozen? ⟨b, 5, none⟩ = false

theorem En6.only {w w' : World} {S : List Nat} {b : Nat} {v0 v1 v2 v3 v4 v5 : Value} (h : En6 w b v0 v1 v2 v3 v4 v5) (ho : Only S w w') (hb : b ∉ S) : En6 w' b v0 v1 v2 v3 v4 v5 := by
  have hl := World.block_lt_of_cell? w _ h.c0
  exact ⟨(ho.cell (p := ⟨b, 0, none⟩) hl hb).trans h.c0, (ho.cell (p := ⟨b, 1, none⟩) hl hb).trans h.c1, (ho.cell (p := ⟨b, 2, none⟩) hl hb).trans h.c2, (ho.cell (p := ⟨b, 3, none⟩) hl hb).trans h.c3, (ho.cell (p := ⟨b, 4, none⟩) hl hb).trans h.c4, (ho.cell (p := ⟨b, 5, none⟩) hl hb).trans h.c5,
    (ho.frozen (p := ⟨b, 0, none⟩) hl hb).trans h.f0, (ho.frozen (p := ⟨b, 1, none⟩) hl hb).trans h.f1, (ho.frozen (p := ⟨b, 2, none⟩) hl hb).trans h.f2, (ho.frozen (p := ⟨b, 3, none⟩) hl hb).trans h.f3, (ho.frozen (p := ⟨b, 4, none⟩) hl hb).trans h.f4, (ho.frozen (p := ⟨b, 5, none⟩) hl hb).trans h.f5⟩

theorem en6_new (w : World) (v0 v1 v2 v3 v4 v5 : Value) (t : TypeId) : En6 (w.alloc (.cells #[v0, v1, v2, v3, v4, v5] t)) w.heap.size v0 v1 v2 v3 v4 v5 :=
  ⟨by rw [cell_new]; rfl, by rw [cell_new]; rfl, by rw [cell_new]; rfl, by rw [cell_new]; rfl, by rw [cell_new]; rfl, by rw [cell_new]; rfl, frozen_new _ _ _ _, frozen_new _ _ _ _, frozen_new _ _ _ _, frozen_new _ _ _ _, frozen_new _ _ _ _, frozen_new _ _ _ _⟩

theorem En6.put0 {w : World} {b : Nat} {v0 v1 v2 v3 v4 v5 : Value} (h : En6 w b v0 v1 v2 v3 v4 v5) (u : Value) : En6 (w.setCell ⟨b, 0, none⟩ u) b u v1 v2 v3 v4 v5 :=
  ⟨cell_setCell_same _ _ h.c0, (cell_setCell_ne _ _ (by simp)).trans h.c1, (cell_setCell_ne _ _ (by simp)).trans h.c2, (cell_setCell_ne _ _ (by simp)).trans h.c3, (cell_setCell_ne _ _ (by simp)).trans h.c4, (cell_setCell_ne _ _ (by simp)).trans h.c5, (frozen_setCell _ _ _ _).trans h.f0, (frozen_setCell _ _ _ _).trans h.f1, (frozen_setCell _ _ _ _).trans h.f2, (frozen_setCell _ _ _ _).trans h.f3, (frozen_setCell _ _ _ _).trans h.f4, (frozen_setCell _ _ _ _).trans h.f5⟩

theorem En6.put1 {w : World} {b : Nat} {v0 v1 v2 v3 v4 v5 : Value} (h : En6 w b v0 v1 v2 v3 v4 v5) (u : Value) : En6 (w.setCell ⟨b, 1, none⟩ u) b v0 u v2 v3 v4 v5 :=
  ⟨(cell_setCell_ne _ _ (by simp)).trans h.c0, cell_setCell_same _ _ h.c1, (cell_setCell_ne _ _ (by simp)).trans h.c2, (cell_setCell_ne _ _ (by simp)).trans h.c3, (cell_setCell_ne _ _ (by simp)).trans h.c4, (cell_setCell_ne _ _ (by simp)).trans h.c5, (frozen_setCell _ _ _ _).trans h.f0, (frozen_setCell _ _ _ _).trans h.f1, (frozen_setCell _ _ _ _).trans h.f2, (frozen_setCell _ _ _ _).trans h.f3, (frozen_setCell _ _ _ _).trans h.f4, (frozen_setCell _ _ _ _).trans h.f5⟩

theorem En6.put2 {w : World} {b : Nat} {v0 v1 v2 v3 v4 v5 : Value} (h : En6 w b v0 v1 v2 v3 v4 v5) (u : Value) : En6 (w.setCell ⟨b, 2, none⟩ u) b v0 v1 u v3 v4 v5 :=
  ⟨(cell_setCell_ne _ _ (by simp)).trans h.c0, (cell_setCell_ne _ _ (by simp)).trans h.c1, cell_setCell_same _ _ h.c2, (cell_setCell_ne _ _ (by simp)).trans h.c3, (cell_setCell_ne _ _ (by simp)).trans h.c4, (cell_setCell_ne _ _ (by simp)).trans h.c5, (frozen_setCell _ _ _ _).trans h.f0, (frozen_setCell _ _ _ _).trans h.f1, (frozen_setCell _ _ _ _).trans h.f2, (frozen_setCell _ _ _ _).trans h.f3, (frozen_setCell _ _ _ _).trans h.f4, (frozen_setCell _ _ _ _).trans h.f5⟩

theorem En6.put3 {w : World} {b : Nat} {v0 v1 v2 v3 v4 v5 : Value} (h : En6 w b v0 v1 v2 v3 v4 v5) (u : Value) : En6 (w.setCell ⟨b, 3, none⟩ u) b v0 v1 v2 u v4 v5 :=
  ⟨(cell_setCell_ne _ _ (by simp)).trans h.c0, (cell_setCell_ne _ _ (by simp)).trans h.c1, (cell_setCell_ne _ _ (by simp)).trans h.c2, cell_setCell_same _ _ h.c3, (cell_setCell_ne _ _ (by simp)).trans h.c4, (cell_setCell_ne _ _ (by simp)).trans h.c5, (frozen_setCell _ _ _ _).trans h.f0, (frozen_setCell _ _ _ _).trans h.f1, (frozen_setCell _ _ _ _).trans h.f2, (frozen_setCell _ _ _ _).trans h.f3, (frozen_setCell _ _ _ _).trans h.f4, (frozen_setCell _ _ _ _).trans h.f5⟩

theorem En6.put4 {w : World} {b : Nat} {v0 v1 v2 v3 v4 v5 : Value} (h : En6 w b v0 v1 v2 v3 v4 v5) (u : Value) : En6 (w.setCell ⟨b, 4, none⟩ u) b v0 v1 v2 v3 u v5 :=
  ⟨(cell_setCell_ne _ _ (by simp)).trans h.c0, (cell_setCell_ne _ _ (by simp)).trans h.c1, (cell_setCell_ne _ _ (by simp)).trans h.c2, (cell_setCell_ne _ _ (by simp)).trans h.c3, cell_setCell_same _ _ h.c4, (cell_setCell_ne _ _ (by simp)).trans h.c5, (frozen_setCell _ _ _ _).trans h.f0, (frozen_setCell _ _ _ _).trans h.f1, (frozen_setCell _ _ _ _).trans h.f2, (frozen_setCell _ _ _ _).trans h.f3, (frozen_setCell _ _ _ _).trans h.f4, (frozen_setCell _ _ _ _).trans h.f5⟩

theorem En6.put5 {w : World} {b : Nat} {v0 v1 v2 v3 v4 v5 : Value} (h : En6 w b v0 v1 v2 v3 v4 v5) (u : Value) : En6 (w.setCell ⟨b, 5, none⟩ u) b v0 v1 v2 v3 v4 u :=
  ⟨(cell_setCell_ne _ _ (by simp)).trans h.c0, (cell_setCell_ne _ _ (by simp)).trans h.c1, (cell_setCell_ne _ _ (by simp)).trans h.c2, (cell_setCell_ne _ _ (by simp)).trans h.c3, (cell_setCell_ne _ _ (by simp)).trans h.c4, cell_setCell_same _ _ h.c5, (frozen_setCell _ _ _ _).trans h.f0, (frozen_setCell _ _ _ _).trans h.f1, (frozen_setCell _ _ _ _).trans h.f2, (frozen_setCell _ _ _ _).trans h.f3, (frozen_setCell _ _ _ _).trans h.f4, (frozen_setCell _ _ _ _).trans h.f5⟩

set_option maxHeartbeats 8000000 in
theorem rentry_any {w : World} {sb r d : Nat} {t : St} (h : Sc w sb r d t) :
    Calls Tryz.prog 78 #[.pointer (some ⟨sb, 0, none⟩)] w fun e w' => ∃ (x : En) (t' : St), e = .returned (enV x) ∧ (x.2.1.length ≤ 262144 ∧ -9223372036854775808 ≤ x.2.2.1 ∧ x.2.2.1 ≤ 9223372036854775807) ∧ Sc w' sb r d t' ∧ Out pEntry t x t' ∧ Only [sb, r] w w' := by
  have o0 := hid ((Only.refl [sb, r] w).alloc (.cells #[.int .i64 0, .string ⟨#[]⟩, .int .i64 0, .int .i64 0, .int .i64 0, .int .i64 0] 90))
  have h0 := h.only0 ((Only.refl [] w).alloc (.cells #[.int .i64 0, .string ⟨#[]⟩, .int .i64 0, .int .i64 0, .int .i64 0, .int .i64 0] 90))
  have hl := h.lt
  clear h
  have R0 := hid (en6_new w (.int .i64 0) (.string ⟨#[]⟩) (.int .i64 0) (.int .i64 0) (.int .i64 0) (.int .i64 0) 90)
  have c0 := h0.c0
  have HA := hid (sc_at h0)
  have HU := hid (sc_u1 h0)
  go_enter Tryz.func78, Tryz.ntmps78
  go_wp2_with fail
  refine HA.out.mono ?_
  rintro e wx ⟨at_, rfl, hat, rfl⟩
  clear HA
  go_wp2_with fail
  refine HU.out.mono ?_
  rintro e w1 ⟨n, t1, rfl, hn, h1, hO, ho1⟩
  obtain ⟨kk, hkk⟩ : ∃ kk : Int, (n : Int) = kk := ⟨_, rfl⟩
  rw [hkk]
  replace hkk := hid hkk
  have o1 := hid (o0.out.trans ho1 (by simp))
  have R1a := R0.out.only ho1 (by simp; omega)
  have hsz : w.heap.size < w1.heap.size := Nat.lt_of_lt_of_le (by simp) ho1.size
  have oA := (Only.refl [] w1).alloc (.cells #[.int .i64 kk, .string ⟨#[]⟩, .int .i64 0, .int .i64 0, .int .i64 0, .int .i64 0] 90)
  have hW1 := h1.only0 oA
  have L1 := hid (en6_new w1 (.int .i64 kk) (.string ⟨#[]⟩) (.int .i64 0) (.int .i64 0) (.int .i64 0) (.int .i64 0) 90)
  have R1 := hid (R1a.only oA (by simp))
  have oW1 := hid (o1.out.next oA (by simp))
  have cW := hW1.c0
  have hl1 := h1.lt
  replace hO := hid hO
  replace hat := hid hat
  clear R1a c0
  clear HU R0 h1 o0 ho1
  by_cases k1 : kk = 1
  · subst k1
    have hk := hkk.out
    obtain rfl : n = 1 := by omega
    clear hk hkk
    have HV := hid (sc_text hW1)
    go_wp2_with fail
    refine HV.out.mono ?_
    rintro e w2 ⟨x, t2, rfl, hx, hs2, hO2, ho2⟩
    clear HV
    have hL2 := L1.out.only ho2 (by simp; omega)
    have hR2 := R1.out.only ho2 (by simp; omega)
    have hL2h := hid hL2
    obtain ⟨j0, j1, j2, j3, j4, j5, y0, y1, y2, y3, y4, y5⟩ := hL2
    have hL3 := hL2h.out.put1 (.string (str x))
    have oL : Only [w1.heap.size] w2 (w2.setCell ⟨w1.heap.size, 1, none⟩ (.string (str x))) := (Only.refl [w1.heap.size] w2).setCell (.inl (by simp)) _
    have hR3 := hR2.only oL (by simp; omega)
    have hS3 := hs2.other (rv := w1.heap.size) (by simp) (.inr (.inl j1)) (by have := ho2.size; omega) oL
    have on3 := (oW1.out.trans ho2 (by simp)).next oL (by simp; omega)
    have hout : Out pEntry t (1, x, 0, 0, 0, 0) t2 := out_entry hat.out hO.out (by unfold entryF; rw [if_pos rfl]; exact out_bind hO2 (out_done _ _))
    replace hL3 := hid hL3
    replace hR3 := hid hR3
    replace hS3 := hid hS3
    replace on3 := hid on3
    replace hout := hid hout
    clear hL2h hR2
    obtain ⟨l0, l1, l2, l3, l4, l5, _, _, _, _, _, _⟩ := hL3.out
    obtain ⟨e0, e1, e2, e3, e4, e5, z0, z1, z2, z3, z4, z5⟩ := hR3.out
    go_wp2_with fail
    refine bodyPost_ret (v := enV (1, x, 0, 0, 0, 0)) (by simp [results, Tryz.results78, go_sem, e0, e1, e2, e3, e4, e5, enV] <;> rfl) rfl ?_
    refine ⟨(1, x, 0, 0, 0, 0), _, rfl, ⟨hx, by simp, by simp⟩, (hS3.out).other (rv := w.heap.size) (by simp) (.inr (.inl e1)) (by omega) ?_, hout.out, (on3.out).next (S' := [w.heap.size]) ?_ (by simp)⟩
    all_goals exact ((((((Only.refl [w.heap.size] _).setCell (.inl (by simp)) _).setCell (.inl (by simp)) _).setCell (.inl (by simp)) _).setCell (.inl (by simp)) _).setCell (.inl (by simp)) _).setCell (.inl (by simp)) _
  have k1' : (kk == 1) = false := by simpa using k1
  by_cases k2 : kk = 2
  · subst k2
    have hk := hkk.out
    obtain rfl : n = 2 := by omega
    clear hk hkk
    have HV := hid (sc_n8 hW1)
    go_wp2_with fail
    refine HV.out.mono ?_
    rintro e w2 ⟨x, t2, rfl, hx, hs2, hO2, ho2⟩
    clear HV
    have hL2 := L1.out.only ho2 (by simp; omega)
    have hR2 := R1.out.only ho2 (by simp; omega)
    have hL2h := hid hL2
    obtain ⟨j0, j1, j2, j3, j4, j5, y0, y1, y2, y3, y4, y5⟩ := hL2
    have hL3 := hL2h.out.put2 (.int .i64 x)
    have oL : Only [w1.heap.size] w2 (w2.setCell ⟨w1.heap.size, 2, none⟩ (.int .i64 x)) := (Only.refl [w1.heap.size] w2).setCell (.inl (by simp)) _
    have hR3 := hR2.only oL (by simp; omega)
    have hS3 := hs2.other (rv := w1.heap.size) (by simp) (.inr (.inl j1)) (by have := ho2.size; omega) oL
    have on3 := (oW1.out.trans ho2 (by simp)).next oL (by simp; omega)
    have hout : Out pEntry t (2, [], x, 0, 0, 0) t2 := out_entry hat.out hO.out (by unfold entryF; rw [if_neg (by decide), if_pos rfl]; exact out_bind hO2 (out_done _ _))
    replace hL3 := hid hL3
    replace hR3 := hid hR3
    replace hS3 := hid hS3
    replace on3 := hid on3
    replace hout := hid hout
    clear hL2h hR2
    obtain ⟨l0, l1, l2, l3, l4, l5, _, _, _, _, _, _⟩ := hL3.out
    obtain ⟨e0, e1, e2, e3, e4, e5, z0, z1, z2, z3, z4, z5⟩ := hR3.out
    go_wp2_with fail
    refine bodyPost_ret (v := enV (2, [], x, 0, 0, 0)) (by simp [results, Tryz.results78, go_sem, e0, e1, e2, e3, e4, e5, enV] <;> rfl) rfl ?_
    refine ⟨(2, [], x, 0, 0, 0), _, rfl, ⟨by simp, hx.1, hx.2⟩, (hS3.out).other (rv := w.heap.size) (by simp) (.inr (.inl e1)) (by omega) ?_, hout.out, (on3.out).next (S' := [w.heap.size]) ?_ (by simp)⟩
    all_goals exact ((((((Only.refl [w.heap.size] _).setCell (.inl (by simp)) _).setCell (.inl (by simp)) _).setCell (.inl (by simp)) _).setCell (.inl (by simp)) _).setCell (.inl (by simp)) _).setCell (.inl (by simp)) _
  have k2' : (kk == 2) = false := by simpa using k2
  by_cases k3 : kk = 3
  · subst k3
    have hk := hkk.out
    obtain rfl : n = 3 := by omega
    clear hk hkk
    have HV := hid (sc_u2 hW1)
    go_wp2_with fail
    refine HV.out.mono ?_
    rintro e w2 ⟨x, t2, rfl, hx, hs2, hO2, ho2⟩
    clear HV
    have hL2 := L1.out.only ho2 (by simp; omega)
    have hR2 := R1.out.only ho2 (by simp; omega)
    have hL2h := hid hL2
    obtain ⟨j0, j1, j2, j3, j4, j5, y0, y1, y2, y3, y4, y5⟩ := hL2
    have hL3 := hL2h.out.put3 (.int .i64 (x : Int))
    have oL : Only [w1.heap.size] w2 (w2.setCell ⟨w1.heap.size, 3, none⟩ (.int .i64 (x : Int))) := (Only.refl [w1.heap.size] w2).setCell (.inl (by simp)) _
    have hR3 := hR2.only oL (by simp; omega)
    have hS3 := hs2.other (rv := w1.heap.size) (by simp) (.inr (.inl j1)) (by have := ho2.size; omega) oL
    have on3 := (oW1.out.trans ho2 (by simp)).next oL (by simp; omega)
    have hout : Out pEntry t (3, [], 0, (x : Int), 0, 0) t2 := out_entry hat.out hO.out (by unfold entryF; rw [if_neg (by decide), if_neg (by decide), if_pos (by decide)]; exact out_bind hO2 (out_done _ _))
    replace hL3 := hid hL3
    replace hR3 := hid hR3
    replace hS3 := hid hS3
    replace on3 := hid on3
    replace hout := hid hout
    clear hL2h hR2
    obtain ⟨l0, l1, l2, l3, l4, l5, _, _, _, _, _, _⟩ := hL3.out
    obtain ⟨e0, e1, e2, e3, e4, e5, z0, z1, z2, z3, z4, z5⟩ := hR3.out
    go_wp2_with fail
    refine bodyPost_ret (v := enV (3, [], 0, (x : Int), 0, 0)) (by simp [results, Tryz.results78, go_sem, e0, e1, e2, e3, e4, e5, enV] <;> rfl) rfl ?_
    refine ⟨(3, [], 0, (x : Int), 0, 0), _, rfl, ⟨by simp, by simp, by simp⟩, (hS3.out).other (rv := w.heap.size) (by simp) (.inr (.inl e1)) (by omega) ?_, hout.out, (on3.out).next (S' := [w.heap.size]) ?_ (by simp)⟩
    all_goals exact ((((((Only.refl [w.heap.size] _).setCell (.inl (by simp)) _).setCell (.inl (by simp)) _).setCell (.inl (by simp)) _).setCell (.inl (by simp)) _).setCell (.inl (by simp)) _).setCell (.inl (by simp)) _
  have k3' : (kk == 3) = false := by simpa using k3
  by_cases k4 : kk = 4
  · subst k4
    have hk := hkk.out
    obtain rfl : n = 4 := by omega
    clear hk hkk
    have HV := hid (sc_u2 hW1)
    go_wp2_with fail
    refine HV.out.mono ?_
    rintro e w2 ⟨x, t2, rfl, hx, hs2, hO2, ho2⟩
    clear HV
    have hL2 := L1.out.only ho2 (by simp; omega)
    have hR2 := R1.out.only ho2 (by simp; omega)
    have hL2h := hid hL2
    obtain ⟨j0, j1, j2, j3, j4, j5, y0, y1, y2, y3, y4, y5⟩ := hL2
    have hL3 := hL2h.out.put3 (.int .i64 (x : Int))
    have oL : Only [w1.heap.size] w2 (w2.setCell ⟨w1.heap.size, 3, none⟩ (.int .i64 (x : Int))) := (Only.refl [w1.heap.size] w2).setCell (.inl (by simp)) _
    have hR3 := hR2.only oL (by simp; omega)
    have hS3 := hs2.other (rv := w1.heap.size) (by simp) (.inr (.inl j1)) (by have := ho2.size; omega) oL
    have on3 := (oW1.out.trans ho2 (by simp)).next oL (by simp; omega)
    have hout : Out pEntry t (4, [], 0, (x : Int), 0, 0) t2 := out_entry hat.out hO.out (by unfold entryF; rw [if_neg (by decide), if_neg (by decide), if_pos (by decide)]; exact out_bind hO2 (out_done _ _))
    replace hL3 := hid hL3
    replace hR3 := hid hR3
    replace hS3 := hid hS3
    replace on3 := hid on3
    replace hout := hid hout
    clear hL2h hR2
    obtain ⟨l0, l1, l2, l3, l4, l5, _, _, _, _, _, _⟩ := hL3.out
    obtain ⟨e0, e1, e2, e3, e4, e5, z0, z1, z2, z3, z4, z5⟩ := hR3.out
    go_wp2_with fail
    refine bodyPost_ret (v := enV (4, [], 0, (x : Int), 0, 0)) (by simp [results, Tryz.results78, go_sem, e0, e1, e2, e3, e4, e5, enV] <;> rfl) rfl ?_
    refine ⟨(4, [], 0, (x : Int), 0, 0), _, rfl, ⟨by simp, by simp, by simp⟩, (hS3.out).other (rv := w.heap.size) (by simp) (.inr (.inl e1)) (by omega) ?_, hout.out, (on3.out).next (S' := [w.heap.size]) ?_ (by simp)⟩
    all_goals exact ((((((Only.refl [w.heap.size] _).setCell (.inl (by simp)) _).setCell (.inl (by simp)) _).setCell (.inl (by simp)) _).setCell (.inl (by simp)) _).setCell (.inl (by simp)) _).setCell (.inl (by simp)) _
  have k4' : (kk == 4) = false := by simpa using k4
  by_cases k56 : kk = 5 ∨ kk = 6
  · have hnk : Hid (n = 5 ∨ n = 6) := by
      have := hkk.out
      rcases k56 with e | e
      · exact .inl (by omega)
      · exact .inr (by omega)
    obtain ⟨rv, hrv⟩ : ∃ rv, rv = w1.heap.size := ⟨_, rfl⟩
    have hr : rv ≠ sb ∧ rv ≠ r := by omega
    have hw : w.heap.size ≤ rv := by omega
    obtain ⟨gv, hgv⟩ := gv_ex rv
    replace hgv := hid hgv
    have hk := knew6 hgv.out hW1.c0 oW1.out (by subst hrv; exact L1.out.c0) (by subst hrv; exact L1.out.c1) (by subst hrv; exact L1.out.c2) (by subst hrv; exact L1.out.c3) (by subst hrv; exact L1.out.c4) (by subst hrv; exact L1.out.c5) (by subst hrv; exact L1.out.f0) (by subst hrv; exact L1.out.f1) (by subst hrv; exact L1.out.f2) (by subst hrv; exact L1.out.f3) (by subst hrv; exact L1.out.f4) (by subst hrv; exact L1.out.f5)
    replace hk := hid hk
    replace hrv := hid hrv
    have L1' : Hid (En6 (w1.alloc (.cells #[.int .i64 kk, .string ⟨#[]⟩, .int .i64 0, .int .i64 0, .int .i64 0, .int .i64 0] 90)) rv (.int .i64 kk) (.string ⟨#[]⟩) (.int .i64 0) (.int .i64 0) (.int .i64 0) (.int .i64 0)) := by
      rw [hrv.out]
      exact L1.out
    have hkv : Hid ((n : Int) = kk) := hkk
    have hrw : Hid (rv ≠ w.heap.size ∧ rv ≠ d) := by
      have := hrv.out
      exact ⟨by omega, by omega⟩
    clear hkk L1
    have hfin : ∀ (W : World), True := fun _ => trivial
    rcases k56 with rfl | rfl
    · have hdum := trivial
      go_wp2_with fail
      rw [← hrv.out]
      go_region_held3 (fun w' => w'.cell? ⟨sb, 0, none⟩ = some (.pointer (some ⟨r, 0, none⟩)) ∧ Only [sb, r] w w' ∧ w'.cell? ⟨rv, 0, none⟩ = some (gv 0 w') ∧ w'.cell? ⟨rv, 1, none⟩ = some (gv 1 w') ∧ w'.cell? ⟨rv, 2, none⟩ = some (gv 2 w') ∧ w'.cell? ⟨rv, 3, none⟩ = some (gv 3 w') ∧ w'.cell? ⟨rv, 4, none⟩ = some (gv 4 w') ∧ w'.cell? ⟨rv, 5, none⟩ = some (gv 5 w') ∧ w'.frozen? ⟨rv, 0, none⟩ = false ∧ w'.frozen? ⟨rv, 1, none⟩ = false ∧ w'.frozen? ⟨rv, 2, none⟩ = false ∧ w'.frozen? ⟨rv, 3, none⟩ = false ∧ w'.frozen? ⟨rv, 4, none⟩ = false ∧ w'.frozen? ⟨rv, 5, none⟩ = false)
        (first | (with_reducible exact hk.out) | (with_reducible exact kdrew6 hgv.out hk.out) | ((with_reducible refine kset6 hgv.out hr hw _ _ ?_); (with_reducible assumption)) | (with_reducible exact kcall6 hgv.out hr (by assumption) (by assumption) (by assumption) (by simp)))
        (first
          | (go_at_call 77; (first | (with_reducible refine (sc_u2 (by assumption)).mono ?_) | (with_reducible refine (sc_u2 (Sc.drew (by assumption))).mono ?_)); rintro e w1 ⟨m, t', rfl, hm, hs, hO2, ho⟩; obtain ⟨_, _, k0, k1, k2, k3, k4, k5, z0, z1, z2, z3, z4, z5⟩ := kcall6 hgv.out hr (by assumption) hs ho (by simp)))
      rename_i wa ma ta hma hsa hOa hoa _ _ _ _ _ _ _ _ _ _ _ _ _ _ wb mb tb hmb hsb hOb hob _ _ _ _ _ _ _ _ _ _ _ _ _ _ _ oc hH
      clear hH k0 k1 k2 k3 k4 k5 z0 z1 z2 z3 z4 z5
      have hall := (((Only.refl [r] _).drew.trans hoa (by simp)).trans hob (by simp)).trans ho (by simp)
      have hn0 := hrw.out
      have L2 := L1'.out.only hall (by simp [hr.2])
      have R2 := R1.out.only hall (by simp; omega)
      have oS : Only [rv] w1 (((w1.setCell ⟨rv, 3, none⟩ (.int .i64 (ma : Int))).setCell ⟨rv, 4, none⟩ (.int .i64 (mb : Int))).setCell ⟨rv, 5, none⟩ (.int .i64 (m : Int))) := (((Only.refl [rv] w1).setCell (.inl (by simp)) _).setCell (.inl (by simp)) _).setCell (.inl (by simp)) _
      have hL3 := hid (((L2.put3 (.int .i64 (ma : Int))).put4 (.int .i64 (mb : Int))).put5 (.int .i64 (m : Int)))
      have hR3 := hid (R2.only oS (by simp; omega))
      have hS3 := hid (hs.other (rv := rv) (by simp) (.inr (.inl L2.c1)) ⟨hr.1, hr.2, hn0.2⟩ oS)
      have on3 := hid (oc.next oS (by simp; omega))
      have hout : Hid (Out pEntry t (5, [], 0, (ma : Int), (mb : Int), (m : Int)) t') := out_entry hat.out hO.out (by
        have e1 := hkv.out
        unfold entryF
        rw [if_neg (by omega), if_neg (by omega), if_neg (by omega), if_pos hnk.out, e1]
        exact out_bind hOa (out_bind hOb (out_bind hO2 (out_done _ _))))
      clear L2 R2
      obtain ⟨l0, l1, l2, l3, l4, l5, _, _, _, _, _, _⟩ := hL3.out
      obtain ⟨e0, e1, e2, e3, e4, e5, z0, z1, z2, z3, z4, z5⟩ := hR3.out
      go_wp2_with fail
      refine bodyPost_ret (v := enV (5, [], 0, (ma : Int), (mb : Int), (m : Int))) (by simp [results, Tryz.results78, go_sem, e0, e1, e2, e3, e4, e5, enV] <;> rfl) rfl ?_
      refine ⟨(5, [], 0, (ma : Int), (mb : Int), (m : Int)), _, rfl, ⟨by simp, by simp, by simp⟩, (hS3.out).other (rv := w.heap.size) (by simp) (.inr (.inl e1)) (by omega) ?_, hout.out, (on3.out).next (S' := [w.heap.size]) ?_ (by simp)⟩
      all_goals exact ((((((Only.refl [w.heap.size] _).setCell (.inl (by simp)) _).setCell (.inl (by simp)) _).setCell (.inl (by simp)) _).setCell (.inl (by simp)) _).setCell (.inl (by simp)) _).setCell (.inl (by simp)) _
    · have hdum := trivial
      go_wp2_with fail
      rw [← hrv.out]
      go_region_held3 (fun w' => w'.cell? ⟨sb, 0, none⟩ = some (.pointer (some ⟨r, 0, none⟩)) ∧ Only [sb, r] w w' ∧ w'.cell? ⟨rv, 0, none⟩ = some (gv 0 w') ∧ w'.cell? ⟨rv, 1, none⟩ = some (gv 1 w') ∧ w'.cell? ⟨rv, 2, none⟩ = some (gv 2 w') ∧ w'.cell? ⟨rv, 3, none⟩ = some (gv 3 w') ∧ w'.cell? ⟨rv, 4, none⟩ = some (gv 4 w') ∧ w'.cell? ⟨rv, 5, none⟩ = some (gv 5 w') ∧ w'.frozen? ⟨rv, 0, none⟩ = false ∧ w'.frozen? ⟨rv, 1, none⟩ = false ∧ w'.frozen? ⟨rv, 2, none⟩ = false ∧ w'.frozen? ⟨rv, 3, none⟩ = false ∧ w'.frozen? ⟨rv, 4, none⟩ = false ∧ w'.frozen? ⟨rv, 5, none⟩ = false)
        (first | (with_reducible exact hk.out) | (with_reducible exact kdrew6 hgv.out hk.out) | ((with_reducible refine kset6 hgv.out hr hw _ _ ?_); (with_reducible assumption)) | (with_reducible exact kcall6 hgv.out hr (by assumption) (by assumption) (by assumption) (by simp)))
        (first
          | (go_at_call 77; (first | (with_reducible refine (sc_u2 (by assumption)).mono ?_) | (with_reducible refine (sc_u2 (Sc.drew (by assumption))).mono ?_)); rintro e w1 ⟨m, t', rfl, hm, hs, hO2, ho⟩; obtain ⟨_, _, k0, k1, k2, k3, k4, k5, z0, z1, z2, z3, z4, z5⟩ := kcall6 hgv.out hr (by assumption) hs ho (by simp)))
      rename_i wa ma ta hma hsa hOa hoa _ _ _ _ _ _ _ _ _ _ _ _ _ _ wb mb tb hmb hsb hOb hob _ _ _ _ _ _ _ _ _ _ _ _ _ _ _ oc hH
      clear hH k0 k1 k2 k3 k4 k5 z0 z1 z2 z3 z4 z5
      have hall := (((Only.refl [r] _).drew.trans hoa (by simp)).trans hob (by simp)).trans ho (by simp)
      have hn0 := hrw.out
      have L2 := L1'.out.only hall (by simp [hr.2])
      have R2 := R1.out.only hall (by simp; omega)
      have oS : Only [rv] w1 (((w1.setCell ⟨rv, 3, none⟩ (.int .i64 (ma : Int))).setCell ⟨rv, 4, none⟩ (.int .i64 (mb : Int))).setCell ⟨rv, 5, none⟩ (.int .i64 (m : Int))) := (((Only.refl [rv] w1).setCell (.inl (by simp)) _).setCell (.inl (by simp)) _).setCell (.inl (by simp)) _
      have hL3 := hid (((L2.put3 (.int .i64 (ma : Int))).put4 (.int .i64 (mb : Int))).put5 (.int .i64 (m : Int)))
      have hR3 := hid (R2.only oS (by simp; omega))
      have hS3 := hid (hs.other (rv := rv) (by simp) (.inr (.inl L2.c1)) ⟨hr.1, hr.2, hn0.2⟩ oS)
      have on3 := hid (oc.next oS (by simp; omega))
      have hout : Hid (Out pEntry t (6, [], 0, (ma : Int), (mb : Int), (m : Int)) t') := out_entry hat.out hO.out (by
        have e1 := hkv.out
        unfold entryF
        rw [if_neg (by omega), if_neg (by omega), if_neg (by omega), if_pos hnk.out, e1]
        exact out_bind hOa (out_bind hOb (out_bind hO2 (out_done _ _))))
      clear L2 R2
      obtain ⟨l0, l1, l2, l3, l4, l5, _, _, _, _, _, _⟩ := hL3.out
      obtain ⟨e0, e1, e2, e3, e4, e5, z0, z1, z2, z3, z4, z5⟩ := hR3.out
      go_wp2_with fail
      refine bodyPost_ret (v := enV (6, [], 0, (ma : Int), (mb : Int), (m : Int))) (by simp [results, Tryz.results78, go_sem, e0, e1, e2, e3, e4, e5, enV] <;> rfl) rfl ?_
      refine ⟨(6, [], 0, (ma : Int), (mb : Int), (m : Int)), _, rfl, ⟨by simp, by simp, by simp⟩, (hS3.out).other (rv := w.heap.size) (by simp) (.inr (.inl e1)) (by omega) ?_, hout.out, (on3.out).next (S' := [w.heap.size]) ?_ (by simp)⟩
      all_goals exact ((((((Only.refl [w.heap.size] _).setCell (.inl (by simp)) _).setCell (.inl (by simp)) _).setCell (.inl (by simp)) _).setCell (.inl (by simp)) _).setCell (.inl (by simp)) _).setCell (.inl (by simp)) _
  · have k5 : ¬ kk = 5 := fun e => k56 (.inl e)
    have k6 : ¬ kk = 6 := fun e => k56 (.inr e)
    have k5' : (kk == 5) = false := by simpa using k5
    have k6' : (kk == 6) = false := by simpa using k6
    have HV := hid (refuse_src hW1 (at_ : Int) 3 (by decide))
    have hnk : Hid (¬ n = 1 ∧ ¬ n = 2 ∧ ¬ (n = 3 ∨ n = 4) ∧ ¬ (n = 5 ∨ n = 6)) := by
      have := hkk.out
      exact ⟨by omega, by omega, by omega, by omega⟩
    clear k56
    go_wp2_with fail
    refine HV.out.mono ?_
    rintro e w2 ⟨rfl, hs2, ho2⟩
    clear HV
    have hL3 := hid (L1.out.only ho2 (by simp; omega))
    have hR3 := hid (R1.out.only ho2 (by simp; omega))
    have hS3 := hid hs2
    have on3 := hid (oW1.out.trans ho2 (by simp))
    have hout : Hid (Out pEntry t (kk, [], 0, 0, 0, 0) (tRefuse (at_ : Int) 3 t1)) := out_entry hat.out hO.out (by
      unfold entryF
      rw [if_neg hnk.out.1, if_neg hnk.out.2.1, if_neg hnk.out.2.2.1, if_neg hnk.out.2.2.2]
      exact out_fail _ _ _ _)
    clear hs2
    obtain ⟨l0, l1, l2, l3, l4, l5, _, _, _, _, _, _⟩ := hL3.out
    obtain ⟨e0, e1, e2, e3, e4, e5, z0, z1, z2, z3, z4, z5⟩ := hR3.out
    go_wp2_with fail
    refine bodyPost_ret (v := enV (kk, [], 0, 0, 0, 0)) (by simp [results, Tryz.results78, go_sem, e0, e1, e2, e3, e4, e5, enV] <;> rfl) rfl ?_
    refine ⟨(kk, [], 0, 0, 0, 0), _, rfl, ⟨by simp, by simp, by simp⟩, (hS3.out).other (rv := w.heap.size) (by simp) (.inr (.inl e1)) (by omega) ?_, hout.out, (on3.out).next (S' := [w.heap.size]) ?_ (by simp)⟩
    all_goals exact ((((((Only.refl [w.heap.size] _).setCell (.inl (by simp)) _).setCell (.inl (by simp)) _).setCell (.inl (by simp)) _).setCell (.inl (by simp)) _).setCell (.inl (by simp)) _).setCell (.inl (by simp)) _

end Go.Proofs.YtildemmkhndhjaaGreatDoor
namespace Go.Proofs.YtildemmkhndhjaaGreatDoor
open Go.RowKit

theorem elEn : ElT 90 (.agg #[.int .i64 0, .string ⟨#[]⟩, .int .i64 0, .int .i64 0, .int .i64 0, .int .i64 0]) 6 56 := ⟨by kernel_rfl, rfl, by decide, by decide⟩

set_option maxHeartbeats 4000000 in
theorem rows_en {w : World} {sb r d : Nat} {t : St} (h : Sc w sb r d t) (most : Nat) (hmost : most ≤ 100000) :
    Calls Tryz.prog 76 #[.pointer (some ⟨sb, 0, none⟩), .func (.func 77) #[.pointer (some ⟨r, 0, none⟩)] #[], .int .i64 (most : Int), .func (.func 78) #[.pointer (some ⟨sb, 0, none⟩)] #[]] w
      fun e w' => ∃ (xs : List En) (t' : St) (ao : Option Addr) (cap : Nat), e = .returned (.slice ao xs.length cap) ∧ w'.ownsRow w.heap.size 90 6 (.slice ao xs.length cap) xs.length (ecs xs) ∧ (∀ x ∈ xs, (x.2.1.length ≤ 262144 ∧ -9223372036854775808 ≤ x.2.2.1 ∧ x.2.2.1 ≤ 9223372036854775807)) ∧ xs.length ≤ 65536 ∧ Sc w' sb r d t' ∧ Out (pRows 2 most pEntry) t xs t' ∧ Only [sb, r] w w' := by
  have c0 := h.c0
  have hl := hid h.lt
  have HA := hid (sc_at h)
  have HU := hid (sc_u2 h)
  clear h
  go_enter Tryz.func76, Tryz.ntmps76
  go_wp2_with fail
  refine HA.out.mono ?_
  rintro e w1 ⟨at_, rfl, hat, rfl⟩
  go_wp2_with fail
  refine HU.out.mono ?_
  rintro e w1 ⟨n, t0, rfl, hn, h0, hO, ho1⟩
  clear HA HU c0
  have o1 : Hid (Only [sb, r] w w1) := ho1.mono (by simp)
  replace hat := hid hat
  replace hO := hid hO
  by_cases hm : most < n
  · have gm : (most : Int) < (n : Int) := by omega
    have HR := hid (refuse_src h0 (at_ : Int) 4 (by decide))
    go_wp2_with fail
    refine HR.out.mono ?_
    rintro e w2 ⟨rfl, hS2, ho2⟩
    clear HR
    have hSt := hid hS2
    have oSt := hid (o1.out.trans ho2 (by simp))
    clear hS2 ho2 ho1 h0
    go_wp2_with fail
    go_loopw [11] (fun l wr => ∃ (xs : List En) (t1 : St) (ao : Option Addr) (cap : Nat), l = .slice ao xs.length cap ∧ xs.length ≤ n ∧ Hid (wr.ownsRow w.heap.size 90 6 (.slice ao xs.length cap) xs.length (ecs xs)) ∧ Hid (xs = [] → ao = none) ∧ Hid (∀ x ∈ xs, (x.2.1.length ≤ 262144 ∧ -9223372036854775808 ≤ x.2.2.1 ∧ x.2.2.1 ≤ 9223372036854775807)) ∧ Hid (Sc wr sb r d t1) ∧ Hid ((most < n ∧ t1 = tRefuse (at_ : Int) 4 t0 ∧ xs = []) ∨ (¬ most < n ∧ Far pEntry n t0 xs t1)) ∧ Hid (Only [sb, r] w wr)) (fun l _ => n - sliceLen l)
    case atStart => exact ⟨[], _, none, 0, rfl, by simp, World.ownsRow_nil _ _ _ _, hid (fun _ => rfl), hid (by simp), hSt, hid (.inl ⟨hm, rfl, rfl⟩), oSt⟩
    case round =>
      obtain ⟨xs, t1, ao, cap, rfl, hxn, hown, hnil, hlen, hS, hF, hO1⟩ := hrel
      clear hSt oSt
      have HFi := hid (fine_src hS.out)
      by_cases hlt : xs.length < n
      · have g1 : ((xs.length : Int) < (n : Int)) := by omega
        cases hfi : isFine t1 with
        | true =>
          rw [hfi] at HFi
          have hFar : Hid (¬ most < n ∧ Far pEntry n t0 xs t1) := by
            rcases hF.out with ⟨_, h2, _⟩ | h2
            · rw [h2] at hfi
              cases t0 <;> cases hfi
            · exact h2
          have HR := hid (rentry_any hS.out)
          unfold enV at HR
          have c0 := hS.out.c0
          go_wp2_with fail
          refine HFi.out.mono ?_
          rintro e w2 ⟨rfl, rfl⟩
          go_wp2_with fail
          refine HR.out.mono ?_
          rintro e w2 ⟨x, t2, rfl, hxl, hS2, hOx, ho2⟩
          clear HR c0
          have hl1 := hl.out
          have hown2 := rows_only hown.out (ho2.alloc (.cells #[.int .i64 x.1, .string (str x.2.1), .int .i64 x.2.2.1, .int .i64 x.2.2.2.1, .int .i64 x.2.2.2.2.1, .int .i64 x.2.2.2.2.2] 90)) (fun g hg => by have := (hown.out.lt g hg).1; simp; omega)
          have o2 := hid ((hO1.out.trans ho2 (by simp)).alloc (.cells #[.int .i64 x.1, .string (str x.2.1), .int .i64 x.2.2.1, .int .i64 x.2.2.2.1, .int .i64 x.2.2.2.2.1, .int .i64 x.2.2.2.2.2] 90))
          have hR := RS.fresh w2 #[.int .i64 x.1, .string (str x.2.1), .int .i64 x.2.2.1, .int .i64 x.2.2.2.1, .int .i64 x.2.2.2.2.1, .int .i64 x.2.2.2.2.2] 90
          have hS3 := hid (hS2.only0 ((Only.refl [] w2).alloc (.cells #[.int .i64 x.1, .string (str x.2.1), .int .i64 x.2.2.1, .int .i64 x.2.2.2.1, .int .i64 x.2.2.2.2.1, .int .i64 x.2.2.2.2.2] 90)))
          have hOw := hid hown2
          go_wp2_with (at_builtin; refine wpList_append_any (ys := ecs [x]) rfl (.tmp 33) (.tmp 36) elEn Tryz.underlying29 rfl rfl rfl hown2 hR rfl (ecs_one _) (by simp) (by omega) (by have := o2.out.size; omega) ?_; rintro ao3 cap3 w3 hA3)
          have hfin : Hid (Sc w3 sb r d t2) := by
            cases xs with
            | nil =>
              have hno := hnil.out rfl
              subst hno
              exact hS3.out.only0 hA3.only
            | cons y ys => exact hS3.out.row hOw.out hA3 (by omega) (u := .string (str y.2.1)) (by simp) (fun _ => .inr (.inl rfl))
          have o3 := hid (o2.out.next hA3.only (fun z hz => by
            cases ao with
            | none => simp [Value.ownBlock] at hz
            | some a =>
              simp [Value.ownBlock] at hz
              subst hz
              exact (hOw.out.lt a.block rfl).1))
          have hown3 := hA3.own
          have ee : ecs xs ++ ecs [x] = ecs (xs ++ [x]) := (ecs_append _ _).symm
          rw [ee] at hown3
          have hnone := hA3.none
          go_wp2_with fail
          refine ⟨⟨xs ++ [x], t2, ao3, cap3, by simp, by simp; omega, by simpa [Hid] using hown3, hid (by simp), hid (by
            intro y hy
            rcases List.mem_append.1 hy with hy | hy
            · exact hlen.out y hy
            · rw [List.mem_singleton.1 hy]; exact hxl), hfin, hid (.inr ⟨hFar.out.1, far_step hFar.out.2 hfi hOx hlt⟩), o3⟩, by simp [sliceLen]; omega⟩
        | false =>
          rw [hfi] at HFi
          go_wp2_with fail
          refine HFi.out.mono ?_
          rintro e w2 ⟨rfl, rfl⟩
          go_wp2_with fail
          go_ret
          refine ⟨xs, t1, ao, cap, rfl, hown.out, (by first | exact hlen.out | (intros; exact hlen.out _ (by assumption))), by omega, hS.out, out_rows hO.out hat.out ?_, hO1.out⟩
          rcases hF.out with ⟨h1, h2, _⟩ | ⟨h1, h2⟩
          · exact .inl ⟨h1, h2⟩
          · exact .inr ⟨h1, h2, fun hf => by rw [hfi] at hf; cases hf⟩
      · have g1 : ¬ ((xs.length : Int) < (n : Int)) := by omega
        go_wp2_with fail
        go_ret
        refine ⟨xs, t1, ao, cap, rfl, hown.out, (by first | exact hlen.out | (intros; exact hlen.out _ (by assumption))), by omega, hS.out, out_rows hO.out hat.out ?_, hO1.out⟩
        rcases hF.out with ⟨h1, h2, _⟩ | ⟨h1, h2⟩
        · exact .inl ⟨h1, h2⟩
        · exact .inr ⟨h1, h2, fun _ => by omega⟩
  · have gm : ¬ (most : Int) < (n : Int) := by omega
    have hSt := hid h0
    have oSt := o1
    clear ho1 h0
    go_wp2_with fail
    go_loopw [11] (fun l wr => ∃ (xs : List En) (t1 : St) (ao : Option Addr) (cap : Nat), l = .slice ao xs.length cap ∧ xs.length ≤ n ∧ Hid (wr.ownsRow w.heap.size 90 6 (.slice ao xs.length cap) xs.length (ecs xs)) ∧ Hid (xs = [] → ao = none) ∧ Hid (∀ x ∈ xs, (x.2.1.length ≤ 262144 ∧ -9223372036854775808 ≤ x.2.2.1 ∧ x.2.2.1 ≤ 9223372036854775807)) ∧ Hid (Sc wr sb r d t1) ∧ Hid ((most < n ∧ t1 = tRefuse (at_ : Int) 4 t0 ∧ xs = []) ∨ (¬ most < n ∧ Far pEntry n t0 xs t1)) ∧ Hid (Only [sb, r] w wr)) (fun l _ => n - sliceLen l)
    case atStart => exact ⟨[], _, none, 0, rfl, by simp, World.ownsRow_nil _ _ _ _, hid (fun _ => rfl), hid (by simp), hSt, hid (.inr ⟨hm, far_start _ _ _⟩), oSt⟩
    case round =>
      obtain ⟨xs, t1, ao, cap, rfl, hxn, hown, hnil, hlen, hS, hF, hO1⟩ := hrel
      clear hSt oSt
      have HFi := hid (fine_src hS.out)
      by_cases hlt : xs.length < n
      · have g1 : ((xs.length : Int) < (n : Int)) := by omega
        cases hfi : isFine t1 with
        | true =>
          rw [hfi] at HFi
          have hFar : Hid (¬ most < n ∧ Far pEntry n t0 xs t1) := by
            rcases hF.out with ⟨_, h2, _⟩ | h2
            · rw [h2] at hfi
              cases t0 <;> cases hfi
            · exact h2
          have HR := hid (rentry_any hS.out)
          unfold enV at HR
          have c0 := hS.out.c0
          go_wp2_with fail
          refine HFi.out.mono ?_
          rintro e w2 ⟨rfl, rfl⟩
          go_wp2_with fail
          refine HR.out.mono ?_
          rintro e w2 ⟨x, t2, rfl, hxl, hS2, hOx, ho2⟩
          clear HR c0
          have hl1 := hl.out
          have hown2 := rows_only hown.out (ho2.alloc (.cells #[.int .i64 x.1, .string (str x.2.1), .int .i64 x.2.2.1, .int .i64 x.2.2.2.1, .int .i64 x.2.2.2.2.1, .int .i64 x.2.2.2.2.2] 90)) (fun g hg => by have := (hown.out.lt g hg).1; simp; omega)
          have o2 := hid ((hO1.out.trans ho2 (by simp)).alloc (.cells #[.int .i64 x.1, .string (str x.2.1), .int .i64 x.2.2.1, .int .i64 x.2.2.2.1, .int .i64 x.2.2.2.2.1, .int .i64 x.2.2.2.2.2] 90))
          have hR := RS.fresh w2 #[.int .i64 x.1, .string (str x.2.1), .int .i64 x.2.2.1, .int .i64 x.2.2.2.1, .int .i64 x.2.2.2.2.1, .int .i64 x.2.2.2.2.2] 90
          have hS3 := hid (hS2.only0 ((Only.refl [] w2).alloc (.cells #[.int .i64 x.1, .string (str x.2.1), .int .i64 x.2.2.1, .int .i64 x.2.2.2.1, .int .i64 x.2.2.2.2.1, .int .i64 x.2.2.2.2.2] 90)))
          have hOw := hid hown2
          go_wp2_with (at_builtin; refine wpList_append_any (ys := ecs [x]) rfl (.tmp 33) (.tmp 36) elEn Tryz.underlying29 rfl rfl rfl hown2 hR rfl (ecs_one _) (by simp) (by omega) (by have := o2.out.size; omega) ?_; rintro ao3 cap3 w3 hA3)
          have hfin : Hid (Sc w3 sb r d t2) := by
            cases xs with
            | nil =>
              have hno := hnil.out rfl
              subst hno
              exact hS3.out.only0 hA3.only
            | cons y ys => exact hS3.out.row hOw.out hA3 (by omega) (u := .string (str y.2.1)) (by simp) (fun _ => .inr (.inl rfl))
          have o3 := hid (o2.out.next hA3.only (fun z hz => by
            cases ao with
            | none => simp [Value.ownBlock] at hz
            | some a =>
              simp [Value.ownBlock] at hz
              subst hz
              exact (hOw.out.lt a.block rfl).1))
          have hown3 := hA3.own
          have ee : ecs xs ++ ecs [x] = ecs (xs ++ [x]) := (ecs_append _ _).symm
          rw [ee] at hown3
          have hnone := hA3.none
          go_wp2_with fail
          refine ⟨⟨xs ++ [x], t2, ao3, cap3, by simp, by simp; omega, by simpa [Hid] using hown3, hid (by simp), hid (by
            intro y hy
            rcases List.mem_append.1 hy with hy | hy
            · exact hlen.out y hy
            · rw [List.mem_singleton.1 hy]; exact hxl), hfin, hid (.inr ⟨hFar.out.1, far_step hFar.out.2 hfi hOx hlt⟩), o3⟩, by simp [sliceLen]; omega⟩
        | false =>
          rw [hfi] at HFi
          go_wp2_with fail
          refine HFi.out.mono ?_
          rintro e w2 ⟨rfl, rfl⟩
          go_wp2_with fail
          go_ret
          refine ⟨xs, t1, ao, cap, rfl, hown.out, (by first | exact hlen.out | (intros; exact hlen.out _ (by assumption))), by omega, hS.out, out_rows hO.out hat.out ?_, hO1.out⟩
          rcases hF.out with ⟨h1, h2, _⟩ | ⟨h1, h2⟩
          · exact .inl ⟨h1, h2⟩
          · exact .inr ⟨h1, h2, fun hf => by rw [hfi] at hf; cases hf⟩
      · have g1 : ¬ ((xs.length : Int) < (n : Int)) := by omega
        go_wp2_with fail
        go_ret
        refine ⟨xs, t1, ao, cap, rfl, hown.out, (by first | exact hlen.out | (intros; exact hlen.out _ (by assumption))), by omega, hS.out, out_rows hO.out hat.out ?_, hO1.out⟩
        rcases hF.out with ⟨h1, h2, _⟩ | ⟨h1, h2⟩
        · exact .inl ⟨h1, h2⟩
        · exact .inr ⟨h1, h2, fun _ => by omega⟩

end Go.Proofs.YtildemmkhndhjaaGreatDoor
