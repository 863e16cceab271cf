/-
  What the proof leans on, part 8 of 23. The conditions stand in each theorem.
-/
import Derived.Test.YtildemmkhndhjaaGreatDoorB06
import Derived.Test.YtildemmkhndhjaaGreatDoorB07
import Derived.WalkKit
import Derived.Laws.BitsAllLaws
import Derived.Laws.Bits64
import Derived.Test.YtildemmkhndhjaaGreatDoorB01
import Derived.Below
import Derived.Outline
import Derived.Test.YtildemmkhndhjaaGreatDoorB02
import Derived.Laws.AppendOwnNone
import Derived.WalkSpells
import Derived.Laws.IdiomStrings
namespace Go.Proofs.YtildemmkhndhjaaGreatDoor
open Go.RowKit

abbrev Fd := Int × List UInt8 × Ty
abbrev Hd := Int × Int × Int × List UInt8
abbrev Sg := List Ty × Bool × Ty

/-- A method, a class, a module. -/
structure Me where
  flags : Int
  name : List UInt8
  sig : Sg
  stack : Int
  locals : Int
  code : List UInt8
  hands : List Hd
  deriving DecidableEq

structure Cl where
  flags : Int
  name : List UInt8
  super : List UInt8
  faces : List (List UInt8)
  fields : List Fd
  methods : List Me
  deriving DecidableEq

structure Mo where
  pool : List En
  classes : List Cl
  deriving DecidableEq

/-- Why a module is none: class, member, place, error. -/
abbrev Bp := Int × Int × Int × Int
def ok4 : Bp := (0, 0, 0, 0)

def objL : List UInt8 := [79, 98, 106, 101, 99, 116]

def headE (c : Cl) : Int :=
  if c.flags ≠ 0 ∧ c.flags ≠ 1 ∧ c.flags ≠ 2 then 21 else if nameOK c.name = false ∨ nameOK c.super = false then 14 else if 16 < c.faces.length then 4
  else if c.flags = 1 ∧ c.super ≠ objL then 31 else if c.flags = 1 ∧ 0 < c.fields.length then 33 else 0

def faceE (ahead : List (List UInt8)) (n : List UInt8) : Int := if nameOK n = true then (if n ∈ ahead then 20 else 0) else 14

def fieldE (ahead : List Fd) (f : Fd) : Int :=
  if f.1 ≠ 0 ∧ f.1 ≠ 4 then 21 else if nameOK f.2.1 = true then (if tyCheck f.2.2 = 0 then (if ahead.any (fun g => decide (g.2.1 = f.2.1)) = true then 20 else 0) else tyCheck f.2.2) else 14

/-- Begins an instruction at that place of the code? -/
def begE (all : List In) (n : Nat) (k : Int) : Bool := decide (0 ≤ k) && (decide (k < (n : Int)) && begunI all k.toNat)

def handE (all : List In) (n : Nat) (h : Hd) : Int :=
  if begE all n h.1 = false ∨ (begE all n h.2.1 = false ∧ h.2.1 ≠ (n : Int)) ∨ h.2.1 ≤ h.1 then 19 else if begE all n h.2.2.1 = true then (if nameOK h.2.2.2 = true then 0 else 14) else 18

def handsE (all : List In) (n : Nat) : Nat → List Hd → Int × Int
  | _, [] => (0, 0)
  | i, h :: l => if handE all n h = 0 then handsE all n (i + 1) l else ((i : Int), handE all n h)

def handedE (m : Me) : Int := if m.flags = 4 then (m.sig.1.length : Int) else (m.sig.1.length : Int) + 1

def handlersE (m : Me) : Int × Int := if 32 < m.hands.length then (0, 4) else handsE (allR m.code).1 m.code.length 0 m.hands

def bodyE (l : List En) (m : Me) : Int × Int :=
  if m.flags = 2 then (if m.stack ≠ 0 ∨ m.locals ≠ 0 ∨ 0 < m.code.length ∨ 0 < m.hands.length then (0, 1) else (0, 0))
  else if m.stack < 0 ∨ 64 < m.stack ∨ m.locals < 0 ∨ 64 < m.locals then (0, 1) else if m.locals < handedE m then (0, 43)
  else if (checkI m.code l m.locals).2 = 0 then handlersE m else checkI m.code l m.locals

def headingE (ahead : List Me) (m : Me) : Int :=
  if m.flags ≠ 0 ∧ m.flags ≠ 2 ∧ m.flags ≠ 4 then 21 else if methodOK m.name = true then
    (if sigCheck m.sig.1 m.sig.2.1 m.sig.2.2 = 0 then (if 255 < (sigText m.sig.1 m.sig.2.1 m.sig.2.2).length then 5 else if ahead.any (fun n => decide (n.name = m.name) && sameR n.sig m.sig) = true then 20 else 0)
      else sigCheck m.sig.1 m.sig.2.1 m.sig.2.2)
  else 14

def flagsE (cf : Int) (m : Me) : Int :=
  if m.name = initL ∧ m.flags ≠ 0 then 21 else if m.name = initL ∧ m.sig.2.1 = false then 15 else if cf = 1 ∧ m.flags ≠ 2 then 33 else if cf = 0 ∧ m.flags = 2 then 21 else 0

def methodE (l : List En) (cf : Int) (ahead : List Me) (m : Me) : Int × Int :=
  if headingE ahead m = 0 then (if flagsE cf m = 0 then bodyE l m else (0, flagsE cf m)) else (0, headingE ahead m)

/-- The first of a list that is wrong, each held against those ahead of it. -/
def firstE {α : Type} (g : List α → α → Int × Int) : List α → List α → Bp
  | _, [] => ok4
  | a, x :: l => if (g a x).2 = 0 then firstE g (a ++ [x]) l else (0, (a.length : Int), (g a x).1, (g a x).2)

def at0 {α : Type} (g : List α → α → Int) (a : List α) (x : α) : Int × Int := (0, g a x)

def membersE {α : Type} (most : Nat) (g : List α → α → Int × Int) (l : List α) : Bp := if most < l.length then (0, 0, 0, 4) else firstE g [] l

/-- The first of three that is wrong. -/
def orE (a b : Bp) : Bp := if a.2.2.2 = 0 then b else a

def classE (l : List En) (c : Cl) : Bp :=
  orE (0, 0, 0, headE c) (orE (membersE 16 (at0 faceE) c.faces) (orE (membersE 64 (at0 fieldE) c.fields) (membersE 64 (methodE l c.flags) c.methods)))

def inC (i : Nat) (b : Bp) : Bp := ((i : Int), b.2.1, b.2.2.1, b.2.2.2)

def classesE (l : List En) : Nat → List Cl → Bp
  | _, [] => ok4
  | i, c :: cs => if (classE l c).2.2.2 = 0 then classesE l (i + 1) cs else inC i (classE l c)

def twiceE : List Cl → List Cl → Bp
  | _, [] => ok4
  | a, c :: cs => if a.any (fun d => decide (d.name = c.name)) = true then ((a.length : Int), 0, 0, 20) else twiceE (a ++ [c]) cs

def checkM (m : Mo) : Bp :=
  orE (0, 0, (if (checkE m.pool).2 = 0 then 0 else (checkE m.pool).1), (checkE m.pool).2) (if 64 < m.classes.length then (0, 0, 0, 4) else orE (classesE m.pool 0 m.classes) (twiceE [] m.classes))

/-- Where the first wrong one stands. -/
theorem firstE_at {α : Type} (g : List α → α → Int × Int) : ∀ (l a : List α) (k : Nat) (hk : k < l.length), (∀ j (hj : j < k), (g (a ++ l.take j) (l[j]'(by omega))).2 = 0) → (g (a ++ l.take k) l[k]).2 ≠ 0 →
    firstE g a l = (0, ((a.length + k : Nat) : Int), (g (a ++ l.take k) l[k]).1, (g (a ++ l.take k) l[k]).2) := by
  intro l
  induction l with
  | nil => intro a k hk; simp at hk
  | cons x l ih =>
    intro a k hk h0 h1
    cases k with
    | zero =>
      simp only [List.take_zero, List.append_nil, List.getElem_cons_zero] at h1 ⊢
      simp only [firstE, if_neg h1, Nat.add_zero]
    | succ k =>
      have h00 := h0 0 (by omega)
      simp only [List.take_zero, List.append_nil, List.getElem_cons_zero] at h00
      simp only [List.take_succ_cons, List.getElem_cons_succ] at h1 ⊢
      have e : ∀ t : List α, a ++ x :: t = (a ++ [x]) ++ t := by intro t; simp
      rw [e] at h1 ⊢
      simp only [firstE, if_pos h00]
      rw [ih (a ++ [x]) k (by simpa using hk) (fun j hj => by
        have := h0 (j + 1) (by omega)
        simp only [List.take_succ_cons, List.getElem_cons_succ] at this
        rw [e] at this
        exact this) h1]
      simp only [List.length_append, List.length_singleton]
      congr 2
      omega

theorem firstE_ok {α : Type} (g : List α → α → Int × Int) : ∀ (l a : List α), (∀ j (hj : j < l.length), (g (a ++ l.take j) l[j]).2 = 0) → firstE g a l = ok4 := by
  intro l
  induction l with
  | nil => intro a _; rfl
  | cons x l ih =>
    intro a h0
    have h00 := h0 0 (by simp)
    simp only [List.take_zero, List.append_nil, List.getElem_cons_zero] at h00
    simp only [firstE, if_pos h00]
    refine ih (a ++ [x]) fun j hj => ?_
    have := h0 (j + 1) (by simpa using hj)
    simp only [List.take_succ_cons, List.getElem_cons_succ] at this
    rw [show a ++ x :: l.take j = (a ++ [x]) ++ l.take j by simp] at this
    exact this

theorem firstE_zero {α : Type} (g : List α → α → Int × Int) : ∀ (l a : List α), (firstE g a l).2.2.2 = 0 → ∀ j (hj : j < l.length), (g (a ++ l.take j) l[j]).2 = 0 := by
  intro l
  induction l with
  | nil => intro a _ j hj; simp at hj
  | cons x l ih =>
    intro a h j hj
    simp only [firstE] at h
    split at h
    · rename_i h0
      cases j with
      | zero => simpa using h0
      | succ j =>
        have := ih _ h j (by simpa using hj)
        simp only [List.take_succ_cons, List.getElem_cons_succ]
        rw [show a ++ x :: l.take j = (a ++ [x]) ++ l.take j by simp]
        exact this
    · rename_i h0
      exact absurd h h0

theorem handsE_at (all : List In) (n : Nat) : ∀ (l : List Hd) (i k : Nat) (hk : k < l.length), (∀ j (hj : j < k), handE all n (l[j]'(by omega)) = 0) → handE all n l[k] ≠ 0 → handsE all n i l = (((i + k : Nat) : Int), handE all n l[k]) := by
  intro l
  induction l with
  | nil => intro i k hk; simp at hk
  | cons x l ih =>
    intro i k hk h0 h1
    cases k with
    | zero =>
      simp only [List.getElem_cons_zero] at h1 ⊢
      simp only [handsE, if_neg h1, Nat.add_zero]
    | succ k =>
      have h00 := h0 0 (by omega)
      simp only [List.getElem_cons_zero] at h00
      simp only [List.getElem_cons_succ] at h1 ⊢
      simp only [handsE, if_pos h00]
      rw [ih (i + 1) k (by simpa using hk) (fun j hj => by simpa using h0 (j + 1) (by omega)) h1]
      congr 2
      omega

theorem handsE_ok (all : List In) (n : Nat) : ∀ (l : List Hd) (i : Nat), (∀ j (hj : j < l.length), handE all n l[j] = 0) → handsE all n i l = (0, 0) := by
  intro l
  induction l with
  | nil => intro i _; rfl
  | cons x l ih =>
    intro i h0
    have h00 := h0 0 (by simp)
    simp only [List.getElem_cons_zero] at h00
    simp only [handsE, if_pos h00]
    exact ih _ fun j hj => by
      have := h0 (j + 1) (by simpa using hj)
      simp only [List.getElem_cons_succ] at this
      exact this

theorem classesE_at (p : List En) : ∀ (l : List Cl) (i k : Nat) (hk : k < l.length), (∀ j (hj : j < k), (classE p (l[j]'(by omega))).2.2.2 = 0) → (classE p l[k]).2.2.2 ≠ 0 → classesE p i l = inC (i + k) (classE p l[k]) := by
  intro l
  induction l with
  | nil => intro i k hk; simp at hk
  | cons x l ih =>
    intro i k hk h0 h1
    cases k with
    | zero =>
      simp only [List.getElem_cons_zero] at h1 ⊢
      simp only [classesE, if_neg h1, Nat.add_zero]
    | succ k =>
      have h00 := h0 0 (by omega)
      simp only [List.getElem_cons_zero] at h00
      simp only [List.getElem_cons_succ] at h1 ⊢
      simp only [classesE, if_pos h00]
      rw [ih (i + 1) k (by simpa using hk) (fun j hj => by simpa using h0 (j + 1) (by omega)) h1]
      congr 1
      omega

theorem classesE_ok (p : List En) : ∀ (l : List Cl) (i : Nat), (∀ j (hj : j < l.length), (classE p l[j]).2.2.2 = 0) → classesE p i l = ok4 := by
  intro l
  induction l with
  | nil => intro i _; rfl
  | cons x l ih =>
    intro i h0
    have h00 := h0 0 (by simp)
    simp only [List.getElem_cons_zero] at h00
    simp only [classesE, if_pos h00]
    exact ih _ fun j hj => by
      have := h0 (j + 1) (by simpa using hj)
      simp only [List.getElem_cons_succ] at this
      exact this

theorem classesE_zero (p : List En) : ∀ (l : List Cl) (i : Nat), (classesE p i l).2.2.2 = 0 → ∀ c ∈ l, (classE p c).2.2.2 = 0 := by
  intro l
  induction l with
  | nil => intro i _ c hc; cases hc
  | cons x l ih =>
    intro i h c hc
    simp only [classesE] at h
    split at h
    · rename_i h0
      rcases List.mem_cons.1 hc with rfl | hc
      · exact h0
      · exact ih _ h c hc
    · rename_i h0
      exact absurd h h0

theorem twiceE_at : ∀ (l a : List Cl) (k : Nat) (hk : k < l.length), (∀ j (hj : j < k), (a ++ l.take j).any (fun d => decide (d.name = (l[j]'(by omega)).name)) = false) → (a ++ l.take k).any (fun d => decide (d.name = l[k].name)) = true →
    twiceE a l = (((a.length + k : Nat) : Int), 0, 0, 20) := by
  intro l
  induction l with
  | nil => intro a k hk; simp at hk
  | cons x l ih =>
    intro a k hk h0 h1
    cases k with
    | zero =>
      simp only [List.take_zero, List.append_nil, List.getElem_cons_zero] at h1
      simp only [twiceE, if_pos h1, Nat.add_zero]
    | succ k =>
      have h00 := h0 0 (by omega)
      simp only [List.take_zero, List.append_nil, List.getElem_cons_zero] at h00
      simp only [List.take_succ_cons, List.getElem_cons_succ] at h1
      have e : ∀ t : List Cl, a ++ x :: t = (a ++ [x]) ++ t := by intro t; simp
      rw [e] at h1
      simp only [twiceE, h00]
      rw [if_neg (by simp)]
      rw [ih (a ++ [x]) k (by simpa using hk) (fun j hj => by
        have := h0 (j + 1) (by omega)
        simp only [List.take_succ_cons, List.getElem_cons_succ] at this
        rw [e] at this
        exact this) h1]
      simp only [List.length_append, List.length_singleton]
      congr 2
      omega

theorem twiceE_ok : ∀ (l a : List Cl), (∀ j (hj : j < l.length), (a ++ l.take j).any (fun d => decide (d.name = l[j].name)) = false) → twiceE a l = ok4 := by
  intro l
  induction l with
  | nil => intro a _; rfl
  | cons x l ih =>
    intro a h0
    have h00 := h0 0 (by simp)
    simp only [List.take_zero, List.append_nil, List.getElem_cons_zero] at h00
    simp only [twiceE, h00]
    rw [if_neg (by simp)]
    refine ih (a ++ [x]) fun j hj => ?_
    have := h0 (j + 1) (by simpa using hj)
    simp only [List.take_succ_cons, List.getElem_cons_succ] at this
    rw [show a ++ x :: l.take j = (a ++ [x]) ++ l.take j by simp] at this
    exact this

end Go.Proofs.YtildemmkhndhjaaGreatDoor
namespace Go.Proofs.YtildemmkhndhjaaGreatDoor

/-- The number that bytes say, the highest first. -/
def be (l : List UInt8) : Nat := l.foldl (fun n c => n * 256 + c.toNat) 0

theorem be_nil : be [] = 0 := rfl
theorem be_snoc (l : List UInt8) (c : UInt8) : be (l ++ [c]) = be l * 256 + c.toNat := by simp [be, List.foldl_append]
theorem be_lt (l : List UInt8) : be l < 256 ^ l.length := by
  suffices h : ∀ n l', List.length l' = n → be l' < 256 ^ n from h _ l rfl
  intro n
  induction n with
  | zero => intro l' hl; rw [List.eq_nil_of_length_eq_zero hl]; decide
  | succ n ih =>
    intro l' hl
    have hne : l' ≠ [] := by intro e; simp [e] at hl
    rw [← List.dropLast_concat_getLast hne, be_snoc, Nat.pow_succ]
    have h1 := ih l'.dropLast (by simp [hl])
    have h2 := (l'.getLast hne).toNat_lt
    omega

theorem be_take_succ (l : List UInt8) (k : Nat) (h : k < l.length) : be (l.take (k + 1)) = be (l.take k) * 256 + l[k].toNat := by
  rw [List.take_succ_eq_append_getElem h, be_snoc]

theorem ret_int {k : IntKind} {a b : Int} (h : a = b) : Ending.returned (.int k a) = .returned (.int k b) := by rw [h]

/-- A number moved by a byte, and a byte. -/
theorem or_shl8c (x c : Nat) (hx : x < 72057594037927936) (hc : c < 256) : bits .or .u64 (IntKind.u64.wrap ((x : Int) * 256)) (IntKind.u64.wrap (c : Int)) = ((x * 256 + c : Nat) : Int) := by
  have e1 : IntKind.u64.wrap ((x : Int) * 256) = ((x * 256 : Nat) : Int) := by rw [IntKind.wrap_u64]; omega
  have e2 : IntKind.u64.wrap (c : Int) = (c : Int) := by rw [IntKind.wrap_u64]; omega
  rw [e1, e2, u64_or_nat _ _ (by omega) (by omega), nat_join 8 _ _ (by omega) (by omega)]

/-- A number moved by two bytes, and two bytes. -/
theorem or_shl16 (x c : Nat) (hx : x < 281474976710656) (hc : c < 65536) : bits .or .u64 (IntKind.u64.wrap ((x : Int) * 65536)) (IntKind.u64.wrap (c : Int)) = ((x * 65536 + c : Nat) : Int) := by
  have e1 : IntKind.u64.wrap ((x : Int) * 65536) = ((x * 65536 : Nat) : Int) := by rw [IntKind.wrap_u64]; omega
  have e2 : IntKind.u64.wrap (c : Int) = (c : Int) := by rw [IntKind.wrap_u64]; omega
  rw [e1, e2, u64_or_nat _ _ (by omega) (by omega), nat_join 16 _ _ (by omega) (by omega)]

theorem or_bare16 (x c : Nat) (hx : x < 281474976710656) (hc : c < 65536) : bits .or .u64 ((x : Int) * 65536) (c : Int) = ((x * 65536 + c : Nat) : Int) := by
  have e1 : ((x : Int) * 65536) = ((x * 65536 : Nat) : Int) := by omega
  rw [e1, u64_or_nat _ _ (by omega) (by omega), nat_join 16 _ _ (by omega) (by omega)]

/-- What a reader's take does to its bytes that are left, how many were read, and its error: what it answers, and what is then. -/
def rTake (s : List UInt8 × Nat × Int) (m : Nat) : List UInt8 × (List UInt8 × Nat × Int) :=
  if s.2.2 = 0 then (if s.1.length < m then ([], s.1, s.2.1, 11) else (s.1.take m, s.1.drop m, s.2.1 + m, 0)) else ([], s)

theorem rTake_le (s : List UInt8 × Nat × Int) (m : Nat) : (rTake s m).1.length ≤ m := by
  unfold rTake
  split
  · split <;> simp; omega
  · simp

theorem be_lt8 (l : List UInt8) (k : Nat) (h : k < 8) : be (l.take k) < 72057594037927936 := by
  have h1 := be_lt (l.take k)
  have h2 : (l.take k).length ≤ 7 := by simp; omega
  have h3 : 256 ^ (l.take k).length ≤ 256 ^ 7 := Nat.pow_le_pow_right (by decide) h2
  have h4 : (256 : Nat) ^ 7 = 72057594037927936 := by decide
  omega

theorem be_lt_of (l : List UInt8) (k : Nat) (h : l.length ≤ k) : be l < 256 ^ k := Nat.lt_of_lt_of_le (be_lt l) (Nat.pow_le_pow_right (by decide) h)

end Go.Proofs.YtildemmkhndhjaaGreatDoor
namespace Go.Proofs.YtildemmkhndhjaaGreatDoor
open Go.RowKit

theorem bcs_len (l : List UInt8) : (bcs l).length = l.length := by simp [bcs]

/-- Where the bytes of a slice lie that is read: nowhere, if there are none; else in block d, one behind the other. -/
def BS (w : World) (ao : Option Addr) (bs : List UInt8) (d : Nat) : Prop :=
  bs = [] ∨ ∃ off, ao = some ⟨d, off, none⟩ ∧ ∀ j (h : j < bs.length), w.cell? ⟨d, off + j, none⟩ = some (.int .u8 (bs[j].toNat : Int))

theorem BS.nil (w : World) (ao : Option Addr) (d : Nat) : BS w ao [] d := .inl rfl

theorem BS.lt {w : World} {ao : Option Addr} {bs : List UInt8} {d : Nat} (h : BS w ao bs d) (hn : bs ≠ []) : d < w.heap.size := by
  rcases h with h | ⟨off, _, hc⟩
  · exact absurd h hn
  · have h0 : 0 < bs.length := List.length_pos_iff.2 hn
    exact World.block_lt_of_cell? w _ (hc 0 h0)

theorem BS.only {w w' : World} {S : List Nat} {ao : Option Addr} {bs : List UInt8} {d : Nat} (h : BS w ao bs d) (ho : Only S w w') (hn : bs ≠ [] → d ∉ S) : BS w' ao bs d := by
  rcases h with h | ⟨off, ha, hc⟩
  · exact .inl h
  · by_cases hb : bs = []
    · exact .inl hb
    have hd := hn hb
    exact .inr ⟨off, ha, fun j hj => by rw [ho.cell (World.block_lt_of_cell? w _ (hc j hj)) hd]; exact hc j hj⟩

theorem BS.take {w : World} {ao : Option Addr} {bs : List UInt8} {d : Nat} (h : BS w ao bs d) (n : Nat) : BS w ao (bs.take n) d := by
  rcases h with h | ⟨off, ha, hc⟩
  · exact .inl (by simp [h])
  · exact .inr ⟨off, ha, fun j hj => by rw [hc j (by simp at hj; omega)]; simp⟩

/-- The address of what is left when n elements are taken away at the left. -/
def cutAt (ao : Option Addr) (cap n : Nat) : Option Addr := if cap = n then ao else ao.map (·.add n)

theorem cutAt_none {ao : Option Addr} {cap n : Nat} (h : cutAt ao cap n = none) : ao = none := by
  unfold cutAt at h
  split at h
  · exact h
  · simpa using h

theorem BS.drop {w : World} {ao : Option Addr} {bs : List UInt8} {d : Nat} (h : BS w ao bs d) (n cap : Nat) (hc : bs.length ≤ cap) : BS w (cutAt ao cap n) (bs.drop n) d := by
  rcases h with h | ⟨off, ha, hcell⟩
  · exact .inl (by simp [h])
  · by_cases hn : n < bs.length
    · refine .inr ⟨off + n, ?_, fun j hj => ?_⟩
      · unfold cutAt
        rw [if_neg (by omega), ha]
        simp [Addr.add_lit]
      · have := hcell (n + j) (by simp at hj; omega)
        rw [show off + n + j = off + (n + j) by omega, this]
        simp
    · exact .inl (List.drop_eq_nil_of_le (by omega))

/-- A reader in block r: its bytes lie in block d; bs are left, 'at' were read, err is its first error. -/
structure Rd (w : World) (r d : Nat) (ao : Option Addr) (cap : Nat) (bs : List UInt8) (n : Nat) (err : Int) : Prop where
  c0 : w.cell? ⟨r, 0, none⟩ = some (.int .i64 (n : Int))
  c1 : w.cell? ⟨r, 1, none⟩ = some (.int .i64 err)
  c2 : w.cell? ⟨r, 2, none⟩ = some (.slice ao bs.length cap)
  f0 : w.frozen? ⟨r, 0, none⟩ = false
  f1 : w.frozen? ⟨r, 1, none⟩ = false
  f2 : w.frozen? ⟨r, 2, none⟩ = false
  data : BS w ao bs d
  capLe : bs.length ≤ cap
  capMax : cap ≤ 9223372036854775807
  capNone : ao = none → cap = 0
  fit : n + bs.length ≤ 9223372036854775807
  ne : bs ≠ [] → d ≠ r

theorem Rd.lt {w : World} {r d : Nat} {ao : Option Addr} {cap : Nat} {bs : List UInt8} {n : Nat} {err : Int} (h : Rd w r d ao cap bs n err) : r < w.heap.size := World.block_lt_of_cell? w _ h.c0

theorem Rd.only {w w' : World} {S : List Nat} {r d : Nat} {ao : Option Addr} {cap : Nat} {bs : List UInt8} {n : Nat} {err : Int} (h : Rd w r d ao cap bs n err) (ho : Only S w w') (hr : r ∉ S) (hd : d ∉ S) : Rd w' r d ao cap bs n err := by
  have hl := h.lt
  exact { c0 := (ho.cell (p := ⟨r, 0, none⟩) hl hr).trans h.c0, c1 := (ho.cell (p := ⟨r, 1, none⟩) hl hr).trans h.c1, c2 := (ho.cell (p := ⟨r, 2, none⟩) hl hr).trans h.c2,
          f0 := (ho.frozen (p := ⟨r, 0, none⟩) hl hr).trans h.f0, f1 := (ho.frozen (p := ⟨r, 1, none⟩) hl hr).trans h.f1, f2 := (ho.frozen (p := ⟨r, 2, none⟩) hl hr).trans h.f2,
          data := h.data.only ho (fun _ => hd), capLe := h.capLe, capMax := h.capMax, capNone := h.capNone, fit := h.fit, ne := h.ne }

/-- A reader in block r, whatever the address of its bytes: what is left, how many were read, its error. -/
def RdE (w : World) (r d : Nat) (s : List UInt8 × Nat × Int) : Prop := ∃ ao cap, Rd w r d ao cap s.1 s.2.1 s.2.2

theorem RdE.only {w w' : World} {S : List Nat} {r d : Nat} {s : List UInt8 × Nat × Int} (h : RdE w r d s) (ho : Only S w w') (hr : r ∉ S) (hd : d ∉ S) : RdE w' r d s := by
  obtain ⟨ao, cap, h⟩ := h
  exact ⟨ao, cap, h.only ho hr hd⟩

theorem RdE.lt {w : World} {r d : Nat} {s : List UInt8 × Nat × Int} (h : RdE w r d s) : r < w.heap.size := by
  obtain ⟨ao, cap, h⟩ := h
  exact h.lt

/-- What a reader is when m bytes were taken. -/
theorem Rd.taken {w : World} {r d : Nat} {ao : Option Addr} {cap : Nat} {bs : List UInt8} {n : Nat} {err : Int} (h : Rd w r d ao cap bs n err) (m : Nat) (hm : m ≤ bs.length) (w' : World)
    (hw : (w.setCell ⟨r, 2, none⟩ (.slice (cutAt ao cap m) (bs.length - m) (cap - m))).setCell ⟨r, 0, none⟩ (.int .i64 ((n + m : Nat) : Int)) = w') :
    BS w' ao (bs.take m) d ∧ Rd w' r d (cutAt ao cap m) (cap - m) (bs.drop m) (n + m) err ∧ Only [r] w w' := by
  have ho : Only [r] w w' := by
    rw [← hw]
    exact ((Only.refl [r] w).setCell (.inl (by simp)) _).setCell (.inl (by simp)) _
  have hdata := h.data.only ho (fun hb => by simpa using h.ne hb)
  refine ⟨hdata.take m, ?_, ho⟩
  have hf : ∀ a, w'.frozen? a = w.frozen? a := fun a => by rw [← hw, frozen_setCell, frozen_setCell]
  have k0 : (w.setCell ⟨r, 2, none⟩ (.slice (cutAt ao cap m) (bs.length - m) (cap - m))).cell? ⟨r, 0, none⟩ = some (.int .i64 (n : Int)) := by
    rw [cell_setCell_ne w _ (by simp)]; exact h.c0
  have hc := h.capLe
  have hx := h.capMax
  have hfit := h.fit
  exact { c0 := by rw [← hw]; exact cell_setCell_same _ _ k0,
          c1 := by rw [← hw, cell_setCell_ne _ _ (by simp), cell_setCell_ne _ _ (by simp)]; exact h.c1,
          c2 := by rw [← hw, cell_setCell_ne _ _ (by simp), List.length_drop]; exact cell_setCell_same _ _ h.c2,
          f0 := (hf _).trans h.f0, f1 := (hf _).trans h.f1, f2 := (hf _).trans h.f2,
          data := hdata.drop m cap hc,
          capLe := by rw [List.length_drop]; omega, capMax := by omega, capNone := fun e => by have := h.capNone (cutAt_none e); omega, fit := by rw [List.length_drop]; omega, ne := fun hb => h.ne (fun e => hb (by rw [e]; simp)) }

/-- What a reader is when its first error was set. -/
theorem Rd.failed {w : World} {r d : Nat} {ao : Option Addr} {cap : Nat} {bs : List UInt8} {n : Nat} {err : Int} (h : Rd w r d ao cap bs n err) (x : Int) (w' : World)
    (hw : w.setCell ⟨r, 1, none⟩ (.int .i64 x) = w') : Rd w' r d ao cap bs n x ∧ Only [r] w w' := by
  have ho : Only [r] w w' := by
    rw [← hw]
    exact (Only.refl [r] w).setCell (.inl (by simp)) _
  have hf : ∀ a, w'.frozen? a = w.frozen? a := fun a => by rw [← hw, frozen_setCell]
  refine ⟨{ c0 := by rw [← hw, cell_setCell_ne _ _ (by simp)]; exact h.c0,
            c1 := by rw [← hw]; exact cell_setCell_same _ _ h.c1,
            c2 := by rw [← hw, cell_setCell_ne _ _ (by simp)]; exact h.c2,
            f0 := (hf _).trans h.f0, f1 := (hf _).trans h.f1, f2 := (hf _).trans h.f2,
            data := h.data.only ho (fun hb => by simpa using h.ne hb), capLe := h.capLe, capMax := h.capMax, capNone := h.capNone, fit := h.fit, ne := h.ne }, ho⟩

end Go.Proofs.YtildemmkhndhjaaGreatDoor
namespace Go.Proofs.YtildemmkhndhjaaGreatDoor
open Go.RowKit

theorem fine_any (r : Nat) (x : Int) (w : World) (h1 : w.cell? ⟨r, 1, none⟩ = some (.int .i64 x)) :
    Calls Tryz.prog 63 #[.pointer (some ⟨r, 0, none⟩)] w fun e w' => e = .returned (.bool (x == 0)) ∧ w = w' := by
  go_enter Tryz.func63, Tryz.ntmps63
  go_wp2
  go_ret
  exact ⟨rfl, rfl⟩

theorem fail_new (r : Nat) (x : Int) (w : World) (h1 : w.cell? ⟨r, 1, none⟩ = some (.int .i64 0)) (f1 : w.frozen? ⟨r, 1, none⟩ = false) :
    Calls Tryz.prog 135 #[.pointer (some ⟨r, 0, none⟩), .int .i64 x] w fun e w' => e = .returned (.tuple #[]) ∧ w.setCell ⟨r, 1, none⟩ (.int .i64 x) = w' := by
  go_enter Tryz.func135, Tryz.ntmps135
  go_wp2_with (go_at_call 63; refine (fine_any r 0 _ (by assumption)).mono ?_; rintro e w' ⟨rfl, rfl⟩)
  go_end0
  exact ⟨rfl, rfl⟩

theorem fail_old (r : Nat) (x y : Int) (w : World) (hy : (y == 0) = false) (h1 : w.cell? ⟨r, 1, none⟩ = some (.int .i64 y)) :
    Calls Tryz.prog 135 #[.pointer (some ⟨r, 0, none⟩), .int .i64 x] w fun e w' => e = .returned (.tuple #[]) ∧ w = w' := by
  go_enter Tryz.func135, Tryz.ntmps135
  go_wp2_with (go_at_call 63; refine (fine_any r y _ (by assumption)).mono ?_; rintro e w' ⟨rfl, rfl⟩)
  go_end0
  exact ⟨rfl, rfl⟩

theorem move_any (r n m : Nat) (w : World) (h0 : w.cell? ⟨r, 0, none⟩ = some (.int .i64 (n : Int))) (f0 : w.frozen? ⟨r, 0, none⟩ = false) (hb : n + m ≤ 9223372036854775807) :
    Calls Tryz.prog 172 #[.pointer (some ⟨r, 0, none⟩), .int .i64 (m : Int)] w fun e w' => e = .returned (.tuple #[]) ∧ w.setCell ⟨r, 0, none⟩ (.int .i64 ((n + m : Nat) : Int)) = w' := by
  go_enter Tryz.func172, Tryz.ntmps172
  go_wp2
  go_end0
  exact ⟨rfl, by simp⟩

end Go.Proofs.YtildemmkhndhjaaGreatDoor
namespace Go.Proofs.YtildemmkhndhjaaGreatDoor
open Go.RowKit

theorem info5 : (Tryz.prog.info? 5).map (fun i => (i.zero, i.size, i.bytes)) = some (some (.int .u8 0), 1, 1) := by kernel_rfl

theorem slice_hi (ao : Option Addr) (len cap m : Nat) (hm : m ≤ cap) (w : World) :
    (Instr.slice 38 (.slice ao len cap) none (some (.int .i64 (m : Int))) none).run Tryz.prog w = .ok (.slice ao m cap) w := by
  obtain ⟨i0, hi, hz0, hz1, hz2⟩ := info_parts info5
  simp [Instr.slice, run_underlying Tryz.underlying38, Instr.sliceBounds, run_sliceBound, sizeOf, typeInfo, hi, hm]
  cases ao <;> simp [Addr.add]

theorem slice_lo (ao : Option Addr) (len cap m : Nat) (hm : m ≤ len) (w : World) :
    (Instr.slice 38 (.slice ao len cap) (some (.int .i64 (m : Int))) none none).run Tryz.prog w = .ok (.slice (cutAt ao cap m) (len - m) (cap - m)) w := by
  obtain ⟨i0, hi, hz0, hz1, hz2⟩ := info_parts info5
  simp [Instr.slice, run_underlying Tryz.underlying38, Instr.sliceBounds, run_sliceBound, sizeOf, typeInfo, hi, hz1, hm, cutAt]

set_option maxHeartbeats 400000 in
theorem take_ok {r d : Nat} {ao : Option Addr} {cap : Nat} {bs : List UInt8} {n : Nat} {w : World} (h : Rd w r d ao cap bs n 0) (m : Nat) (hm : m ≤ bs.length) :
    Calls Tryz.prog 136 #[.pointer (some ⟨r, 0, none⟩), .int .i64 (m : Int)] w fun e w' => e = .returned (.slice ao m cap) ∧ BS w' ao (bs.take m) d ∧ Rd w' r d (cutAt ao cap m) (cap - m) (bs.drop m) (n + m) 0 ∧ Only [r] w w' := by
  have H : Hid (Rd w r d ao cap bs n 0) := h
  obtain ⟨c0, c1, c2, f0, f1, f2, _, capLe, capMax, _, fit, _⟩ := h
  have k1 := slice_hi ao bs.length cap m (by omega)
  have k2 := slice_lo ao bs.length cap m hm
  have hgt : ¬ ((bs.length : Int) < (m : Int)) := by omega
  go_enter Tryz.func136, Tryz.ntmps136
  go_wp2_with (first | (go_at_call 63; refine (fine_any r 0 _ (by assumption)).mono ?_; rintro e w' ⟨rfl, rfl⟩) | (go_at_call 172; refine (move_any r n m _ (by go_simp) (by go_simp) (by omega)).mono ?_; rintro e w' ⟨rfl, hw⟩))
  go_ret
  exact ⟨rfl, H.out.taken m hm _ hw⟩

set_option maxHeartbeats 400000 in
theorem take_cut {r d : Nat} {ao : Option Addr} {cap : Nat} {bs : List UInt8} {n : Nat} {w : World} (h : Rd w r d ao cap bs n 0) (m : Nat) (hm : bs.length < m) :
    Calls Tryz.prog 136 #[.pointer (some ⟨r, 0, none⟩), .int .i64 (m : Int)] w fun e w' => e = .returned (.slice none 0 0) ∧ Rd w' r d ao cap bs n 11 ∧ Only [r] w w' := by
  have H : Hid (Rd w r d ao cap bs n 0) := h
  obtain ⟨c0, c1, c2, f0, f1, f2, _, capLe, capMax, _, fit, _⟩ := h
  have hgt : ((bs.length : Int) < (m : Int)) := by omega
  go_enter Tryz.func136, Tryz.ntmps136
  go_wp2_with (first | (go_at_call 135; refine (fail_new r 11 _ (by assumption) (by assumption)).mono ?_; rintro e w' ⟨rfl, hw⟩) | (go_at_call 63; refine (fine_any r 11 _ (by rw [← hw]; exact cell_setCell_same _ _ c1)).mono ?_; rintro e w' ⟨rfl, rfl⟩))
  go_ret
  exact ⟨rfl, H.out.failed 11 _ hw⟩

set_option maxHeartbeats 400000 in
theorem take_err {r d : Nat} {ao : Option Addr} {cap : Nat} {bs : List UInt8} {n : Nat} {err : Int} {w : World} (h : Rd w r d ao cap bs n err) (he : (err == 0) = false) (m : Int) :
    Calls Tryz.prog 136 #[.pointer (some ⟨r, 0, none⟩), .int .i64 m] w fun e w' => e = .returned (.slice none 0 0) ∧ w = w' := by
  obtain ⟨c0, c1, c2, f0, f1, f2, _, capLe, capMax, _, fit, _⟩ := h
  by_cases hgt : ((bs.length : Int) < (m : Int))
  all_goals
    go_enter Tryz.func136, Tryz.ntmps136
    go_wp2_with (first | (go_at_call 135; refine (fail_old r 11 err _ (by assumption) (by assumption)).mono ?_; rintro e w' ⟨rfl, rfl⟩) | (go_at_call 63; refine (fine_any r err _ (by assumption)).mono ?_; rintro e w' ⟨rfl, rfl⟩))
    go_ret
    exact ⟨rfl, rfl⟩

/-- Whatever the reader: take. -/
theorem take_any {r d : Nat} {s : List UInt8 × Nat × Int} {w : World} (h : RdE w r d s) (m : Nat) :
    Calls Tryz.prog 136 #[.pointer (some ⟨r, 0, none⟩), .int .i64 (m : Int)] w fun e w' => ∃ ao cap, e = .returned (.slice ao (rTake s m).1.length cap) ∧ BS w' ao (rTake s m).1 d ∧ (rTake s m).1.length ≤ cap ∧ cap ≤ 9223372036854775807 ∧ (ao = none → cap = 0) ∧ RdE w' r d (rTake s m).2 ∧ Only [r] w w' := by
  obtain ⟨ao, cap, h⟩ := h
  obtain ⟨bs, n, err⟩ := s
  simp only at h
  by_cases he : err = 0
  · subst he
    by_cases hm : bs.length < m
    · have e : rTake (bs, n, 0) m = ([], bs, n, 11) := by simp [rTake, hm]
      rw [e]
      refine (take_cut h m hm).mono ?_
      rintro e w' ⟨rfl, hr, ho⟩
      exact ⟨none, 0, rfl, BS.nil _ _ _, Nat.le_refl _, by decide, fun _ => rfl, ⟨ao, cap, hr⟩, ho⟩
    · have e : rTake (bs, n, 0) m = (bs.take m, bs.drop m, n + m, 0) := by simp [rTake, hm]
      rw [e]
      refine (take_ok h m (by omega)).mono ?_
      rintro e w' ⟨rfl, hb, hr, ho⟩
      have hl : (bs.take m).length = m := by simp; omega
      have hc := h.capLe
      exact ⟨ao, cap, by rw [hl], hb, by rw [hl]; omega, h.capMax, h.capNone, ⟨_, _, hr⟩, ho⟩
  · have e : rTake (bs, n, err) m = ([], bs, n, err) := by simp [rTake, he]
    rw [e]
    refine (take_err h (by simpa using he) _).mono ?_
    rintro e w' ⟨rfl, rfl⟩
    exact ⟨none, 0, rfl, BS.nil _ _ _, Nat.le_refl _, by decide, fun _ => rfl, ⟨ao, cap, h⟩, Only.refl _ _⟩

theorem take_at {r d : Nat} {s : List UInt8 × Nat × Int} {w : World} (h : RdE w r d s) (m : Nat) (mi : Int) (hmi : mi = (m : Int)) :
    Calls Tryz.prog 136 #[.pointer (some ⟨r, 0, none⟩), .int .i64 mi] w fun e w' => ∃ ao cap, e = .returned (.slice ao (rTake s m).1.length cap) ∧ BS w' ao (rTake s m).1 d ∧ (rTake s m).1.length ≤ cap ∧ cap ≤ 9223372036854775807 ∧ (ao = none → cap = 0) ∧ RdE w' r d (rTake s m).2 ∧ Only [r] w w' := by
  subst hmi
  exact take_any h m

theorem slice_lo_at (ao : Option Addr) (len cap m : Nat) (mi : Int) (hmi : mi = (m : Int)) (hm : m ≤ len) (w : World) :
    (Instr.slice 38 (.slice ao len cap) (some (.int .i64 mi)) none none).run Tryz.prog w = .ok (.slice (cutAt ao cap m) (len - m) (cap - m)) w := by
  subst hmi
  exact slice_lo ao len cap m hm w

end Go.Proofs.YtildemmkhndhjaaGreatDoor
namespace Go.Proofs.YtildemmkhndhjaaGreatDoor
open Go.RowKit

set_option maxHeartbeats 400000 in
theorem rnumber_any {r d : Nat} {s : List UInt8 × Nat × Int} {w : World} (h : RdE w r d s) (m : Nat) (h8 : m ≤ 8) (mi : Int) (hmi : mi = (m : Int)) :
    Calls Tryz.prog 137 #[.pointer (some ⟨r, 0, none⟩), .int .i64 mi] w fun e w' => e = .returned (.int .u64 (be (rTake s m).1 : Int)) ∧ RdE w' r d (rTake s m).2 ∧ Only [r] w w' := by
  subst hmi
  have hl := rTake_le s m
  have ht := take_any h m
  generalize (rTake s m).1 = L at *
  generalize (rTake s m).2 = s' at *
  have HT := hid ht
  clear ht
  go_enter Tryz.func137, Tryz.ntmps137
  go_wp2_with (go_at_call 136; refine HT.out.mono ?_; rintro e w' ⟨ao, cap, rfl, hbs, hcap, hcm, hcn, hrd, ho⟩)
  go_loop [5, 12] (fun x i => ∃ k : Nat, k ≤ L.length ∧ i = .int .i64 k ∧ x = .int .u64 (be (L.take k) : Int)) (fun _ i => L.length - (intOf i).toNat)
  case atStart => exact ⟨0, Nat.zero_le _, rfl, rfl⟩
  case round =>
    obtain ⟨k, hk, rfl, rfl⟩ := hrel
    by_cases hlt : k < L.length
    · rcases hbs with hbs | ⟨off, ha, hc⟩
      · exfalso
        rw [hbs] at hlt
        simp at hlt
      · have hck := hc k hlt
        subst ha
        clear hc
        go_wp2
        refine ⟨⟨k + 1, by omega, by go_num, ?_⟩, by simp [intOf]; omega⟩
        rw [be_take_succ L k hlt, or_shl8c _ _ (be_lt8 L k (by omega)) (L[k]).toNat_lt]
    · go_wp2
      go_ret
      exact ⟨ret_int (by rw [List.take_of_length_le (by omega)]), hrd, ho⟩

theorem at_any {r d : Nat} {s : List UInt8 × Nat × Int} {w : World} (h : RdE w r d s) :
    Calls Tryz.prog 83 #[.pointer (some ⟨r, 0, none⟩)] w fun e w' => e = .returned (.int .i64 (s.2.1 : Int)) ∧ w = w' := by
  obtain ⟨ao, cap, c0, c1, c2, f0, f1, f2, _, capLe, capMax, _, fit, _⟩ := h
  go_enter Tryz.func83, Tryz.ntmps83
  go_wp2
  go_ret
  exact ⟨rfl, rfl⟩

theorem err_any {r d : Nat} {s : List UInt8 × Nat × Int} {w : World} (h : RdE w r d s) :
    Calls Tryz.prog 85 #[.pointer (some ⟨r, 0, none⟩)] w fun e w' => e = .returned (.int .i64 s.2.2) ∧ w = w' := by
  obtain ⟨ao, cap, c0, c1, c2, f0, f1, f2, _, capLe, capMax, _, fit, _⟩ := h
  go_enter Tryz.func85, Tryz.ntmps85
  go_wp2
  go_ret
  exact ⟨rfl, rfl⟩

theorem left_any {r d : Nat} {s : List UInt8 × Nat × Int} {w : World} (h : RdE w r d s) :
    Calls Tryz.prog 82 #[.pointer (some ⟨r, 0, none⟩)] w fun e w' => e = .returned (.int .i64 (s.1.length : Int)) ∧ w = w' := by
  obtain ⟨ao, cap, c0, c1, c2, f0, f1, f2, _, capLe, capMax, _, fit, _⟩ := h
  go_enter Tryz.func82, Tryz.ntmps82
  go_wp2
  go_ret
  exact ⟨rfl, rfl⟩

theorem u1_any {r d : Nat} {s : List UInt8 × Nat × Int} {w : World} (h : RdE w r d s) :
    Calls Tryz.prog 80 #[.pointer (some ⟨r, 0, none⟩)] w fun e w' => e = .returned (.int .i64 (be (rTake s 1).1 : Int)) ∧ RdE w' r d (rTake s 1).2 ∧ Only [r] w w' := by
  have hb : be (rTake s 1).1 < 256 ^ 1 := be_lt_of _ 1 (rTake_le s 1)
  have ht := rnumber_any h 1 (by decide) 1 rfl
  generalize be (rTake s 1).1 = L at *
  generalize (rTake s 1).2 = s' at *
  have HT := hid ht
  clear ht
  go_enter Tryz.func80, Tryz.ntmps80
  go_wp2_with (go_at_call 137; refine HT.out.mono ?_; rintro e w' ⟨rfl, hrd, ho⟩)
  go_ret
  exact ⟨rfl, hrd, ho⟩

theorem u2_any {r d : Nat} {s : List UInt8 × Nat × Int} {w : World} (h : RdE w r d s) :
    Calls Tryz.prog 77 #[.pointer (some ⟨r, 0, none⟩)] w fun e w' => e = .returned (.int .i64 (be (rTake s 2).1 : Int)) ∧ RdE w' r d (rTake s 2).2 ∧ Only [r] w w' := by
  have hb : be (rTake s 2).1 < 256 ^ 2 := be_lt_of _ 2 (rTake_le s 2)
  have ht := rnumber_any h 2 (by decide) 2 rfl
  generalize be (rTake s 2).1 = L at *
  generalize (rTake s 2).2 = s' at *
  have HT := hid ht
  clear ht
  go_enter Tryz.func77, Tryz.ntmps77
  go_wp2_with (go_at_call 137; refine HT.out.mono ?_; rintro e w' ⟨rfl, hrd, ho⟩)
  go_ret
  exact ⟨rfl, hrd, ho⟩

theorem n8_any {r d : Nat} {s : List UInt8 × Nat × Int} {w : World} (h : RdE w r d s) :
    Calls Tryz.prog 139 #[.pointer (some ⟨r, 0, none⟩)] w fun e w' => e = .returned (.int .i64 (wrap64 (be (rTake s 8).1 : Int))) ∧ RdE w' r d (rTake s 8).2 ∧ Only [r] w w' := by
  have ht := rnumber_any h 8 (by decide) 8 rfl
  generalize be (rTake s 8).1 = L at *
  generalize (rTake s 8).2 = s' at *
  have HT := hid ht
  clear ht
  go_enter Tryz.func139, Tryz.ntmps139
  go_wp2_with (go_at_call 137; refine HT.out.mono ?_; rintro e w' ⟨rfl, hrd, ho⟩)
  go_ret
  exact ⟨rfl, hrd, ho⟩

end Go.Proofs.YtildemmkhndhjaaGreatDoor
namespace Go.Proofs.YtildemmkhndhjaaGreatDoor
open Go.RowKit

theorem BS.cells {w : World} {a : Addr} {bs : List UInt8} {d : Nat} (h : BS w (some a) bs d) : ∀ j u, (bcs bs)[j]? = some u → w.cell? (a.add j) = some u := by
  intro j u hu
  have hj : j < bs.length := by
    have := (List.getElem?_eq_some_iff.1 hu).1
    simpa [bcs] using this
  rcases h with h | ⟨off, ha, hc⟩
  · rw [h] at hj; simp at hj
  · cases ha
    rw [Addr.add_lit, hc j hj]
    simp [bcs, hj] at hu
    rw [hu]

theorem BS.none_nil {w : World} {bs : List UInt8} {d : Nat} (h : BS w none bs d) : bs = [] := by
  rcases h with h | ⟨off, ha, _⟩
  · exact h
  · cases ha

theorem ownb_slice {w : World} {B : Nat} {e : TypeId} {size n : Nat} {v : Value} {xs : List Value} (h : w.ownsRow B e size v n xs) : ∃ ao cap, v = .slice ao n cap := by
  rcases h.2 with ⟨rfl, rfl⟩ | ⟨g, cap, _, rfl, _⟩
  · exact ⟨_, _, rfl⟩
  · exact ⟨_, _, rfl⟩

theorem ownb_mono {w : World} {B C : Nat} {e : TypeId} {size n : Nat} {v : Value} {xs : List Value} (h : w.ownsRow B e size v n xs) (hC : C ≤ B) : w.ownsRow C e size v n xs := by
  refine ⟨h.1, ?_⟩
  rcases h.2 with q | ⟨g, cap, cur, q1, q2, q3⟩
  · exact .inl q
  · exact .inr ⟨g, cap, cur, q1, by omega, q3⟩

/-- How much room an append asks for that grows. -/
theorem grow_leC (need : Nat) : ∀ (k old : Nat), old ≤ need + need / 4 + 192 → Builtin.growBy need k old ≤ need + need / 4 + 192 := by
  intro k
  induction k with
  | zero =>
    intro old h
    exact h
  | succ k ih =>
    intro old h
    simp only [Builtin.growBy]
    split
    · exact h
    · exact ih _ (by omega)

theorem cap_fitsC {need old : Nat} (h : old < need) (hn : need ≤ 211106232532992) : Builtin.nextslicecap need old * 1 ≤ 281474976710656 := by
  have := grow_leC need 4 old (by omega)
  unfold Builtin.nextslicecap
  split
  · omega
  · split
    · omega
    · omega

/-- A new row that an append has made. -/
theorem own_freshC (w : World) (xs : List Value) (n cap : Nat) (hx : xs.length = n) (hc : n ≤ cap) (hm : cap ≤ maxLen) :
    (w.drew.alloc (.cells (xs.toArray ++ Builtin.zeroCells (Value.int .u8 0).cells (cap - n)) 5)).ownsRow w.heap.size 5 1 (.slice (some ⟨w.heap.size, 0, none⟩) n cap) n xs ∧
    w.grownBy (w.drew.alloc (.cells (xs.toArray ++ Builtin.zeroCells (Value.int .u8 0).cells (cap - n)) 5)) none := by
  refine ⟨⟨by omega, .inr ⟨w.heap.size, cap, _, rfl, Nat.le_refl _, Go.heap_alloc_new w.drew _, hc, hm, ?_, ?_⟩⟩, ⟨rfl, rfl, rfl, by simp, fun k hk _ => Below.heap_alloc w.drew _ k hk⟩⟩
  · rw [Array.size_append, size_zeroCells]
    have : (Value.int .u8 0).cells.size = 1 := rfl
    rw [this]
    simp
    omega
  · simp only [Array.toList_append]
    rw [Nat.mul_one, ← hx]
    exact List.take_left

/-- append(out, l...), out the call's own. -/
theorem append_runC {w : World} {B : Nat} {ao lao : Option Addr} {n cap lcap d : Nat} {xs : List Value} {ls : List UInt8} (ty : TypeId) (hown : w.ownsRow B 5 1 (.slice ao n cap) n xs) (hb : BS w lao ls d) (hl : lao = none → lcap = 0)
    (hsz : n + ls.length ≤ 211106232532992) (hB : B ≤ w.heap.size) :
    ∃ ao' cap' w', (Builtin.append_ #[38, 38] ty #[.slice ao n cap, .slice lao ls.length lcap]).run Tryz.prog w = .ok (.slice ao' (n + ls.length) cap') w' ∧ w'.ownsRow B 5 1 (.slice ao' (n + ls.length) cap') (n + ls.length) (xs ++ bcs ls) ∧
      w.grownBy w' (Value.ownBlock (.slice ao n cap)) ∧ (∀ a, ao' = some a → (∃ a', ao = some a' ∧ a'.block = a.block) ∨ w.heap.size ≤ a.block) ∧ (ao' = none → ao = none) := by
  obtain ⟨i0, hi, hz0, hz1, hz2⟩ := info_parts info5
  have hmax : n + ls.length ≤ maxLen := by unfold maxLen; omega
  cases lao with
  | none =>
    have := hb.none_nil
    subst this
    have := hl rfl
    subst this
    refine ⟨ao, cap, w, ?_, by simpa [bcs] using hown, ⟨rfl, rfl, rfl, Nat.le_refl _, fun _ _ _ => rfl⟩, fun a ha => .inl ⟨a, ha, rfl⟩, fun h => h⟩
    exact run_append_owned_none (P := Tryz.prog) (w := w) B 38 ty 5 i0 1 Tryz.underlying38 hi _ n xs hown
  | some a =>
    have hlen : (bcs ls).length = ls.length * 1 := by rw [bcs_len]; omega
    rcases hown.2 with ⟨hv, h0⟩ | ⟨g, cap', cur, hv, hbg, hg, hnc, hcm, hcs, htake⟩
    · simp at hv
      obtain ⟨rfl, hn, rfl⟩ := hv
      subst hn
      have hx : xs = [] := List.eq_nil_of_length_eq_zero (by simpa using hown.1)
      by_cases hm : ls.length = 0
      · obtain ⟨v', w', hr, ho, hgr, hiff⟩ := run_append_own (P := Tryz.prog) w B 38 ty 5 i0 (.int .u8 0) 1 1 Tryz.underlying38 hi hz0 hz1 hz2 rfl (by decide) _ _ _ hown a ls.length lcap (bcs ls) hlen hb.cells (bcs_one ls) hmax (by omega) hB
        have := hiff.2 ⟨rfl, hm⟩
        subst this
        have e2 : 0 + ls.length = 0 := by omega
        refine ⟨none, 0, w', ?_, ?_, hgr, ?_, fun _ => rfl⟩
        · rw [e2]; exact hr
        · rw [e2] at ho ⊢; exact ho
        · intro a ha
          cases ha
      · have hr := run_append_nil (P := Tryz.prog) w 38 ty 5 i0 (.int .u8 0) Tryz.underlying38 hi hz0 a ls.length lcap (bcs ls) (by rw [hz1]; exact hlen) hb.cells (by omega) (by omega) (by rw [hz2]; omega)
        obtain ⟨q1, q2⟩ := own_freshC w (bcs ls) ls.length (grownCap w ls.length 0 5) (bcs_len ls) (grownCap_ge _ _ _ _) (grownCap_le_maxLen _ _ _ _ (by omega))
        rw [Nat.zero_add, hx, List.nil_append]
        exact ⟨_, _, _, hr, ownb_mono q1 hB, ⟨q2.os, q2.tape, q2.output, q2.size, fun k hk _ => q2.block k hk (by simp)⟩, fun b hb' => .inr (by simp at hb'; rw [← hb']; exact Nat.le_refl _), fun h => by cases h⟩
    · simp at hv
      obtain ⟨rfl, rfl⟩ := hv
      by_cases hroom : n + ls.length ≤ cap
      · obtain ⟨w', hr, ho, hgr⟩ := run_append_fits (P := Tryz.prog) w B 38 ty 5 i0 1 Tryz.underlying38 hi hz1 g n cap xs hown a ls.length lcap (bcs ls) hlen hb.cells (bcs_one ls) hroom
        exact ⟨some ⟨g, 0, none⟩, cap, w', hr, ho, hgr, fun a ha => .inl ⟨_, rfl, by simp at ha; rw [← ha]⟩, fun h => by cases h⟩
      · have hr := run_append_grow (P := Tryz.prog) w 38 ty 5 i0 (.int .u8 0) Tryz.underlying38 hi hz0 ⟨g, 0, none⟩ n cap xs (by rw [hz1]; exact hown.1) (hown.cells (g := g) rfl) a ls.length lcap (bcs ls) (by rw [hz1]; exact hlen) hb.cells (by omega) (by omega) (by rw [hz2]; exact cap_fitsC (by omega) hsz)
        have hxl : xs.length = n := by have := hown.1; omega
        obtain ⟨q1, q2⟩ := own_freshC w (xs ++ bcs ls) (n + ls.length) (grownCap w (n + ls.length) cap 5) (by rw [List.length_append, bcs_len, hxl]) (grownCap_ge _ _ _ _) (grownCap_le_maxLen _ _ _ _ hmax)
        have e : (xs ++ bcs ls).toArray = xs.toArray ++ (bcs ls).toArray := by simp
        rw [e] at q1 q2
        exact ⟨_, _, _, hr, ownb_mono q1 hB, ⟨q2.os, q2.tape, q2.output, q2.size, fun k hk _ => q2.block k hk (by simp)⟩, fun b hb' => .inr (by simp at hb'; rw [← hb']; exact Nat.le_refl _), fun h => by cases h⟩

/-- The same, for the walk. -/
theorem wpList_append_bytes {w : World} {ops : Array Oper} {rest : List Oper} {o : Oper} {a : Act} {Q : Exit → Act → World → Prop} (hgd : o.guard = none) (s x : Operand)
    (ho : o.op = .call { callee := .builtin .append, args := #[s, x], argTypes := #[38, 38] })
    {B : Nat} {ao lao : Option Addr} {n cap lcap d : Nat} {xs : List Value} {ls : List UInt8} (hs : a.eval s = .slice ao n cap) (hx : a.eval x = .slice lao ls.length lcap) (hown : w.ownsRow B 5 1 (.slice ao n cap) n xs) (hb : BS w lao ls d) (hl : lao = none → lcap = 0)
    (hsz : n + ls.length ≤ 211106232532992) (hB : B ≤ w.heap.size)
    (h : ∀ ao' cap' w', w'.ownsRow B 5 1 (.slice ao' (n + ls.length) cap') (n + ls.length) (xs ++ bcs ls) → w.grownBy w' (Value.ownBlock (.slice ao n cap)) → (∀ a, ao' = some a → (∃ a', ao = some a' ∧ a'.block = a.block) ∨ w.heap.size ≤ a.block) → (ao' = none → ao = none) →
      wpList Tryz.prog ops Q rest (a.put o.dst (.slice ao' (n + ls.length) cap')) w') : wpList Tryz.prog ops Q (o :: rest) a w := by
  refine wpList_plain hgd fun K hK => ?_
  obtain ⟨ao', cap', w', hr, h1, h2, h3, h4⟩ := append_runC o.type hown hb hl hsz hB
  unfold Oper.wp execOp
  simp only [ho, resolve, invoke, builtin, Sem.run_bind, Sem.run_pure, Result.andThen_ok, List.map_toArray, List.map_cons, List.map_nil, hs, hx, hr]
  exact hK _ _ (h ao' cap' w' h1 h2 h3 h4)

end Go.Proofs.YtildemmkhndhjaaGreatDoor
namespace Go.Proofs.YtildemmkhndhjaaGreatDoor
open Go.RowKit

/-- What the call owns is a slice of bytes that is read. -/
theorem BS.of_owns {w : World} {B : Nat} {ao : Option Addr} {cap : Nat} {bs : List UInt8} (h : w.ownsRow B 5 1 (.slice ao bs.length cap) bs.length (bcs bs)) :
    BS w ao bs ((ao.map (·.block)).getD 0) ∧ bs.length ≤ cap ∧ cap ≤ maxLen ∧ (ao = none → cap = 0) ∧ (∀ a, ao = some a → B ≤ a.block ∧ a.block < w.heap.size ∧ a = ⟨a.block, 0, none⟩) := by
  have hl := h.lt
  rcases h.2 with ⟨hv, h0⟩ | ⟨g, cap', cur, hv, hb, hg, hn, hm, hs, ht⟩
  · have : bs = [] := List.eq_nil_of_length_eq_zero h0
    subst this
    simp at hv
    obtain ⟨rfl, rfl⟩ := hv
    exact ⟨BS.nil _ _ _, Nat.le_refl _, by decide, fun _ => rfl, fun a ha => by cases ha⟩
  · simp at hv
    obtain ⟨rfl, rfl⟩ := hv
    refine ⟨.inr ⟨0, rfl, fun j hj => ?_⟩, hn, hm, (fun e => by cases e), fun a ha => ?_⟩
    · have := h.cellAt j (by omega)
      rw [show (0 + j) = j by omega]
      simp [bcs, hj] at this
      simpa using this
    · simp at ha
      subst ha
      exact ⟨hb, (Array.getElem?_eq_some_iff.1 hg).1, rfl⟩

theorem eql_nil (ao : Option Addr) (n c : Nat) (w : World) : (binOp .eql 38 (.slice ao n c) (.slice none 0 0)).run Tryz.prog w = .ok (.bool ao.isNone) w := Lib.run_eql_slice_nil w 38 5 ao n c 0 0 Tryz.underlying38

set_option maxHeartbeats 400000 in
theorem clone_any {w : World} {ao : Option Addr} {bs : List UInt8} {cap d : Nat} (hb : BS w ao bs d) (hn : ao = none → cap = 0) (hsz : bs.length ≤ 211106232532992) :
    Calls Tryz.prog 64 #[.slice ao bs.length cap] w fun e w' => ∃ ao' cap', e = .returned (.slice ao' bs.length cap') ∧ w'.ownsRow w.heap.size 5 1 (.slice ao' bs.length cap') bs.length (bcs bs) ∧ Only [] w w' := by
  cases ao with
  | none =>
    have := hb.none_nil
    subst this
    have := hn rfl
    subst this
    have k0 := eql_nil none 0 0
    go_enter Tryz.func64, Tryz.ntmps64
    go_wp2
    go_ret
    exact ⟨none, 0, rfl, World.ownsRow_nil _ _ _ _, Only.refl _ _⟩
  | some a =>
    have k0 := eql_nil (some a) bs.length cap
    go_enter Tryz.func64, Tryz.ntmps64
    go_wp2_with (at_builtin; refine wpList_append_bytes rfl (.tmp 5) (.tmp 6) rfl rfl rfl (World.ownsRow_made w #[] 0 (Nat.le_refl _) (by decide) rfl) (hb.only ((Only.refl [] w).alloc _) (by simp)) (by simp) (by omega) (by simp) ?_)
    intro ao' cap' w' hown hgrow _ _
    go_wp2
    go_ret
    exact ⟨ao', cap', rfl, hown, ((Only.refl [] w).alloc _).trans (Only.of_grown hgrow) (by simp [Value.ownBlock])⟩

theorem ownb_only {w w' : World} {B : Nat} {S : List Nat} {e : TypeId} {size n : Nat} {v : Value} {xs : List Value} (h : w.ownsRow B e size v n xs) (ho : Only S w w') (hn : ∀ k, v.ownBlock = some k → k ∉ S) : w'.ownsRow B e size v n xs := by
  refine ⟨h.1, ?_⟩
  rcases h.2 with q | ⟨g, cap, cur, q1, q2, q3, q4⟩
  · exact .inl q
  · subst q1
    exact .inr ⟨g, cap, cur, rfl, q2, by rw [ho.block g (Array.getElem?_eq_some_iff.1 q3).1 (hn g rfl)]; exact q3, q4⟩

/-- The block of a slice's bytes; r, if it has none. -/
def dataOf (ao : Option Addr) (r : Nat) : Nat := match ao with | none => r | some a => a.block

theorem dataOf_le {w : World} {B C r : Nat} {ao : Option Addr} {cap n : Nat} {xs : List Value} (h : w.ownsRow B 5 1 (.slice ao n cap) n xs) (hC : C ≤ B) (hr : C ≤ r) : C ≤ dataOf ao r := by
  unfold dataOf
  split
  · exact hr
  · rename_i a
    have := (h.lt a.block rfl).1
    omega

theorem dataOf_lt {w : World} {B : Nat} {ao : Option Addr} {cap n : Nat} {xs : List Value} (h : w.ownsRow B 5 1 (.slice ao n cap) n xs) (o : Obj) : dataOf ao w.heap.size < (w.alloc o).heap.size := by
  unfold dataOf
  split
  · simp
  · rename_i a
    have := (h.lt a.block rfl).2
    simp
    omega

theorem rd_new {w : World} {B : Nat} {ao : Option Addr} {cap : Nat} {bs : List UInt8} (h : w.ownsRow B 5 1 (.slice ao bs.length cap) bs.length (bcs bs)) (hl : bs.length ≤ 9223372036854775807) :
    RdE (w.alloc (.cells #[.int .i64 0, .int .i64 0, .slice ao bs.length cap] 140)) w.heap.size (dataOf ao w.heap.size) (bs, 0, 0) := by
  obtain ⟨hb, hc, hm, hn, ha⟩ := BS.of_owns h
  refine ⟨ao, cap, { c0 := ?_, c1 := ?_, c2 := ?_, f0 := frozen_new _ _ _ _, f1 := frozen_new _ _ _ _, f2 := frozen_new _ _ _ _, data := ?_, capLe := hc, capMax := hm, capNone := hn, fit := by simpa using hl, ne := ?_ }⟩
  · rw [cell_new]; rfl
  · rw [cell_new]; rfl
  · rw [cell_new]; rfl
  · cases ao with
    | none => exact .inl hb.none_nil
    | some a =>
      have hb' := hb.only ((Only.refl [] w).alloc (.cells #[.int .i64 0, .int .i64 0, .slice (some a) bs.length cap] 140)) (by simp)
      exact hb'
  · intro hne
    cases ao with
    | none => exact absurd hb.none_nil hne
    | some a =>
      have := (ha a rfl).2.1
      simp [dataOf]
      omega

set_option maxHeartbeats 400000 in
theorem newReader_any {w : World} {ao : Option Addr} {bs : List UInt8} {cap d : Nat} (hb : BS w ao bs d) (hn : ao = none → cap = 0) (hsz : bs.length ≤ 211106232532992) :
    Calls Tryz.prog 31 #[.slice ao bs.length cap] w fun e w' => ∃ r d', e = .returned (.pointer (some ⟨r, 0, none⟩)) ∧ RdE w' r d' (bs, 0, 0) ∧ Only [] w w' ∧ w.heap.size ≤ r ∧ w.heap.size ≤ d' ∧ d' < w'.heap.size := by
  go_enter Tryz.func31, Tryz.ntmps31
  go_wp2_with (go_at_call 64; refine (clone_any hb hn hsz).mono ?_; rintro e w' ⟨ao', cap', rfl, hown, ho⟩)
  go_ret
  refine ⟨w'.heap.size, dataOf ao' w'.heap.size, rfl, rd_new hown (by omega), ho.alloc _, ho.size, ?_, ?_⟩
  · exact (dataOf_le hown (by omega) ho.size)
  · exact dataOf_lt hown _ 

end Go.Proofs.YtildemmkhndhjaaGreatDoor
namespace Go.Proofs.YtildemmkhndhjaaGreatDoor
open Go.RowKit

/-- What Bytes(n) does to a reader. -/
def rBytes (s : List UInt8 × Nat × Int) (n : Int) : List UInt8 × (List UInt8 × Nat × Int) :=
  if n < 0 then ([], s.1, s.2.1, if s.2.2 = 0 then 1 else s.2.2) else rTake s n.toNat

theorem rTake_fst_le (s : List UInt8 × Nat × Int) (m : Nat) : (rTake s m).1.length ≤ s.1.length := by
  unfold rTake
  split
  · split <;> simp; omega
  · simp

set_option maxHeartbeats 400000 in
theorem bytes_any {r d : Nat} {s : List UInt8 × Nat × Int} {w : World} (h : RdE w r d s) (n : Int) (hsz : s.1.length ≤ 211106232532992) :
    Calls Tryz.prog 74 #[.pointer (some ⟨r, 0, none⟩), .int .i64 n] w fun e w' => ∃ ao cap, e = .returned (.slice ao (rBytes s n).1.length cap) ∧ w'.ownsRow w.heap.size 5 1 (.slice ao (rBytes s n).1.length cap) (rBytes s n).1.length (bcs (rBytes s n).1) ∧ RdE w' r d (rBytes s n).2 ∧ Only [r] w w' := by
  by_cases hn : n < 0
  · have e : rBytes s n = ([], s.1, s.2.1, if s.2.2 = 0 then 1 else s.2.2) := by simp [rBytes, hn]
    rw [e]
    obtain ⟨ao, cap, h⟩ := h
    have H := hid h
    obtain ⟨c0, c1, c2, f0, f1, f2, _, capLe, capMax, _, fit, _⟩ := h
    by_cases he : s.2.2 = 0
    · rw [if_pos he]
      rw [he] at c1
      clear he
      go_enter Tryz.func74, Tryz.ntmps74
      go_wp2_with (go_at_call 135; refine (fail_new r 1 _ (by assumption) (by assumption)).mono ?_; rintro e w' ⟨rfl, hw⟩)
      go_ret
      obtain ⟨q1, q2⟩ := H.out.failed 1 _ hw
      exact ⟨none, 0, rfl, World.ownsRow_nil _ _ _ _, ⟨ao, cap, q1⟩, q2⟩
    · rw [if_neg he]
      have he' : (s.2.2 == 0) = false := by simpa using he
      clear he
      go_enter Tryz.func74, Tryz.ntmps74
      go_wp2_with (go_at_call 135; refine (fail_old r 1 s.2.2 _ (by assumption) (by assumption)).mono ?_; rintro e w' ⟨rfl, rfl⟩)
      go_ret
      exact ⟨none, 0, rfl, World.ownsRow_nil _ _ _ _, ⟨ao, cap, H.out⟩, Only.refl _ _⟩
  · obtain ⟨m, rfl⟩ := Int.eq_ofNat_of_zero_le (by omega : 0 ≤ n)
    have e : rBytes s (m : Int) = rTake s m := by simp [rBytes, hn]
    rw [e]
    have hl := rTake_fst_le s m
    have ht := take_any h m
    generalize (rTake s m).1 = L at *
    generalize (rTake s m).2 = s' at *
    clear e
    have HT := hid ht
    clear ht
    go_enter Tryz.func74, Tryz.ntmps74
    go_wp2_with (first | (go_at_call 136; refine HT.out.mono ?_; rintro e w' ⟨ao, cap, rfl, hbs, hcap, hcm, hcn, hrd, ho⟩) | (go_at_call 64; refine (clone_any hbs hcn (by omega)).mono ?_; rintro e w'' ⟨ao', cap', rfl, hown, ho'⟩))
    go_ret
    exact ⟨ao', cap', rfl, ownb_mono hown ho.size, hrd.only ho' (by simp) (by simp), ho.trans ho' (by simp)⟩

end Go.Proofs.YtildemmkhndhjaaGreatDoor
namespace Go.Proofs.YtildemmkhndhjaaGreatDoor
open Go.RowKit

theorem conv_str {w : World} {ao : Option Addr} {bs : List UInt8} {d : Nat} (h : BS w ao bs d) (cap : Nat) :
    (convert 38 9 (.slice ao bs.length cap)).run Tryz.prog w = .ok (.string (str bs)) w := by
  rcases h with rfl | ⟨off, rfl, hc⟩
  · rw [run_convert_bytes_string w 38 9 5 _ _ cap Tryz.underlying38 Tryz.underlying5 Tryz.underlying9]
    cases ao <;> simp [Conv.bytesToString, loadCells] <;> rfl
  · exact run_convert_bytes_back w 38 9 5 ⟨d, off, none⟩ cap bs Tryz.underlying38 Tryz.underlying5 Tryz.underlying9 (fun j hj => by rw [Addr.add_lit]; exact hc j hj)

theorem conv_cut {w : World} {ao : Option Addr} {cap : Nat} {bs : List UInt8} {d : Nat} (h : BS w ao bs d) (hc : bs.length ≤ cap) (n : Nat) :
    (convert 38 9 (.slice (cutAt ao cap n) (bs.length - n) (cap - n))).run Tryz.prog w = .ok (.string (str (bs.drop n))) w := by
  have := conv_str (h.drop n cap hc) (cap - n)
  rwa [List.length_drop] at this

/-- What Text() does to a reader. -/
def textLen (l : List UInt8) : Nat := match l with | [] => 1 | b :: _ => 1 + b.toNat
def rText (s : List UInt8 × Nat × Int) : List UInt8 × (List UInt8 × Nat × Int) := ((rTake s (textLen s.1)).1.tail, (rTake s (textLen s.1)).2)

set_option maxHeartbeats 800000 in
theorem text_any {r d : Nat} {s : List UInt8 × Nat × Int} {w : World} (h : RdE w r d s) :
    Calls Tryz.prog 138 #[.pointer (some ⟨r, 0, none⟩)] w fun e w' => e = .returned (.string (str (rText s).1)) ∧ RdE w' r d (rText s).2 ∧ Only [r] w w' := by
  have ht := take_at h (textLen s.1)
  unfold rText
  obtain ⟨ao, cap, h⟩ := h
  obtain ⟨c0, c1, c2, f0, f1, f2, data, capLe, capMax, _, fit, _⟩ := h
  have hm : (s.1 = [] ∧ textLen s.1 = 1) ∨ ∃ b l, s.1 = b :: l ∧ textLen s.1 = 1 + b.toNat := by
    cases hs : s.1 with
    | nil => exact .inl ⟨rfl, rfl⟩
    | cons b l => exact .inr ⟨b, l, rfl, rfl⟩
  generalize (rTake s (textLen s.1)).1 = L at *
  generalize (rTake s (textLen s.1)).2 = s' at *
  generalize textLen s.1 = m at *
  generalize s.1 = bs at *
  have HT := hid ht
  clear ht
  by_cases hL : L.length = 0
  · have hL' : ((L.length : Int) == 0) = true := by simp [hL]
    have hnil : L = [] := List.eq_nil_of_length_eq_zero hL
    subst hnil
    clear hL hL'
    rcases hm with ⟨rfl, rfl⟩ | ⟨b, l, rfl, rfl⟩
    · go_enter Tryz.func138, Tryz.ntmps138
      go_wp2_with (go_at_call 136; refine (HT.out _ (by simp)).mono ?_; rintro e w' ⟨ao', cap', rfl, hbs, hcap, hcm, hcn, hrd, ho⟩)
      go_ret
      exact ⟨rfl, hrd, ho⟩
    · rcases data with data | ⟨off, rfl, hc⟩
      · cases data
      have hc0 := hc 0 (by simp)
      simp only [Nat.add_zero, List.getElem_cons_zero] at hc0
      clear hc
      have hb := b.toNat_lt
      go_enter Tryz.func138, Tryz.ntmps138
      go_wp2_with (go_at_call 136; refine (HT.out _ (by simp)).mono ?_; rintro e w' ⟨ao', cap', rfl, hbs, hcap, hcm, hcn, hrd, ho⟩)
      go_ret
      exact ⟨rfl, hrd, ho⟩
  · have hL' : ((L.length : Int) == 0) = false := by simpa using hL
    rcases hm with ⟨rfl, rfl⟩ | ⟨b, l, rfl, rfl⟩
    · go_enter Tryz.func138, Tryz.ntmps138
      go_wp2_with (first | (go_at_call 136; refine (HT.out _ (by simp)).mono ?_; rintro e w' ⟨ao', cap', rfl, hbs, hcap, hcm, hcn, hrd, ho⟩; have k2 := slice_lo_at ao' L.length cap' 1 1 rfl (by omega); have k3 := conv_cut hbs hcap 1))
      go_ret
      exact ⟨rfl, hrd, ho⟩
    · rcases data with data | ⟨off, rfl, hc⟩
      · cases data
      have hc0 := hc 0 (by simp)
      simp only [Nat.add_zero, List.getElem_cons_zero] at hc0
      clear hc
      have hb := b.toNat_lt
      go_enter Tryz.func138, Tryz.ntmps138
      go_wp2_with (first | (go_at_call 136; refine (HT.out _ (by simp)).mono ?_; rintro e w' ⟨ao', cap', rfl, hbs, hcap, hcm, hcn, hrd, ho⟩; have k2 := slice_lo_at ao' L.length cap' 1 1 rfl (by omega); have k3 := conv_cut hbs hcap 1))
      go_ret
      exact ⟨rfl, hrd, ho⟩

end Go.Proofs.YtildemmkhndhjaaGreatDoor
