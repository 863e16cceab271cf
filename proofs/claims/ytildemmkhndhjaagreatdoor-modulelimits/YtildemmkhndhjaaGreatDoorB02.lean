/-
  What the proof leans on, part 2 of 23. The conditions stand in each theorem.
-/
import Derived.Test.YtildemmkhndhjaaGreatDoorB01
import Derived.Laws.StructEq
import Derived.Laws.AppendOwnNone
import Derived.Laws.AppendOwn
import Derived.WalkMore
import Derived.ScopeJumps
namespace Go.Proofs.YtildemmkhndhjaaGreatDoor
open Go.RowKit

theorem rowI_plain {op : Int} (h0 : 0 ≤ op) (h1 : op ≤ 45) (h2 : ¬ (op = 3)) (h3 : ¬ (op = 4)) (h4 : ¬ (op = 1)) (h5 : op < 19 ∨ 24 < op) (h6 : op < 25 ∨ 30 < op) (h7 : op < 36 ∨ 41 < op) : rowI op = 1 := by
  unfold rowI
  repeat' split
  all_goals omega

set_option maxHeartbeats 800000 in
set_option maxRecDepth 100000 in
theorem row_any (op : Int) (w : World) : Calls Tryz.prog 192 #[.int .i64 op] w fun e w' => e = .returned (.int .i64 (rowI op)) ∧ w' = w := by
  by_cases hs : op = 3 ∨ op = 4 ∨ op = 1 ∨ op = 19 ∨ op = 20 ∨ op = 21 ∨ op = 22 ∨ op = 23 ∨ op = 24 ∨ op = 25 ∨ op = 26 ∨ op = 27 ∨ op = 28 ∨ op = 29 ∨ op = 30 ∨ op = 36 ∨ op = 37 ∨ op = 38 ∨ op = 39 ∨ op = 40 ∨ op = 41
  · rcases hs with rfl | rfl | rfl | rfl | rfl | rfl | rfl | rfl | rfl | rfl | rfl | rfl | rfl | rfl | rfl | rfl | rfl | rfl | rfl | rfl | rfl
    all_goals
      go_enter Tryz.func192, Tryz.ntmps192
      go_wp2
      go_ret
      exact ⟨rfl, rfl⟩
  · simp only [not_or] at hs
    obtain ⟨n3, n4, n1, n19, n20, n21, n22, n23, n24, n25, n26, n27, n28, n29, n30, n36, n37, n38, n39, n40, n41⟩ := hs
    by_cases h0 : op < 0
    · have e1 : rowI op = 0 := by unfold rowI; rw [if_pos (by omega)]
      rw [e1]
      clear e1
      go_enter Tryz.func192, Tryz.ntmps192
      go_wp2
      go_ret
      exact ⟨rfl, rfl⟩
    · by_cases h1 : 45 < op
      · have e1 : rowI op = 0 := by unfold rowI; rw [if_pos (by omega)]
        rw [e1]
        clear e1
        go_enter Tryz.func192, Tryz.ntmps192
        go_wp2
        go_ret
        exact ⟨rfl, rfl⟩
      · have e1 : rowI op = 1 := rowI_plain (by omega) (by omega) n3 n4 n1 (by omega) (by omega) (by omega)
        rw [e1]
        clear e1
        go_enter Tryz.func192, Tryz.ntmps192
        go_wp2
        go_ret
        exact ⟨rfl, rfl⟩

set_option maxHeartbeats 400000 in
set_option maxRecDepth 100000 in
theorem size_any (op : Int) (w : World) : Calls Tryz.prog 210 #[.int .i64 op] w fun e w' => e = .returned (.int .i64 (sizeN op : Int)) ∧ w' = w := by
  have HR := row_any op w
  have hc := row_cases op
  generalize rowI op = r at *
  generalize sizeN op = s at *
  replace HR := hid HR
  rcases hc with ⟨rfl, rfl⟩ | ⟨rfl, rfl⟩ | ⟨rfl, rfl⟩ | ⟨h3, h8, rfl⟩
  · go_enter Tryz.func210, Tryz.ntmps210
    go_wp2_with (go_at_call 192; refine HR.out.mono ?_; rintro e w' ⟨rfl, rfl⟩)
    go_ret
    exact ⟨rfl, rfl⟩
  · go_enter Tryz.func210, Tryz.ntmps210
    go_wp2_with (go_at_call 192; refine HR.out.mono ?_; rintro e w' ⟨rfl, rfl⟩)
    go_ret
    exact ⟨rfl, rfl⟩
  · go_enter Tryz.func210, Tryz.ntmps210
    go_wp2_with (go_at_call 192; refine HR.out.mono ?_; rintro e w' ⟨rfl, rfl⟩)
    go_ret
    exact ⟨rfl, rfl⟩
  · rcases (by omega : r = 3 ∨ r = 4 ∨ r = 5 ∨ r = 6 ∨ r = 7 ∨ r = 8) with rfl | rfl | rfl | rfl | rfl | rfl
    all_goals
      go_enter Tryz.func210, Tryz.ntmps210
      go_wp2_with (go_at_call 192; refine HR.out.mono ?_; rintro e w' ⟨rfl, rfl⟩)
      go_ret
      exact ⟨rfl, rfl⟩

def jumpsI (op : Int) : Bool := decide (19 ≤ op) && decide (op ≤ 24)

theorem rjumps_any (op : Int) (w : World) : Calls Tryz.prog 218 #[.int .i64 op] w fun e w' => e = .returned (.bool (jumpsI op)) ∧ w' = w := by
  by_cases h1 : 19 ≤ op <;> by_cases h2 : op ≤ 24
  all_goals
    go_enter Tryz.func218, Tryz.ntmps218
    go_wp2
    go_ret
    refine ⟨?_, rfl⟩
    simp [jumpsI, *]

set_option maxHeartbeats 400000 in
set_option maxRecDepth 100000 in
theorem rsize_any (op : Int) (w : World) : Calls Tryz.prog 235 #[.int .i64 op] w fun e w' => e = .returned (.int .i64 (sizeN op : Int)) ∧ w' = w := by
  have HJ := rjumps_any op w
  by_cases h0 : op < 0
  · have e1 : sizeN op = 0 := by unfold sizeN; rw [if_pos (by omega)]
    rw [e1]
    clear e1 HJ
    go_enter Tryz.func235, Tryz.ntmps235
    go_wp2
    go_ret
    exact ⟨rfl, rfl⟩
  by_cases h45 : 45 < op
  · have e1 : sizeN op = 0 := by unfold sizeN; rw [if_pos (by omega)]
    rw [e1]
    clear e1 HJ
    go_enter Tryz.func235, Tryz.ntmps235
    go_wp2
    go_ret
    exact ⟨rfl, rfl⟩
  by_cases h3 : op = 3
  · subst h3
    clear HJ
    go_enter Tryz.func235, Tryz.ntmps235
    go_wp2
    go_ret
    exact ⟨rfl, rfl⟩
  by_cases h4 : op = 4
  · subst h4
    clear HJ
    go_enter Tryz.func235, Tryz.ntmps235
    go_wp2
    go_ret
    exact ⟨rfl, rfl⟩
  by_cases h1 : op = 1
  · subst h1
    clear HJ
    go_enter Tryz.func235, Tryz.ntmps235
    go_wp2
    go_ret
    exact ⟨rfl, rfl⟩
  have b3 : (op == 3) = false := by simpa using h3
  have b4 : (op == 4) = false := by simpa using h4
  have b1 : (op == 1) = false := by simpa using h1
  by_cases hj : 19 ≤ op ∧ op ≤ 24
  · have e1 : sizeN op = 3 := by unfold sizeN; rw [if_neg (by omega), if_neg (by omega), if_pos (by omega)]
    have e2 : jumpsI op = true := by simp [jumpsI, hj.1, hj.2]
    rw [e1]
    rw [e2] at HJ
    replace HJ := hid HJ
    clear e1 e2 hj
    go_enter Tryz.func235, Tryz.ntmps235
    go_wp2_with (go_at_call 218; refine HJ.out.mono ?_; rintro e w' ⟨rfl, rfl⟩)
    go_ret
    exact ⟨rfl, rfl⟩
  have e2 : jumpsI op = false := by
    unfold jumpsI
    by_cases h : 19 ≤ op
    · have : ¬ (op ≤ 24) := fun q => hj ⟨h, q⟩
      simp [this]
    · simp [h]
  rw [e2] at HJ
  replace HJ := hid HJ
  clear e2
  by_cases h25 : 25 ≤ op
  · by_cases h30 : op ≤ 30
    · have e1 : sizeN op = 3 := by unfold sizeN; rw [if_neg (by omega), if_neg (by omega), if_pos (by omega)]
      rw [e1]
      clear e1 hj
      go_enter Tryz.func235, Tryz.ntmps235
      go_wp2_with (go_at_call 218; refine HJ.out.mono ?_; rintro e w' ⟨rfl, rfl⟩)
      go_ret
      exact ⟨rfl, rfl⟩
    · by_cases h36 : 36 ≤ op
      · by_cases h41 : op ≤ 41
        · have e1 : sizeN op = 3 := by unfold sizeN; rw [if_neg (by omega), if_neg (by omega), if_pos (by omega)]
          rw [e1]
          clear e1 hj
          go_enter Tryz.func235, Tryz.ntmps235
          go_wp2_with (go_at_call 218; refine HJ.out.mono ?_; rintro e w' ⟨rfl, rfl⟩)
          go_ret
          exact ⟨rfl, rfl⟩
        · have e1 : sizeN op = 1 := by unfold sizeN; rw [if_neg (by omega), if_neg (by omega), if_neg (by omega)]
          rw [e1]
          clear e1 hj
          go_enter Tryz.func235, Tryz.ntmps235
          go_wp2_with (go_at_call 218; refine HJ.out.mono ?_; rintro e w' ⟨rfl, rfl⟩)
          go_ret
          exact ⟨rfl, rfl⟩
      · have e1 : sizeN op = 1 := by unfold sizeN; rw [if_neg (by omega), if_neg (by omega), if_neg (by omega)]
        rw [e1]
        clear e1 hj
        go_enter Tryz.func235, Tryz.ntmps235
        go_wp2_with (go_at_call 218; refine HJ.out.mono ?_; rintro e w' ⟨rfl, rfl⟩)
        go_ret
        exact ⟨rfl, rfl⟩
  · have e1 : sizeN op = 1 := by unfold sizeN; rw [if_neg (by omega), if_neg (by omega), if_neg (by omega)]
    have h36 : ¬ (36 ≤ op) := by omega
    rw [e1]
    clear e1 hj
    go_enter Tryz.func235, Tryz.ntmps235
    go_wp2_with (go_at_call 218; refine HJ.out.mono ?_; rintro e w' ⟨rfl, rfl⟩)
    go_ret
    exact ⟨rfl, rfl⟩

end Go.Proofs.YtildemmkhndhjaaGreatDoor
namespace Go.Proofs.YtildemmkhndhjaaGreatDoor
open Go.RowKit

theorem elInt : ElT 3 (.int .i64 0) 1 8 := ⟨by kernel_rfl, rfl, by decide, by decide⟩
theorem elByte : ElT 5 (.int .u8 0) 1 1 := ⟨by kernel_rfl, rfl, by decide, by decide⟩
theorem elIn : ElT 250 (.agg #[.int .i64 0, .int .i64 0, .int .i64 0, .int .i64 0]) 4 32 := ⟨by kernel_rfl, rfl, by decide, by decide⟩

/-- Behind an append to a row of the call's own nothing elder has turned. -/
theorem Appd.next {w0 w w' : World} {e : TypeId} {k : Nat} {ao ao' : Option Addr} {m n' cap cap' : Nat} {xs ys : List Value} (h : Appd w w' w0.heap.size e k ao ao' m n' cap' ys) (hown : w.ownsRow w0.heap.size e k (.slice ao m cap) m xs) (ho : Only [] w0 w) : Only [] w0 w' := by
  refine ho.next h.only fun x hx => ?_
  cases ao with
  | none => simp [Value.ownBlock] at hx
  | some q =>
    simp [Value.ownBlock] at hx
    subst hx
    exact ((RS.of_owns hown).2.2.2.2 q rfl).1

/-- A block that is not a row's. -/
theorem block_not {ao : Option Addr} {m : Nat} {b : Nat} (hb : ∀ a, ao = some a → b ≠ a.block) : b ∉ (Value.ownBlock (.slice ao m 0)).toList := by
  cases ao with
  | none => simp [Value.ownBlock]
  | some q => simpa [Value.ownBlock] using hb q rfl

/-- An instruction in memory. -/
structure InAt (w : World) (b off : Nat) (i : In) : Prop where
  c0 : w.cell? ⟨b, off, none⟩ = some (.int .i64 i.1)
  c1 : w.cell? ⟨b, off + 1, none⟩ = some (.int .i64 i.2.1)
  c2 : w.cell? ⟨b, off + 2, none⟩ = some (.int .i64 i.2.2.1)
  c3 : w.cell? ⟨b, off + 3, none⟩ = some (.int .i64 i.2.2.2)

theorem InAt.lt {w : World} {b off : Nat} {i : In} (h : InAt w b off i) : b < w.heap.size := World.block_lt_of_cell? w _ h.c0

theorem InAt.only {w w' : World} {S : List Nat} {b off : Nat} {i : In} (h : InAt w b off i) (ho : Only S w w') (hb : b ∉ S) : InAt w' b off i := by
  have hl := h.lt
  exact ⟨by rw [ho.cell hl hb]; exact h.c0, by rw [ho.cell hl hb]; exact h.c1, by rw [ho.cell hl hb]; exact h.c2, by rw [ho.cell hl hb]; exact h.c3⟩

theorem InAt.alloc {w : World} {b off : Nat} {i : In} (h : InAt w b off i) (o : Obj) : InAt (w.alloc o) b off i := h.only ((Only.refl [] w).alloc o) (by simp)

theorem inAt_new (w : World) (a op n s : Int) (t : TypeId) : InAt (w.alloc (.cells #[.int .i64 a, .int .i64 op, .int .i64 n, .int .i64 s] t)) w.heap.size 0 (a, op, n, s) :=
  ⟨by rw [cell_new]; rfl, by rw [cell_new]; rfl, by rw [cell_new]; rfl, by rw [cell_new]; rfl⟩

/-- One of a row. -/
theorem RS.inAt {w : World} {ao : Option Addr} {l : List In} {d : Nat} (h : RS w ao (qcs l) d) {j : Nat} (hj : j < l.length) : ∃ off, ao = some ⟨d, off, none⟩ ∧ InAt w d (off + j * 4) l[j] := by
  obtain ⟨off, ha, hc⟩ := h.at (j := j * 4) (by rw [qcs_length]; omega)
  obtain ⟨g0, g1, g2, g3⟩ := qcs_get l j hj
  exact ⟨off, ha, by simpa [Nat.add_assoc] using hc _ _ g0, by simpa [Nat.add_assoc] using hc _ _ g1, by simpa [Nat.add_assoc] using hc _ _ g2, by simpa [Nat.add_assoc] using hc _ _ g3⟩

/-- One byte of a row. -/
theorem RS.byteAt {w : World} {ao : Option Addr} {l : List UInt8} {d : Nat} (h : RS w ao (bcs l) d) {j : Nat} (hj : j < l.length) : ∃ off, ao = some ⟨d, off, none⟩ ∧ w.cell? ⟨d, off + j, none⟩ = some (.int .u8 (l[j].toNat : Int)) := by
  obtain ⟨off, ha, hc⟩ := h.at (j := j) (by rw [bcs_length]; omega)
  exact ⟨off, ha, hc j _ (bcs_get l j hj)⟩

/-- One number of a row. -/
theorem RS.intAt {w : World} {ao : Option Addr} {l : List Int} {d : Nat} (h : RS w ao (ics l) d) {j : Nat} (hj : j < l.length) : ∃ off, ao = some ⟨d, off, none⟩ ∧ w.cell? ⟨d, off + j, none⟩ = some (.int .i64 l[j]) := by
  obtain ⟨off, ha, hc⟩ := h.at (j := j) (by rw [ics_length]; omega)
  exact ⟨off, ha, hc j _ (ics_get l j hj)⟩

theorem rows_int (w : World) (x : Int) {b : Nat} (hb : b = w.heap.size) : RS (w.alloc (.cells #[.int .i64 x] 3)) (some ⟨b, 0, none⟩) (ics [x]) b := by subst hb; exact RS.fresh w _ _
theorem rows_byte (w : World) (x : Int) (c : UInt8) (hc : x = (c.toNat : Int)) {b : Nat} (hb : b = w.heap.size) : RS (w.alloc (.cells #[.int .u8 x] 5)) (some ⟨b, 0, none⟩) (bcs [c]) b := by subst hb; subst hc; exact RS.fresh w _ _
theorem rows_in (w : World) (a op n s : Int) {b : Nat} (hb : b = w.heap.size) : RS (w.alloc (.cells #[.int .i64 a, .int .i64 op, .int .i64 n, .int .i64 s] 250)) (some ⟨b, 0, none⟩) (qcs [(a, op, n, s)]) b := by subst hb; exact RS.fresh w _ _

theorem eq_instr (a b : In) (w : World) : (binOp .eql 250 (inV a) (inV b)).run Tryz.prog w = .ok (.bool (decide (a = b))) w := by
  obtain ⟨x, y, z, t⟩ := a
  obtain ⟨x', y', z', t'⟩ := b
  have hS : Tryz.prog.underlying 250 = some (.struct (Tryz.prog.fieldsOf 250)) := by kernel_rfl
  have hp : Tryz.prog.stoodInHeld 250 = false := by kernel_rfl
  simp only [inV]
  rw [run_eql_struct, show (10000 : Nat) = 9999 + 1 from rfl, run_equalIn_agg w 9999 250 _ _ hS hp]
  simp only [Program.fieldsOf, Tryz.underlying250]
  go_simp
  by_cases h1 : x = x' <;> by_cases h2 : y = y' <;> by_cases h3 : z = z' <;> by_cases h4 : t = t' <;> simp [h1, h2, h3, h4]

theorem neq_instr (a b : In) (w : World) : (binOp .neq 250 (inV a) (inV b)).run Tryz.prog w = .ok (.bool (!decide (a = b))) w := by
  obtain ⟨x, y, z, t⟩ := a
  obtain ⟨x', y', z', t'⟩ := b
  have hS : Tryz.prog.underlying 250 = some (.struct (Tryz.prog.fieldsOf 250)) := by kernel_rfl
  have hp : Tryz.prog.stoodInHeld 250 = false := by kernel_rfl
  simp only [inV]
  rw [run_neq_struct, show (10000 : Nat) = 9999 + 1 from rfl, run_equalIn_agg w 9999 250 _ _ hS hp]
  simp only [Program.fieldsOf, Tryz.underlying250]
  go_simp
  by_cases h1 : x = x' <;> by_cases h2 : y = y' <;> by_cases h3 : z = z' <;> by_cases h4 : t = t' <;> simp [h1, h2, h3, h4]

end Go.Proofs.YtildemmkhndhjaaGreatDoor
namespace Go.Proofs.YtildemmkhndhjaaGreatDoor
open Go.RowKit

/-- A letter; a digit; a name; a method's name. -/
def letter (c : UInt8) : Bool := (decide (65 ≤ c.toNat) && decide (c.toNat ≤ 90)) || (decide (97 ≤ c.toNat) && decide (c.toNat ≤ 122)) || decide (c.toNat = 95)
def digit (c : UInt8) : Bool := decide (48 ≤ c.toNat) && decide (c.toNat ≤ 57)
def sign (c : UInt8) : Bool := letter c || digit c
def nameOK (l : List UInt8) : Bool := decide (l ≠ []) && decide (l.length ≤ 32) && !(digit (l.headD 0)) && l.all sign
def initL : List UInt8 := [60, 105, 110, 105, 116, 62]
def methodOK (l : List UInt8) : Bool := decide (l = initL) || nameOK l

theorem digit_any (c : UInt8) (w : World) : Calls Tryz.prog 159 #[.int .u8 (c.toNat : Int)] w fun e w' => e = .returned (.bool (digit c)) ∧ w' = w := by
  by_cases h1 : 48 ≤ c.toNat <;> by_cases h2 : c.toNat ≤ 57
  all_goals try omega
  all_goals
    go_enter Tryz.func159, Tryz.ntmps159
    go_wp2
    go_ret
    refine ⟨?_, rfl⟩
    simp [digit, *]
    try omega

theorem letter_any (c : UInt8) (w : World) : Calls Tryz.prog 160 #[.int .u8 (c.toNat : Int)] w fun e w' => e = .returned (.bool (letter c)) ∧ w' = w := by
  by_cases h1 : 65 ≤ c.toNat <;> by_cases h2 : c.toNat ≤ 90 <;> by_cases h3 : 97 ≤ c.toNat <;> by_cases h4 : c.toNat ≤ 122 <;> by_cases h5 : c.toNat = 95
  all_goals try omega
  all_goals
    go_enter Tryz.func160, Tryz.ntmps160
    go_wp2
    go_ret
    refine ⟨?_, rfl⟩
    simp [letter, *]
    try omega

theorem all_take_succ (l : List UInt8) (j : Nat) (h : j < l.length) : (l.take (j + 1)).all sign = ((l.take j).all sign && sign l[j]) := by
  rw [List.take_succ_eq_append_getElem h, List.all_append]
  simp

theorem not_all (l : List UInt8) (j : Nat) (h : j < l.length) (hs : sign l[j] = false) : l.all sign = false := by
  rw [List.all_eq_false]
  exact ⟨l[j], List.getElem_mem h, by simp [hs]⟩

set_option maxHeartbeats 400000 in
theorem name_any (l : List UInt8) (hl : l.length ≤ 9223372036854775807) (w : World) : Calls Tryz.prog 109 #[.string (str l)] w fun e w' => e = .returned (.bool (nameOK l)) ∧ w' = w := by
  have hs := str_size l
  have ht := str_toList l
  have hat := fun j h w => run_at l j h w
  by_cases h0 : l = []
  · subst h0
    go_enter Tryz.func109, Tryz.ntmps109
    go_wp2
    go_ret
    exact ⟨rfl, rfl⟩
  have hp : 0 < l.length := List.length_pos_iff.2 h0
  have hb : (l == []) = false := by simpa using h0
  by_cases h1 : 32 < l.length
  · have g1 : (32 < (l.length : Int)) := by omega
    go_enter Tryz.func109, Tryz.ntmps109
    go_wp2
    go_ret
    refine ⟨?_, rfl⟩
    have : ¬ l.length ≤ 32 := by omega
    simp [nameOK, this]
  have g1 : ¬ (32 < (l.length : Int)) := by omega
  have a0 := hat 0 hp
  rw [show ((0 : Nat) : Int) = 0 from rfl] at a0
  have hh : l.headD 0 = l[0] := by cases l with | nil => exact absurd rfl h0 | cons a t => rfl
  cases hd : digit l[0] with
  | true =>
    have HD := hid (digit_any l[0] w)
    rw [hd] at HD
    go_enter Tryz.func109, Tryz.ntmps109
    go_wp2_with (go_at_call 159; refine HD.out.mono ?_; rintro e w' ⟨rfl, rfl⟩)
    go_ret
    refine ⟨?_, rfl⟩
    unfold nameOK
    rw [hh, hd]
    simp
  | false =>
    have HD := hid (digit_any l[0] w)
    rw [hd] at HD
    go_enter Tryz.func109, Tryz.ntmps109
    go_wp2_with (go_at_call 159; refine HD.out.mono ?_; rintro e w' ⟨rfl, rfl⟩)
    go_loopw [18] (fun i wr => ∃ j : Nat, j ≤ l.length ∧ i = .int .i64 (j : Int) ∧ (l.take j).all sign = true ∧ wr = w') (fun i _ => l.length - (intOf i).toNat)
    case atStart => exact ⟨0, by omega, rfl, by simp, rfl⟩
    case round =>
      obtain ⟨j, hj, rfl, hall, rfl⟩ := hrel
      by_cases hlt : j < l.length
      · have g2 : ((j : Int) < (l.length : Int)) := by omega
        have aj := hat j hlt
        have HL := hid (letter_any l[j] wr)
        have HE := hid (digit_any l[j] wr)
        cases e1 : letter l[j] with
        | true =>
          rw [e1] at HL
          go_wp2_with (first | (go_at_call 160; refine HL.out.mono ?_; rintro e w' ⟨rfl, rfl⟩) | (go_at_call 159; refine HE.out.mono ?_; rintro e w' ⟨rfl, rfl⟩))
          refine ⟨⟨j + 1, by omega, by go_num, ?_, trivial⟩, by simp [intOf]; omega⟩
          rw [all_take_succ l j hlt, hall]
          simp [sign, e1]
        | false =>
          rw [e1] at HL
          cases e2 : digit l[j] with
          | true =>
            rw [e2] at HE
            go_wp2_with (first | (go_at_call 160; refine HL.out.mono ?_; rintro e w' ⟨rfl, rfl⟩) | (go_at_call 159; refine HE.out.mono ?_; rintro e w' ⟨rfl, rfl⟩))
            refine ⟨⟨j + 1, by omega, by go_num, ?_, trivial⟩, by simp [intOf]; omega⟩
            rw [all_take_succ l j hlt, hall]
            simp [sign, e2]
          | false =>
            rw [e2] at HE
            go_wp2_with (first | (go_at_call 160; refine HL.out.mono ?_; rintro e w' ⟨rfl, rfl⟩) | (go_at_call 159; refine HE.out.mono ?_; rintro e w' ⟨rfl, rfl⟩))
            go_ret
            refine ⟨?_, rfl⟩
            unfold nameOK
            rw [not_all l j hlt (by simp [sign, e1, e2])]
            simp
      · have g2 : ¬ ((j : Int) < (l.length : Int)) := by omega
        go_wp2
        go_ret
        refine ⟨?_, rfl⟩
        unfold nameOK
        rw [List.take_of_length_le (by omega)] at hall
        rw [hh, hd, hall]
        simp [h0]
        omega

theorem method_any (l : List UInt8) (hl : l.length ≤ 9223372036854775807) (w : World) : Calls Tryz.prog 113 #[.string (str l)] w fun e w' => e = .returned (.bool (methodOK l)) ∧ w' = w := by
  have HN := hid (name_any l hl w)
  by_cases h : l = initL
  · subst h
    have ht : (str initL).toList = [60, 105, 110, 105, 116, 62] := str_toList _
    go_enter Tryz.func113, Tryz.ntmps113
    go_wp2_with (go_at_call 109; refine HN.out.mono ?_; rintro e w' ⟨rfl, rfl⟩)
    go_ret
    simp [methodOK]
  · have ht := str_toList l
    have hb2 : ¬ (l = [60, 105, 110, 105, 116, 62]) := h
    go_enter Tryz.func113, Tryz.ntmps113
    go_wp2_with (go_at_call 109; refine HN.out.mono ?_; rintro e w' ⟨rfl, rfl⟩)
    go_ret
    simp [methodOK, h]
    exact fun e => absurd e hb2

end Go.Proofs.YtildemmkhndhjaaGreatDoor
namespace Go.Proofs.YtildemmkhndhjaaGreatDoor
open Go.RowKit

/-- A type: its dimensions, its name. -/
abbrev Ty := Int × List UInt8
def tyV (t : Ty) : Value := .agg #[.int .i64 t.1, .string (str t.2)]
def tyCheck (t : Ty) : Int := if t.1 < 0 ∨ 8 < t.1 then 1 else if t.2 ≠ [] ∧ nameOK t.2 = false then 14 else 0
def tyObject (t : Ty) : Bool := decide (tyCheck t = 0) && !decide (t = (0, []))
def tyElement (t : Ty) : Ty × Bool := if tyCheck t = 0 ∧ t.1 ≠ 0 then ((t.1 - 1, t.2), true) else ((0, []), false)

set_option maxHeartbeats 400000 in
theorem check_any (t : Ty) (hl : t.2.length ≤ 9223372036854775807) (w : World) : Calls Tryz.prog 117 #[tyV t] w fun e w' => e = .returned (.int .i64 (tyCheck t)) ∧ Only [] w w' := by
  obtain ⟨d, n⟩ := t
  simp only [tyV]
  have ho := (Only.refl [] w).alloc (.cells #[.int .i64 d, .string (str n)] 35)
  have HN := hid (name_any n hl (w.alloc (.cells #[.int .i64 d, .string (str n)] 35)))
  have ht := str_toList n
  by_cases h1 : d < 0
  · go_enter Tryz.func117, Tryz.ntmps117
    go_wp2
    go_ret
    exact ⟨by simp [tyCheck, h1], ho⟩
  by_cases h2 : 8 < d
  · go_enter Tryz.func117, Tryz.ntmps117
    go_wp2
    go_ret
    exact ⟨by simp [tyCheck, h2], ho⟩
  by_cases h3 : n = []
  · subst h3
    go_enter Tryz.func117, Tryz.ntmps117
    go_wp2_with (go_at_call 109; refine HN.out.mono ?_; rintro e w' ⟨rfl, rfl⟩)
    go_ret
    exact ⟨by simp [tyCheck, h1, h2], ho⟩
  have hi : n.isEmpty = false := by simpa using h3
  cases h4 : nameOK n with
  | true =>
    rw [h4] at HN
    go_enter Tryz.func117, Tryz.ntmps117
    go_wp2_with (go_at_call 109; refine HN.out.mono ?_; rintro e w' ⟨rfl, rfl⟩)
    go_ret
    exact ⟨by simp [tyCheck, h1, h2, h4], ho⟩
  | false =>
    rw [h4] at HN
    go_enter Tryz.func117, Tryz.ntmps117
    go_wp2_with (go_at_call 109; refine HN.out.mono ?_; rintro e w' ⟨rfl, rfl⟩)
    go_ret
    exact ⟨by simp [tyCheck, h1, h2, h3, h4], ho⟩

theorem eq_type (a b : Ty) (w : World) : (binOp .eql 35 (tyV a) (tyV b)).run Tryz.prog w = .ok (.bool (decide (a = b))) w := by
  obtain ⟨d, n⟩ := a
  obtain ⟨d', n'⟩ := b
  have hS : Tryz.prog.underlying 35 = some (.struct (Tryz.prog.fieldsOf 35)) := by kernel_rfl
  have hp : Tryz.prog.stoodInHeld 35 = false := by kernel_rfl
  simp only [tyV]
  rw [run_eql_struct, show (10000 : Nat) = 9999 + 1 from rfl, run_equalIn_agg w 9999 35 _ _ hS hp]
  simp only [Program.fieldsOf, Tryz.underlying35]
  go_simp
  simp only [str_toList]
  by_cases h1 : d = d' <;> by_cases h2 : n = n' <;> simp [h1, h2]

theorem neq_type (a b : Ty) (w : World) : (binOp .neq 35 (tyV a) (tyV b)).run Tryz.prog w = .ok (.bool (!decide (a = b))) w := by
  obtain ⟨d, n⟩ := a
  obtain ⟨d', n'⟩ := b
  have hS : Tryz.prog.underlying 35 = some (.struct (Tryz.prog.fieldsOf 35)) := by kernel_rfl
  have hp : Tryz.prog.stoodInHeld 35 = false := by kernel_rfl
  simp only [tyV]
  rw [run_neq_struct, show (10000 : Nat) = 9999 + 1 from rfl, run_equalIn_agg w 9999 35 _ _ hS hp]
  simp only [Program.fieldsOf, Tryz.underlying35]
  go_simp
  simp only [str_toList]
  by_cases h1 : d = d' <;> by_cases h2 : n = n' <;> simp [h1, h2]

theorem ty_zero : tyV (0, []) = .agg #[.int .i64 0, .string ⟨#[]⟩] := rfl

theorem number_any (t : Ty) (w : World) : Calls Tryz.prog 214 #[tyV t] w fun e w' => e = .returned (.bool (decide (t = (0, [])))) ∧ Only [] w w' := by
  have hq := eq_type t (0, [])
  obtain ⟨d, n⟩ := t
  rw [ty_zero] at hq
  simp only [tyV] at hq ⊢
  have ho := (Only.refl [] w).alloc (.cells #[.int .i64 d, .string (str n)] 35)
  go_enter Tryz.func214, Tryz.ntmps214
  go_wp2
  go_ret
  exact ⟨by simp, ho⟩

theorem check_bounds {d : Int} {n : List UInt8} (hc : tyCheck (d, n) = 0) : 0 ≤ d ∧ d ≤ 8 := by
  simp only [tyCheck] at hc
  split at hc
  · omega
  · omega

end Go.Proofs.YtildemmkhndhjaaGreatDoor
namespace Go.Proofs.YtildemmkhndhjaaGreatDoor
open Go.RowKit

/-- Types as cells. -/
def tcs : List Ty → List Value
  | [] => []
  | t :: l => .int .i64 t.1 :: .string (str t.2) :: tcs l

theorem tcs_length (l : List Ty) : (tcs l).length = l.length * 2 := by
  induction l with
  | nil => rfl
  | cons t l ih => simp [tcs, ih]; omega

theorem tcs_append (a b : List Ty) : tcs (a ++ b) = tcs a ++ tcs b := by
  induction a with
  | nil => rfl
  | cons t l ih => simp [tcs, ih]

theorem tcs_one (l : List Ty) : ∀ u ∈ tcs l, u.oneCell' = true := by
  induction l with
  | nil => simp [tcs]
  | cons t l ih =>
    intro u hu
    simp [tcs] at hu
    rcases hu with rfl | rfl | hu
    · rfl
    · rfl
    · exact ih u hu

theorem tcs_get (l : List Ty) (j : Nat) (h : j < l.length) : (tcs l)[j * 2]? = some (.int .i64 l[j].1) ∧ (tcs l)[j * 2 + 1]? = some (.string (str l[j].2)) := by
  induction l generalizing j with
  | nil => simp at h
  | cons t l ih =>
    cases j with
    | zero => exact ⟨rfl, rfl⟩
    | succ j =>
      have := ih j (by simpa using h)
      simp only [tcs, Nat.add_mul, Nat.one_mul, List.getElem_cons_succ]
      exact this

theorem infoT : (Tryz.prog.info? 35).map (fun i => (i.zero, i.size, i.bytes)) = some (some (.agg #[.int .i64 0, .string ⟨#[]⟩]), 2, 24) := by kernel_rfl

/-- Where the types of a slice lie that is read: nowhere, if there are none; else in block d, one behind the other. -/
def TS (w : World) (ao : Option Addr) (l : List Ty) (d : Nat) : Prop :=
  l = [] ∨ ∃ off, ao = some ⟨d, off, none⟩ ∧ ∀ j (h : j < l.length), w.cell? ⟨d, off + j * 2, none⟩ = some (.int .i64 l[j].1) ∧ w.cell? ⟨d, off + j * 2 + 1, none⟩ = some (.string (str l[j].2))

theorem TS.nil (w : World) (ao : Option Addr) (d : Nat) : TS w ao [] d := .inl rfl

theorem TS.lt {w : World} {ao : Option Addr} {l : List Ty} {d : Nat} (h : TS w ao l d) (hn : l ≠ []) : d < w.heap.size := by
  rcases h with h | ⟨off, _, hc⟩
  · exact absurd h hn
  · exact World.block_lt_of_cell? w _ (hc 0 (List.length_pos_iff.2 hn)).1

theorem TS.only {w w' : World} {S : List Nat} {ao : Option Addr} {l : List Ty} {d : Nat} (h : TS w ao l d) (ho : Only S w w') (hn : l ≠ [] → d ∉ S) : TS w' ao l d := by
  rcases h with h | ⟨off, ha, hc⟩
  · exact .inl h
  · by_cases hb : l = []
    · exact .inl hb
    have hd := hn hb
    exact .inr ⟨off, ha, fun j hj => ⟨by rw [ho.cell (World.block_lt_of_cell? w _ (hc j hj).1) hd]; exact (hc j hj).1, by rw [ho.cell (World.block_lt_of_cell? w _ (hc j hj).2) hd]; exact (hc j hj).2⟩⟩

theorem TS.none_nil {w : World} {l : List Ty} {d : Nat} (h : TS w none l d) : l = [] := by
  rcases h with h | ⟨off, ha, _⟩
  · exact h
  · cases ha

theorem TS.take {w : World} {ao : Option Addr} {l : List Ty} {d : Nat} (h : TS w ao l d) (n : Nat) : TS w ao (l.take n) d := by
  rcases h with h | ⟨off, ha, hc⟩
  · exact .inl (by simp [h])
  · exact .inr ⟨off, ha, fun j hj => by simp at hj; simpa using hc j (by omega)⟩

theorem TS.cells {w : World} {a : Addr} {l : List Ty} {d : Nat} (h : TS w (some a) l d) : ∀ j u, (tcs l)[j]? = some u → w.cell? (a.add j) = some u := by
  intro j u hu
  have hj : j < l.length * 2 := by
    have := (List.getElem?_eq_some_iff.1 hu).1
    rwa [tcs_length] at this
  rcases h with h | ⟨off, ha, hc⟩
  · rw [h] at hj; simp at hj
  · cases ha
    rw [Addr.add_lit]
    have hk : j / 2 < l.length := by omega
    obtain ⟨g0, g1⟩ := tcs_get l (j / 2) hk
    obtain ⟨h0, h1⟩ := hc (j / 2) hk
    rcases Nat.mod_two_eq_zero_or_one j with e | e
    · have ej : j / 2 * 2 = j := by omega
      rw [ej] at g0 h0
      rw [h0, ← hu, g0]
    · have ej : j / 2 * 2 + 1 = j := by omega
      rw [ej] at g1
      rw [show off + j / 2 * 2 + 1 = off + j by omega] at h1
      rw [h1, ← hu, g1]

/-- A row of types that the call owns. -/
abbrev Own (w : World) (B : Nat) (v : Value) (l : List Ty) : Prop := w.ownsRow B 35 2 v l.length (tcs l)

theorem own_slice {w : World} {B : Nat} {v : Value} {l : List Ty} (h : Own w B v l) : ∃ ao cap, v = .slice ao l.length cap := by
  rcases h.2 with ⟨rfl, h0⟩ | ⟨g, cap, _, rfl, _⟩
  · exact ⟨none, 0, by rw [h0]⟩
  · exact ⟨_, _, rfl⟩

theorem own_mono {w : World} {B C : Nat} {v : Value} {l : List Ty} (h : Own w B v l) (hC : C ≤ B) : Own w C v l := by
  refine ⟨h.1, ?_⟩
  rcases h.2 with q | ⟨g, cap, cur, q1, q2, q3⟩
  · exact .inl q
  · exact .inr ⟨g, cap, cur, q1, by omega, q3⟩

theorem own_only {w w' : World} {B : Nat} {S : List Nat} {v : Value} {l : List Ty} (h : Own w B v l) (ho : Only S w w') (hn : ∀ k, v.ownBlock = some k → k ∉ S) : Own w' B v l := by
  refine ⟨h.1, ?_⟩
  rcases h.2 with q | ⟨g, cap, cur, q1, q2, q3, q4⟩
  · exact .inl q
  · subst q1
    exact .inr ⟨g, cap, cur, rfl, q2, by rw [ho.block g (Array.getElem?_eq_some_iff.1 q3).1 (hn g rfl)]; exact q3, q4⟩

/-- What the call owns is a row that is read. -/
theorem TS.of_owns {w : World} {B : Nat} {ao : Option Addr} {cap : Nat} {l : List Ty} (h : Own w B (.slice ao l.length cap) l) :
    TS w ao l ((ao.map (·.block)).getD 0) ∧ l.length ≤ cap ∧ cap ≤ maxLen ∧ (ao = none → cap = 0) ∧ (∀ a, ao = some a → B ≤ a.block ∧ a.block < w.heap.size ∧ a = ⟨a.block, 0, none⟩) := by
  rcases h.2 with ⟨hv, h0⟩ | ⟨g, cap', cur, hv, hb, hg, hn, hm, hs, ht⟩
  · have : l = [] := List.eq_nil_of_length_eq_zero h0
    subst this
    simp at hv
    obtain ⟨rfl, rfl⟩ := hv
    exact ⟨TS.nil _ _ _, Nat.le_refl _, by decide, fun _ => rfl, fun a ha => by cases ha⟩
  · simp at hv
    obtain ⟨rfl, rfl⟩ := hv
    refine ⟨.inr ⟨0, rfl, fun j hj => ?_⟩, hn, hm, (fun e => by cases e), fun a ha => ?_⟩
    · obtain ⟨g0, g1⟩ := tcs_get l j hj
      have k0 := h.cells (g := g) rfl (j * 2) _ g0
      have k1 := h.cells (g := g) rfl (j * 2 + 1) _ g1
      rw [Addr.add_lit] at k0 k1
      exact ⟨k0, k1⟩
    · simp at ha
      subst ha
      exact ⟨hb, (Array.getElem?_eq_some_iff.1 hg).1, rfl⟩

end Go.Proofs.YtildemmkhndhjaaGreatDoor
namespace Go.Proofs.YtildemmkhndhjaaGreatDoor
open Go.RowKit

/-- An entry: its kind, its text, its number, its three entries. -/
abbrev En := Int × List UInt8 × Int × Int × Int × Int
def enV (e : En) : Value := .agg #[.int .i64 e.1, .string (str e.2.1), .int .i64 e.2.2.1, .int .i64 e.2.2.2.1, .int .i64 e.2.2.2.2.1, .int .i64 e.2.2.2.2.2]
def en0 : En := (0, [], 0, 0, 0, 0)

/-- Entries as cells. -/
def ecs : List En → List Value
  | [] => []
  | e :: l => .int .i64 e.1 :: .string (str e.2.1) :: .int .i64 e.2.2.1 :: .int .i64 e.2.2.2.1 :: .int .i64 e.2.2.2.2.1 :: .int .i64 e.2.2.2.2.2 :: ecs l

theorem ecs_length (l : List En) : (ecs l).length = l.length * 6 := by
  induction l with
  | nil => rfl
  | cons e l ih => simp [ecs, ih]; omega

theorem ecs_append (a b : List En) : ecs (a ++ b) = ecs a ++ ecs b := by
  induction a with
  | nil => rfl
  | cons e l ih => simp [ecs, ih]

theorem ecs_one (l : List En) : ∀ u ∈ ecs l, u.oneCell' = true := by
  induction l with
  | nil => simp [ecs]
  | cons t l ih =>
    intro u hu
    simp [ecs] at hu
    rcases hu with rfl | rfl | rfl | rfl | rfl | rfl | hu
    · rfl
    · rfl
    · rfl
    · rfl
    · rfl
    · rfl
    · exact ih u hu

theorem ecs_get (l : List En) (j : Nat) (h : j < l.length) : (ecs l)[j * 6]? = some (.int .i64 l[j].1) ∧ (ecs l)[j * 6 + 1]? = some (.string (str l[j].2.1)) ∧ (ecs l)[j * 6 + 2]? = some (.int .i64 l[j].2.2.1) ∧ (ecs l)[j * 6 + 3]? = some (.int .i64 l[j].2.2.2.1) ∧ (ecs l)[j * 6 + 4]? = some (.int .i64 l[j].2.2.2.2.1) ∧ (ecs l)[j * 6 + 5]? = some (.int .i64 l[j].2.2.2.2.2) := by
  induction l generalizing j with
  | nil => simp at h
  | cons t l ih =>
    cases j with
    | zero => exact ⟨rfl, rfl, rfl, rfl, rfl, rfl⟩
    | succ j =>
      have := ih j (by simpa using h)
      simp only [ecs, Nat.add_mul, Nat.one_mul, List.getElem_cons_succ]
      exact this

theorem ecs_take (l : List En) (n : Nat) : (ecs l).take (n * 6) = ecs (l.take n) := by
  induction l generalizing n with
  | nil => simp [ecs]
  | cons t l ih =>
    cases n with
    | zero => simp [ecs]
    | succ n =>
      rw [show (n + 1) * 6 = n * 6 + 6 by omega]
      simp [ecs, ih]

theorem infoE : (Tryz.prog.info? 90).map (fun i => (i.zero, i.size, i.bytes)) = some (some (.agg #[.int .i64 0, .string ⟨#[]⟩, .int .i64 0, .int .i64 0, .int .i64 0, .int .i64 0]), 6, 56) := by kernel_rfl

/-- An entry in memory. -/
structure EnAt (w : World) (b off : Nat) (e : En) : Prop where
  c0 : w.cell? ⟨b, off, none⟩ = some (.int .i64 e.1)
  c1 : w.cell? ⟨b, off + 1, none⟩ = some (.string (str e.2.1))
  c2 : w.cell? ⟨b, off + 2, none⟩ = some (.int .i64 e.2.2.1)
  c3 : w.cell? ⟨b, off + 3, none⟩ = some (.int .i64 e.2.2.2.1)
  c4 : w.cell? ⟨b, off + 4, none⟩ = some (.int .i64 e.2.2.2.2.1)
  c5 : w.cell? ⟨b, off + 5, none⟩ = some (.int .i64 e.2.2.2.2.2)

theorem EnAt.lt {w : World} {b off : Nat} {e : En} (h : EnAt w b off e) : b < w.heap.size := World.block_lt_of_cell? w _ h.c0

theorem EnAt.only {w w' : World} {S : List Nat} {b off : Nat} {e : En} (h : EnAt w b off e) (ho : Only S w w') (hb : b ∉ S) : EnAt w' b off e := by
  have hl := h.lt
  exact ⟨by rw [ho.cell hl hb]; exact h.c0, by rw [ho.cell hl hb]; exact h.c1, by rw [ho.cell hl hb]; exact h.c2, by rw [ho.cell hl hb]; exact h.c3, by rw [ho.cell hl hb]; exact h.c4, by rw [ho.cell hl hb]; exact h.c5⟩

theorem enAt_new (w : World) (e : En) (t : TypeId) : EnAt (w.alloc (.cells #[.int .i64 e.1, .string (str e.2.1), .int .i64 e.2.2.1, .int .i64 e.2.2.2.1, .int .i64 e.2.2.2.2.1, .int .i64 e.2.2.2.2.2] t)) w.heap.size 0 e :=
  ⟨by rw [cell_new]; rfl, by rw [cell_new]; rfl, by rw [cell_new]; rfl, by rw [cell_new]; rfl, by rw [cell_new]; rfl, by rw [cell_new]; rfl⟩

/-- Where the entries of a slice lie that is read: nowhere, if there are none; else in block d, one behind the other. -/
def ES (w : World) (ao : Option Addr) (l : List En) (d : Nat) : Prop :=
  l = [] ∨ ∃ off, ao = some ⟨d, off, none⟩ ∧ ∀ j (h : j < l.length), EnAt w d (off + j * 6) l[j]

theorem ES.nil (w : World) (ao : Option Addr) (d : Nat) : ES w ao [] d := .inl rfl

theorem ES.lt {w : World} {ao : Option Addr} {l : List En} {d : Nat} (h : ES w ao l d) (hn : l ≠ []) : d < w.heap.size := by
  rcases h with h | ⟨off, _, hc⟩
  · exact absurd h hn
  · exact (hc 0 (List.length_pos_iff.2 hn)).lt

theorem ES.only {w w' : World} {S : List Nat} {ao : Option Addr} {l : List En} {d : Nat} (h : ES w ao l d) (ho : Only S w w') (hn : l ≠ [] → d ∉ S) : ES w' ao l d := by
  rcases h with h | ⟨off, ha, hc⟩
  · exact .inl h
  · by_cases hb : l = []
    · exact .inl hb
    exact .inr ⟨off, ha, fun j hj => (hc j hj).only ho (hn hb)⟩

theorem ES.none_nil {w : World} {l : List En} {d : Nat} (h : ES w none l d) : l = [] := by
  rcases h with h | ⟨off, ha, _⟩
  · exact h
  · cases ha

theorem ES.take {w : World} {ao : Option Addr} {l : List En} {d : Nat} (h : ES w ao l d) (n : Nat) : ES w ao (l.take n) d := by
  rcases h with h | ⟨off, ha, hc⟩
  · exact .inl (by simp [h])
  · exact .inr ⟨off, ha, fun j hj => by simp at hj; simpa using hc j (by omega)⟩

theorem ES.cells {w : World} {a : Addr} {l : List En} {d : Nat} (h : ES w (some a) l d) : ∀ j u, (ecs l)[j]? = some u → w.cell? (a.add j) = some u := by
  intro j u hu
  have hj : j < l.length * 6 := by
    have := (List.getElem?_eq_some_iff.1 hu).1
    rwa [ecs_length] at this
  rcases h with h | ⟨off, ha, hc⟩
  · rw [h] at hj; simp at hj
  · cases ha
    rw [Addr.add_lit]
    have hk : j / 6 < l.length := by omega
    obtain ⟨g0, g1, g2, g3, g4, g5⟩ := ecs_get l (j / 6) hk
    obtain ⟨h0, h1, h2, h3, h4, h5⟩ := hc (j / 6) hk
    have hm : j % 6 < 6 := Nat.mod_lt _ (by decide)
    rcases (by omega : j % 6 = 0 ∨ j % 6 = 1 ∨ j % 6 = 2 ∨ j % 6 = 3 ∨ j % 6 = 4 ∨ j % 6 = 5) with e | e | e | e | e | e
    · have ej : j / 6 * 6 = j := by omega
      rw [ej] at g0 h0
      rw [h0, ← hu, g0]
    · have ej : j / 6 * 6 + 1 = j := by omega
      rw [ej] at g1
      rw [show off + j / 6 * 6 + 1 = off + j by omega] at h1
      rw [h1, ← hu, g1]
    · have ej : j / 6 * 6 + 2 = j := by omega
      rw [ej] at g2
      rw [show off + j / 6 * 6 + 2 = off + j by omega] at h2
      rw [h2, ← hu, g2]
    · have ej : j / 6 * 6 + 3 = j := by omega
      rw [ej] at g3
      rw [show off + j / 6 * 6 + 3 = off + j by omega] at h3
      rw [h3, ← hu, g3]
    · have ej : j / 6 * 6 + 4 = j := by omega
      rw [ej] at g4
      rw [show off + j / 6 * 6 + 4 = off + j by omega] at h4
      rw [h4, ← hu, g4]
    · have ej : j / 6 * 6 + 5 = j := by omega
      rw [ej] at g5
      rw [show off + j / 6 * 6 + 5 = off + j by omega] at h5
      rw [h5, ← hu, g5]

/-- A row of entries that the call owns. -/
abbrev OwE (w : World) (B : Nat) (v : Value) (l : List En) : Prop := w.ownsRow B 90 6 v l.length (ecs l)

theorem owe_nil (w : World) (B : Nat) : OwE w B (.slice none 0 0) [] := World.ownsRow_nil _ _ _ _

theorem owe_slice {w : World} {B : Nat} {v : Value} {l : List En} (h : OwE w B v l) : ∃ ao cap, v = .slice ao l.length cap := by
  rcases h.2 with ⟨rfl, h0⟩ | ⟨g, cap, _, rfl, _⟩
  · exact ⟨none, 0, by rw [h0]⟩
  · exact ⟨_, _, rfl⟩

theorem owe_mono {w : World} {B C : Nat} {v : Value} {l : List En} (h : OwE w B v l) (hC : C ≤ B) : OwE w C v l := by
  refine ⟨h.1, ?_⟩
  rcases h.2 with q | ⟨g, cap, cur, q1, q2, q3⟩
  · exact .inl q
  · exact .inr ⟨g, cap, cur, q1, by omega, q3⟩

theorem owe_only {w w' : World} {B : Nat} {S : List Nat} {v : Value} {l : List En} (h : OwE w B v l) (ho : Only S w w') (hn : ∀ k, v.ownBlock = some k → k ∉ S) : OwE w' B v l := by
  refine ⟨h.1, ?_⟩
  rcases h.2 with q | ⟨g, cap, cur, q1, q2, q3, q4⟩
  · exact .inl q
  · subst q1
    exact .inr ⟨g, cap, cur, rfl, q2, by rw [ho.block g (Array.getElem?_eq_some_iff.1 q3).1 (hn g rfl)]; exact q3, q4⟩

theorem owe_set {w : World} {B : Nat} {v : Value} {l : List En} (h : OwE w B v l) (p : Addr) (hp : p.block < B) (u : Value) : OwE (w.setCell p u) B v l := by
  refine owe_only (S := [p.block]) h ((Only.refl _ w).setCell (.inl (by simp)) u) ?_
  intro k hk
  rcases h.2 with ⟨rfl, _⟩ | ⟨g, cap, _, rfl, q2, _⟩
  · cases hk
  · simp [Value.ownBlock] at hk
    subst hk
    simp
    omega

/-- What the call owns is a row that is read. -/
theorem ES.of_owns {w : World} {B : Nat} {ao : Option Addr} {cap : Nat} {l : List En} (h : OwE w B (.slice ao l.length cap) l) :
    ES w ao l ((ao.map (·.block)).getD 0) ∧ l.length ≤ cap ∧ cap ≤ maxLen ∧ (ao = none → cap = 0) ∧ (∀ a, ao = some a → B ≤ a.block ∧ a.block < w.heap.size ∧ a = ⟨a.block, 0, none⟩) := by
  rcases h.2 with ⟨hv, h0⟩ | ⟨g, cap', cur, hv, hb, hg, hn, hm, hs, ht⟩
  · have : l = [] := List.eq_nil_of_length_eq_zero h0
    subst this
    simp at hv
    obtain ⟨rfl, rfl⟩ := hv
    exact ⟨ES.nil _ _ _, Nat.le_refl _, by decide, fun _ => rfl, fun a ha => by cases ha⟩
  · simp at hv
    obtain ⟨rfl, rfl⟩ := hv
    refine ⟨.inr ⟨0, rfl, fun j hj => ?_⟩, hn, hm, (fun e => by cases e), fun a ha => ?_⟩
    · obtain ⟨g0, g1, g2, g3, g4, g5⟩ := ecs_get l j hj
      have k0 := h.cells (g := g) rfl (j * 6) _ g0
      have k1 := h.cells (g := g) rfl (j * 6 + 1) _ g1
      have k2 := h.cells (g := g) rfl (j * 6 + 2) _ g2
      have k3 := h.cells (g := g) rfl (j * 6 + 3) _ g3
      have k4 := h.cells (g := g) rfl (j * 6 + 4) _ g4
      have k5 := h.cells (g := g) rfl (j * 6 + 5) _ g5
      rw [Addr.add_lit] at k0 k1 k2 k3 k4 k5
      rw [show 0 + (j * 6 + 1) = 0 + j * 6 + 1 by omega] at k1
      rw [show 0 + (j * 6 + 2) = 0 + j * 6 + 2 by omega] at k2
      rw [show 0 + (j * 6 + 3) = 0 + j * 6 + 3 by omega] at k3
      rw [show 0 + (j * 6 + 4) = 0 + j * 6 + 4 by omega] at k4
      rw [show 0 + (j * 6 + 5) = 0 + j * 6 + 5 by omega] at k5
      exact ⟨k0, k1, k2, k3, k4, k5⟩
    · simp at ha
      subst ha
      exact ⟨hb, (Array.getElem?_eq_some_iff.1 hg).1, rfl⟩

/-- A row cut off behind its first n. -/
theorem owe_take {w : World} {B : Nat} {ao : Option Addr} {cap : Nat} {l : List En} (h : OwE w B (.slice ao l.length cap) l) (n : Nat) (hn : n ≤ l.length) : OwE w B (.slice ao n cap) (l.take n) := by
  have hl : (l.take n).length = n := by simp; omega
  refine ⟨by rw [ecs_length], ?_⟩
  rcases h.2 with ⟨hv, h0⟩ | ⟨g, cap', cur, hv, hb, hg, hc, hm, hs, ht⟩
  · simp only [Value.slice.injEq] at hv
    obtain ⟨rfl, _, rfl⟩ := hv
    have : n = 0 := by omega
    subst this
    exact .inl ⟨rfl, by simp⟩
  · simp at hv
    obtain ⟨rfl, rfl⟩ := hv
    refine .inr ⟨g, cap, cur, by rw [hl], hb, hg, by omega, hm, hs, ?_⟩
    rw [hl, ← ecs_take, ← ht, List.take_take]
    congr 1
    omega

theorem eq_entry (a b : En) (w : World) : (binOp .eql 90 (enV a) (enV b)).run Tryz.prog w = .ok (.bool (decide (a = b))) w := by
  obtain ⟨k, t, n, x, y, z⟩ := a
  obtain ⟨k', t', n', x', y', z'⟩ := b
  have hS : Tryz.prog.underlying 90 = some (.struct (Tryz.prog.fieldsOf 90)) := by kernel_rfl
  have hp : Tryz.prog.stoodInHeld 90 = false := by kernel_rfl
  simp only [enV]
  rw [run_eql_struct, show (10000 : Nat) = 9999 + 1 from rfl, run_equalIn_agg w 9999 90 _ _ hS hp]
  simp only [Program.fieldsOf, Tryz.underlying90]
  go_simp
  simp only [str_toList]
  by_cases h1 : k = k' <;> by_cases h2 : t = t' <;> by_cases h3 : n = n' <;> by_cases h4 : x = x' <;> by_cases h5 : y = y' <;> by_cases h6 : z = z' <;> simp [h1, h2, h3, h4, h5, h6]

theorem neq_entry (a b : En) (w : World) : (binOp .neq 90 (enV a) (enV b)).run Tryz.prog w = .ok (.bool (!decide (a = b))) w := by
  obtain ⟨k, t, n, x, y, z⟩ := a
  obtain ⟨k', t', n', x', y', z'⟩ := b
  have hS : Tryz.prog.underlying 90 = some (.struct (Tryz.prog.fieldsOf 90)) := by kernel_rfl
  have hp : Tryz.prog.stoodInHeld 90 = false := by kernel_rfl
  simp only [enV]
  rw [run_neq_struct, show (10000 : Nat) = 9999 + 1 from rfl, run_equalIn_agg w 9999 90 _ _ hS hp]
  simp only [Program.fieldsOf, Tryz.underlying90]
  go_simp
  simp only [str_toList]
  by_cases h1 : k = k' <;> by_cases h2 : t = t' <;> by_cases h3 : n = n' <;> by_cases h4 : x = x' <;> by_cases h5 : y = y' <;> by_cases h6 : z = z' <;> simp [h1, h2, h3, h4, h5, h6]

end Go.Proofs.YtildemmkhndhjaaGreatDoor
namespace Go.Proofs.YtildemmkhndhjaaGreatDoor
open Go.RowKit

set_option maxRecDepth 100000 in
theorem index_lite (l : List UInt8) (c : UInt8) (w : World) : Calls Tryz.prog 221 #[.string (str l), .int .u8 (c.toNat : Int)] w fun e w' => e = .returned (.int .i64 (Lib.indexByte l c)) ∧ w' = w := by
  go_enter Tryz.func221, Tryz.ntmps221
  go_wp2
  rw [run_callFunc_extern Tryz.func233 (by kernel_rfl) (by kernel_rfl) (by kernel_rfl) (e := Extern.BytealgIndexByte.indexByte) (by kernel_rfl), Lib.run_indexByteString]
  simp only [Result.andThen]
  rw [Oper.upon_value]
  go_wp2
  go_ret
  simp [str_data]

theorem index_any (l : List UInt8) (c : UInt8) (w : World) : Calls Tryz.prog 203 #[.string (str l), .int .u8 (c.toNat : Int)] w fun e w' => e = .returned (.int .i64 (Lib.indexByte l c)) ∧ w' = w := by
  go_enter Tryz.func203, Tryz.ntmps203
  go_wp2_with (go_at_call 221; refine (index_lite l c w).mono ?_; rintro e w' ⟨rfl, rfl⟩)
  go_ret
  exact ⟨rfl, rfl⟩

def hasOne (l : List UInt8) (c : UInt8) : Bool := match l with | [] => false | a :: _ => decide (a = c)
def cutOne (l : List UInt8) (c : UInt8) : List UInt8 := if hasOne l c then l.drop 1 else l

theorem has_lite (l : List UInt8) (c : UInt8) (w : World) : Calls Tryz.prog 205 #[.string (str l), .string (str [c])] w fun e w' => e = .returned (.bool (hasOne l c)) ∧ w' = w := by
  have hs := str_size l
  have h1 := str_size [c]
  have ht := str_toList [c]
  have he : (str l).extract 0 1 = str (l.take 1) := by rw [str_extract]; simp
  have ht2 := str_toList (l.take 1)
  cases l with
  | nil =>
    go_enter Tryz.func205, Tryz.ntmps205
    go_wp2
    go_ret
    simp [hasOne]
  | cons a t =>
    have hr := run_part (a :: t) 0 1 (by omega) (by simp)
    simp at hr hs ht2
    go_enter Tryz.func205, Tryz.ntmps205
    go_wp2
    go_ret
    by_cases h : a = c <;> simp [hasOne, h]

theorem has_any (l : List UInt8) (c : UInt8) (w : World) : Calls Tryz.prog 186 #[.string (str l), .string (str [c])] w fun e w' => e = .returned (.bool (hasOne l c)) ∧ w' = w := by
  go_enter Tryz.func186, Tryz.ntmps186
  go_wp2_with (go_at_call 205; refine (has_lite l c w).mono ?_; rintro e w' ⟨rfl, rfl⟩)
  go_ret
  exact ⟨rfl, rfl⟩

theorem cut_lite (l : List UInt8) (c : UInt8) (w : World) : Calls Tryz.prog 204 #[.string (str l), .string (str [c])] w fun e w' => e = .returned (.tuple #[.string (str (cutOne l c)), .bool (hasOne l c)]) ∧ w' = w := by
  have HL := hid (has_lite l c w)
  have h1 := str_size [c]
  cases h : hasOne l c with
  | false =>
    rw [h] at HL
    go_enter Tryz.func204, Tryz.ntmps204
    go_wp2_with (go_at_call 205; refine HL.out.mono ?_; rintro e w' ⟨rfl, rfl⟩)
    go_ret2
    simp [cutOne, h]
  | true =>
    rw [h] at HL
    have hp : 1 ≤ l.length := by cases l <;> simp_all [hasOne]
    have hr := run_from l 1 hp
    rw [show ((1 : Nat) : Int) = 1 from rfl] at hr
    simp at h1
    go_enter Tryz.func204, Tryz.ntmps204
    go_wp2_with (go_at_call 205; refine HL.out.mono ?_; rintro e w' ⟨rfl, rfl⟩)
    go_ret2
    simp [cutOne, h]

theorem cut_any (l : List UInt8) (c : UInt8) (w : World) : Calls Tryz.prog 185 #[.string (str l), .string (str [c])] w fun e w' => e = .returned (.tuple #[.string (str (cutOne l c)), .bool (hasOne l c)]) ∧ w' = w := by
  go_enter Tryz.func185, Tryz.ntmps185
  go_wp2_with (go_at_call 204; refine (cut_lite l c w).mono ?_; rintro e w' ⟨rfl, rfl⟩)
  go_ret2
  exact ⟨rfl, rfl⟩

end Go.Proofs.YtildemmkhndhjaaGreatDoor
namespace Go.Proofs.YtildemmkhndhjaaGreatDoor
open Go.RowKit

/-- As Q; by a goto to label l: J l. -/
def Exit.jumps (J : Nat → Act → World → Prop) (Q : Exit → Act → World → Prop) : Exit → Act → World → Prop
  | .goto l, a, w => J l a w
  | e, a, w => Q e a w

theorem wp_scope_multi {P : Program} {a : Act} {w : World} {Q : Exit → Act → World → Prop} {c : Code} (J : Nat → Act → World → Prop) (μ : Nat → Act → World → Nat)
    (pass : ∀ l a w, J l a w → ∃ rest, findLabel c l = some (.seq .skip rest) ∧ rest.wp P (Exit.jumps (fun l' a' w' => J l' a' w' ∧ μ l' a' w' < μ l a w) Q) a w)
    (first : (∀ l a w rest, findLabel c l = some (.seq .skip rest) → J l a w → rest.wp P (Exit.jumps J Q) a w) → c.wp P (Exit.jumps J Q) a w) : (Code.scope c).wp P Q a w := by
  intro b k cs
  have key : ∀ n l a w rest, findLabel c l = some rest → μ l a w = n → J l a w → ∃ e a' w', Q e a' w' ∧ Arrives P (lone (b.at a (.code rest :: .inScope c :: k)) cs w) b k cs e a' w' := by
    intro n
    induction n using Nat.strongRecOn with
    | _ n ih =>
      intro l a w rest hf hn hJ
      obtain ⟨rest', hf', hp⟩ := pass l a w hJ
      rw [hf] at hf'
      cases hf'
      have hp := wp_seq (wp_skip (Q := Exit.then (fun a w => rest'.wp P _ a w) _) hp)
      obtain ⟨e, a₁, w₁, hq, harr⟩ := hp b (.inScope c :: k) cs
      cases e with
      | normal => exact ⟨.normal, a₁, w₁, hq, Steps.trans harr (.one step_inScope)⟩
      | exit id => exact ⟨.exit id, a₁, w₁, hq, fun k' hk => harr k' (by simp [exitTo, hk])⟩
      | goto l' =>
        obtain ⟨hJ', hlt⟩ := hq
        obtain ⟨rest₂, hf₂, _⟩ := pass l' a₁ w₁ hJ'
        have hg : gotoIn l' (.inScope c :: k) = some (.code (.seq .skip rest₂) :: .inScope c :: k) := by simp [gotoIn, hf₂]
        obtain ⟨e₂, a₂, w₂, hq₂, harr₂⟩ := ih _ (by omega) l' a₁ w₁ _ hf₂ rfl hJ'
        exact ⟨e₂, a₂, w₂, hq₂, .of_steps (harr _ hg) harr₂⟩
      | ret => exact ⟨_, a₁, w₁, hq, harr⟩
      | panic ch => exact ⟨_, a₁, w₁, hq, harr⟩
      | outgrown => exact ⟨_, a₁, w₁, hq, harr⟩
  have hfirst := first fun l a w rest hf hJ => by
    obtain ⟨rest', hf', hp⟩ := pass l a w hJ
    rw [hf] at hf'
    cases hf'
    refine wp_mono hp fun e a' w' he => ?_
    cases e with
    | goto l' => exact he.1
    | _ => exact he
  obtain ⟨e, a₁, w₁, hq, harr⟩ := hfirst b (.inScope c :: k) cs
  cases e with
  | normal => exact ⟨.normal, a₁, w₁, hq, .head step_scope (Steps.trans harr (.one step_inScope))⟩
  | exit id => exact ⟨.exit id, a₁, w₁, hq, fun k' hk => .head step_scope (harr k' (by simp [exitTo, hk]))⟩
  | goto l' =>
    have hJ' : J l' a₁ w₁ := hq
    obtain ⟨rest₂, hf₂, _⟩ := pass l' a₁ w₁ hJ'
    have hg : gotoIn l' (.inScope c :: k) = some (.code (.seq .skip rest₂) :: .inScope c :: k) := by simp [gotoIn, hf₂]
    obtain ⟨e₂, a₂, w₂, hq₂, harr₂⟩ := key _ l' a₁ w₁ _ hf₂ rfl hJ'
    exact ⟨e₂, a₂, w₂, hq₂, .of_steps (.head step_scope (harr _ hg)) harr₂⟩
  | ret => exact ⟨_, a₁, w₁, hq, .of_steps (.one step_scope) harr⟩
  | panic ch => exact ⟨_, a₁, w₁, hq, .of_steps (.one step_scope) harr⟩
  | outgrown => exact ⟨_, a₁, w₁, hq, .of_steps (.one step_scope) harr⟩

/-- The same; in a pass what holds at labels with less ahead of them may be used. -/
theorem wp_scope_multi2 {P : Program} {a : Act} {w : World} {Q : Exit → Act → World → Prop} {c : Code} (J : Nat → Act → World → Prop) (μ : Nat → Act → World → Nat)
    (pass : ∀ l a w, J l a w → (∀ l' a' w' rest', μ l' a' w' < μ l a w → findLabel c l' = some (.seq .skip rest') → J l' a' w' → rest'.wp P (Exit.jumps (fun l'' a'' w'' => J l'' a'' w'' ∧ μ l'' a'' w'' < μ l a w) Q) a' w') →
      ∃ rest, findLabel c l = some (.seq .skip rest) ∧ rest.wp P (Exit.jumps (fun l' a' w' => J l' a' w' ∧ μ l' a' w' < μ l a w) Q) a w)
    (first : (∀ l a w rest, findLabel c l = some (.seq .skip rest) → J l a w → rest.wp P (Exit.jumps J Q) a w) → c.wp P (Exit.jumps J Q) a w) : (Code.scope c).wp P Q a w := by
  have key : ∀ n l a w, μ l a w = n → J l a w → ∃ rest, findLabel c l = some (.seq .skip rest) ∧ rest.wp P (Exit.jumps (fun l' a' w' => J l' a' w' ∧ μ l' a' w' < μ l a w) Q) a w := by
    intro n
    induction n using Nat.strongRecOn with
    | _ n ih =>
      intro l a w hn hJ
      refine pass l a w hJ fun l' a' w' rest' hlt hf hJ' => ?_
      obtain ⟨rest₂, hf₂, hp⟩ := ih _ (by omega) l' a' w' rfl hJ'
      rw [hf] at hf₂
      cases hf₂
      refine wp_mono hp fun e a₁ w₁ he => ?_
      cases e with
      | goto l'' => exact ⟨he.1, by have := he.2; omega⟩
      | _ => exact he
  exact wp_scope_multi J μ (fun l a w hJ => key _ l a w rfl hJ) first

end Go.Proofs.YtildemmkhndhjaaGreatDoor
