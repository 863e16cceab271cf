/-
  What the proof leans on, part 4 of 28. The conditions stand in each theorem.
-/
import Derived.Test.YtildemmkhndhjaaGreatDoorB03
import Derived.Test.YtildemmkhndhjaaGreatDoorB02
import Derived.WalkMore
import Derived.ScopeJumps
namespace Go.Proofs.YtildemmkhndhjaaGreatDoor
open Go.RowKit

theorem elByte : ElT 5 (.int .u8 0) 1 1 := ⟨by kernel_rfl, rfl, by decide, by decide⟩
theorem elIn : ElT 250 (.agg #[.int .i64 0, .int .i64 0, .int .i64 0, .int .i64 0]) 4 32 := ⟨by kernel_rfl, rfl, by decide, by decide⟩

/-- Behind an append to a row of the call's own nothing elder has turned. -/
theorem Appd.next {w0 w w' : World} {e : TypeId} {k : Nat} {ao ao' : Option Addr} {m n' cap cap' : Nat} {xs ys : List Value} (h : Appd w w' w0.heap.size e k ao ao' m n' cap' ys) (hown : w.ownsRow w0.heap.size e k (.slice ao m cap) m xs) (ho : Only [] w0 w) : Only [] w0 w' := by
 refine ho.next h.only fun x hx => ?_
 cases ao with
 | none => simp [Value.ownBlock] at hx
 | some q =>
  simp [Value.ownBlock] at hx
  subst hx
  exact ((RS.of_owns hown).2.2.2.2 q rfl).1

/-- A block that is not a row's. -/
theorem block_not {ao : Option Addr} {m : Nat} {b : Nat} (hb : ∀ a, ao = some a → b ≠ a.block) : b ∉ (Value.ownBlock (.slice ao m 0)).toList := by
 cases ao with
 | none => simp [Value.ownBlock]
 | some q => simpa [Value.ownBlock] using hb q rfl

/-- An instruction in memory. -/
structure InAt (w : World) (b off : Nat) (i : In) : Prop where
 c0 : w.cell? ⟨b, off, none⟩ = some (.int .i64 i.1)
 c1 : w.cell? ⟨b, off + 1, none⟩ = some (.int .i64 i.2.1)
 c2 : w.cell? ⟨b, off + 2, none⟩ = some (.int .i64 i.2.2.1)
 c3 : w.cell? ⟨b, off + 3, none⟩ = some (.int .i64 i.2.2.2)

theorem InAt.lt {w : World} {b off : Nat} {i : In} (h : InAt w b off i) : b < w.heap.size := World.block_lt_of_cell? w _ h.c0

theorem InAt.only {w w' : World} {S : List Nat} {b off : Nat} {i : In} (h : InAt w b off i) (ho : Only S w w') (hb : b ∉ S) : InAt w' b off i := by
 have hl := h.lt
 exact ⟨by rw [ho.cell hl hb]; exact h.c0, by rw [ho.cell hl hb]; exact h.c1, by rw [ho.cell hl hb]; exact h.c2, by rw [ho.cell hl hb]; exact h.c3⟩

theorem InAt.alloc {w : World} {b off : Nat} {i : In} (h : InAt w b off i) (o : Obj) : InAt (w.alloc o) b off i := h.only ((Only.refl [] w).alloc o) (by simp)

theorem inAt_new (w : World) (a op n s : Int) (t : TypeId) : InAt (w.alloc (.cells #[.int .i64 a, .int .i64 op, .int .i64 n, .int .i64 s] t)) w.heap.size 0 (a, op, n, s) :=
 ⟨by rw [cell_new]; rfl, by rw [cell_new]; rfl, by rw [cell_new]; rfl, by rw [cell_new]; rfl⟩

/-- One of a row. -/
theorem RS.inAt {w : World} {ao : Option Addr} {l : List In} {d : Nat} (h : RS w ao (qcs l) d) {j : Nat} (hj : j < l.length) : ∃ off, ao = some ⟨d, off, none⟩ ∧ InAt w d (off + j * 4) l[j] := by
 obtain ⟨off, ha, hc⟩ := h.at (j := j * 4) (by rw [qcs_length]; omega)
 obtain ⟨g0, g1, g2, g3⟩ := qcs_get l j hj
 exact ⟨off, ha, by simpa [Nat.add_assoc] using hc _ _ g0, by simpa [Nat.add_assoc] using hc _ _ g1, by simpa [Nat.add_assoc] using hc _ _ g2, by simpa [Nat.add_assoc] using hc _ _ g3⟩

/-- One byte of a row. -/
theorem RS.byteAt {w : World} {ao : Option Addr} {l : List UInt8} {d : Nat} (h : RS w ao (bcs l) d) {j : Nat} (hj : j < l.length) : ∃ off, ao = some ⟨d, off, none⟩ ∧ w.cell? ⟨d, off + j, none⟩ = some (.int .u8 (l[j].toNat : Int)) := by
 obtain ⟨off, ha, hc⟩ := h.at (j := j) (by rw [bcs_length]; omega)
 exact ⟨off, ha, hc j _ (bcs_get l j hj)⟩

theorem rows_in (w : World) (a op n s : Int) {b : Nat} (hb : b = w.heap.size) : RS (w.alloc (.cells #[.int .i64 a, .int .i64 op, .int .i64 n, .int .i64 s] 250)) (some ⟨b, 0, none⟩) (qcs [(a, op, n, s)]) b := by subst hb; exact RS.fresh w _ _

/-- An entry: its kind, its text, its number, its three entries. -/
abbrev En := Int × List UInt8 × Int × Int × Int × Int
def enV (e : En) : Value := .agg #[.int .i64 e.1, .string (str e.2.1), .int .i64 e.2.2.1, .int .i64 e.2.2.2.1, .int .i64 e.2.2.2.2.1, .int .i64 e.2.2.2.2.2]
def en0 : En := (0, [], 0, 0, 0, 0)

/-- Entries as cells. -/
def ecs : List En → List Value
 | [] => []
 | e :: l => .int .i64 e.1 :: .string (str e.2.1) :: .int .i64 e.2.2.1 :: .int .i64 e.2.2.2.1 :: .int .i64 e.2.2.2.2.1 :: .int .i64 e.2.2.2.2.2 :: ecs l

theorem ecs_append (a b : List En) : ecs (a ++ b) = ecs a ++ ecs b := by
 induction a with
 | nil => rfl
 | cons e l ih => simp [ecs, ih]

theorem ecs_one (l : List En) : ∀ u ∈ ecs l, u.oneCell' = true := by
 induction l with
 | nil => simp [ecs]
 | cons t l ih =>
  intro u hu
  simp [ecs] at hu
  rcases hu with rfl | rfl | rfl | rfl | rfl | rfl | hu
  ·rfl
  ·rfl
  ·rfl
  ·rfl
  ·rfl
  ·rfl
  ·exact ih u hu

theorem ecs_get (l : List En) (j : Nat) (h : j < l.length) : (ecs l)[j * 6]? = some (.int .i64 l[j].1) ∧ (ecs l)[j * 6 + 1]? = some (.string (str l[j].2.1)) ∧ (ecs l)[j * 6 + 2]? = some (.int .i64 l[j].2.2.1) ∧ (ecs l)[j * 6 + 3]? = some (.int .i64 l[j].2.2.2.1) ∧ (ecs l)[j * 6 + 4]? = some (.int .i64 l[j].2.2.2.2.1) ∧ (ecs l)[j * 6 + 5]? = some (.int .i64 l[j].2.2.2.2.2) := by
 induction l generalizing j with
 | nil => simp at h
 | cons t l ih =>
  cases j with
  | zero => exact ⟨rfl, rfl, rfl, rfl, rfl, rfl⟩
  | succ j =>
   have := ih j (by simpa using h)
   simp only [ecs, Nat.add_mul, Nat.one_mul, List.getElem_cons_succ]
   exact this

/-- An entry in memory. -/
structure EnAt (w : World) (b off : Nat) (e : En) : Prop where
 c0 : w.cell? ⟨b, off, none⟩ = some (.int .i64 e.1)
 c1 : w.cell? ⟨b, off + 1, none⟩ = some (.string (str e.2.1))
 c2 : w.cell? ⟨b, off + 2, none⟩ = some (.int .i64 e.2.2.1)
 c3 : w.cell? ⟨b, off + 3, none⟩ = some (.int .i64 e.2.2.2.1)
 c4 : w.cell? ⟨b, off + 4, none⟩ = some (.int .i64 e.2.2.2.2.1)
 c5 : w.cell? ⟨b, off + 5, none⟩ = some (.int .i64 e.2.2.2.2.2)

theorem EnAt.lt {w : World} {b off : Nat} {e : En} (h : EnAt w b off e) : b < w.heap.size := World.block_lt_of_cell? w _ h.c0

theorem EnAt.only {w w' : World} {S : List Nat} {b off : Nat} {e : En} (h : EnAt w b off e) (ho : Only S w w') (hb : b ∉ S) : EnAt w' b off e := by
 have hl := h.lt
 exact ⟨by rw [ho.cell hl hb]; exact h.c0, by rw [ho.cell hl hb]; exact h.c1, by rw [ho.cell hl hb]; exact h.c2, by rw [ho.cell hl hb]; exact h.c3, by rw [ho.cell hl hb]; exact h.c4, by rw [ho.cell hl hb]; exact h.c5⟩

theorem enAt_new (w : World) (e : En) (t : TypeId) : EnAt (w.alloc (.cells #[.int .i64 e.1, .string (str e.2.1), .int .i64 e.2.2.1, .int .i64 e.2.2.2.1, .int .i64 e.2.2.2.2.1, .int .i64 e.2.2.2.2.2] t)) w.heap.size 0 e :=
 ⟨by rw [cell_new]; rfl, by rw [cell_new]; rfl, by rw [cell_new]; rfl, by rw [cell_new]; rfl, by rw [cell_new]; rfl, by rw [cell_new]; rfl⟩

/-- Where the entries of a slice lie that is read: nowhere, if there are none; else in block d, one behind the other. -/
def ES (w : World) (ao : Option Addr) (l : List En) (d : Nat) : Prop :=
 l = [] ∨ ∃ off, ao = some ⟨d, off, none⟩ ∧ ∀ j (h : j < l.length), EnAt w d (off + j * 6) l[j]

theorem ES.only {w w' : World} {S : List Nat} {ao : Option Addr} {l : List En} {d : Nat} (h : ES w ao l d) (ho : Only S w w') (hn : l ≠ [] → d ∉ S) : ES w' ao l d := by
 rcases h with h | ⟨off, ha, hc⟩
 ·exact .inl h
 ·by_cases hb : l = []
  ·exact .inl hb
  exact .inr ⟨off, ha, fun j hj => (hc j hj).only ho (hn hb)⟩

theorem neq_entry (a b : En) (w : World) : (binOp .neq 90 (enV a) (enV b)).run Tryz.prog w = .ok (.bool (!decide (a = b))) w := by
 obtain ⟨k, t, n, x, y, z⟩ := a
 obtain ⟨k', t', n', x', y', z'⟩ := b
 have hS : Tryz.prog.underlying 90 = some (.struct (Tryz.prog.fieldsOf 90)) := by kernel_rfl
 have hp : Tryz.prog.stoodInHeld 90 = false := by kernel_rfl
 simp only [enV]
 rw [run_neq_struct, show (10000 : Nat) = 9999 + 1 from rfl, run_equalIn_agg w 9999 90 _ _ hS hp]
 simp only [Program.fieldsOf, Tryz.underlying90]
 go_simp
 simp only [str_toList]
 by_cases h1 : k = k' <;> by_cases h2 : t = t' <;> by_cases h3 : n = n' <;> by_cases h4 : x = x' <;> by_cases h5 : y = y' <;> by_cases h6 : z = z' <;> simp [h1, h2, h3, h4, h5, h6]

set_option maxRecDepth 100000 in
theorem index_lite (l : List UInt8) (c : UInt8) (w : World) : Calls Tryz.prog 221 #[.string (str l), .int .u8 (c.toNat : Int)] w fun e w' => e = .returned (.int .i64 (Lib.indexByte l c)) ∧ w' = w := by
 go_enter Tryz.func221, Tryz.ntmps221
 go_wp2
 rw [run_callFunc_extern Tryz.func233 (by kernel_rfl) (by kernel_rfl) (by kernel_rfl) (e := Extern.BytealgIndexByte.indexByte) (by kernel_rfl), Lib.run_indexByteString]
 simp only [Result.andThen]
 rw [Oper.upon_value]
 go_wp2
 go_ret
 simp [str_data]

theorem index_any (l : List UInt8) (c : UInt8) (w : World) : Calls Tryz.prog 203 #[.string (str l), .int .u8 (c.toNat : Int)] w fun e w' => e = .returned (.int .i64 (Lib.indexByte l c)) ∧ w' = w := by
 go_enter Tryz.func203, Tryz.ntmps203
 go_wp2_with (go_at_call 221; refine (index_lite l c w).mono ?_; rintro e w' ⟨rfl, rfl⟩)
 go_ret
 exact ⟨rfl, rfl⟩

def hasOne (l : List UInt8) (c : UInt8) : Bool := match l with | [] => false | a :: _ => decide (a = c)
def cutOne (l : List UInt8) (c : UInt8) : List UInt8 := if hasOne l c then l.drop 1 else l

theorem has_lite (l : List UInt8) (c : UInt8) (w : World) : Calls Tryz.prog 205 #[.string (str l), .string (str [c])] w fun e w' => e = .returned (.bool (hasOne l c)) ∧ w' = w := by
 have hs := str_size l
 have h1 := str_size [c]
 have ht := str_toList [c]
 have he : (str l).extract 0 1 = str (l.take 1) := by rw [str_extract]; simp
 have ht2 := str_toList (l.take 1)
 cases l with
 | nil =>
  go_enter Tryz.func205, Tryz.ntmps205
  go_wp2
  go_ret
  simp [hasOne]
 | cons a t =>
  have hr := run_part (a :: t) 0 1 (by omega) (by simp)
  simp at hr hs ht2
  go_enter Tryz.func205, Tryz.ntmps205
  go_wp2
  go_ret
  by_cases h : a = c <;> simp [hasOne, h]

theorem has_any (l : List UInt8) (c : UInt8) (w : World) : Calls Tryz.prog 186 #[.string (str l), .string (str [c])] w fun e w' => e = .returned (.bool (hasOne l c)) ∧ w' = w := by
 go_enter Tryz.func186, Tryz.ntmps186
 go_wp2_with (go_at_call 205; refine (has_lite l c w).mono ?_; rintro e w' ⟨rfl, rfl⟩)
 go_ret
 exact ⟨rfl, rfl⟩

theorem cut_lite (l : List UInt8) (c : UInt8) (w : World) : Calls Tryz.prog 204 #[.string (str l), .string (str [c])] w fun e w' => e = .returned (.tuple #[.string (str (cutOne l c)), .bool (hasOne l c)]) ∧ w' = w := by
 have HL := hid (has_lite l c w)
 have h1 := str_size [c]
 cases h : hasOne l c with
 | false =>
  rw [h] at HL
  go_enter Tryz.func204, Tryz.ntmps204
  go_wp2_with (go_at_call 205; refine HL.out.mono ?_; rintro e w' ⟨rfl, rfl⟩)
  go_ret2
  simp [cutOne, h]
 | true =>
  rw [h] at HL
  have hp : 1 ≤ l.length := by cases l <;> simp_all [hasOne]
  have hr := run_from l 1 hp
  rw [show ((1 : Nat) : Int) = 1 from rfl] at hr
  simp at h1
  go_enter Tryz.func204, Tryz.ntmps204
  go_wp2_with (go_at_call 205; refine HL.out.mono ?_; rintro e w' ⟨rfl, rfl⟩)
  go_ret2
  simp [cutOne, h]

theorem cut_any (l : List UInt8) (c : UInt8) (w : World) : Calls Tryz.prog 185 #[.string (str l), .string (str [c])] w fun e w' => e = .returned (.tuple #[.string (str (cutOne l c)), .bool (hasOne l c)]) ∧ w' = w := by
 go_enter Tryz.func185, Tryz.ntmps185
 go_wp2_with (go_at_call 204; refine (cut_lite l c w).mono ?_; rintro e w' ⟨rfl, rfl⟩)
 go_ret2
 exact ⟨rfl, rfl⟩

/-- As Q; by a goto to label l: J l. -/
def Exit.jumps (J : Nat → Act → World → Prop) (Q : Exit → Act → World → Prop) : Exit → Act → World → Prop
 | .goto l, a, w => J l a w
 | e, a, w => Q e a w

theorem wp_scope_multi {P : Program} {a : Act} {w : World} {Q : Exit → Act → World → Prop} {c : Code} (J : Nat → Act → World → Prop) (μ : Nat → Act → World → Nat)
  (pass : ∀ l a w, J l a w → ∃ rest, findLabel c l = some (.seq .skip rest) ∧ rest.wp P (Exit.jumps (fun l' a' w' => J l' a' w' ∧ μ l' a' w' < μ l a w) Q) a w)
  (first : (∀ l a w rest, findLabel c l = some (.seq .skip rest) → J l a w → rest.wp P (Exit.jumps J Q) a w) → c.wp P (Exit.jumps J Q) a w) : (Code.scope c).wp P Q a w := by
 intro b k cs
 have key : ∀ n l a w rest, findLabel c l = some rest → μ l a w = n → J l a w → ∃ e a' w', Q e a' w' ∧ Arrives P (lone (b.at a (.code rest :: .inScope c :: k)) cs w) b k cs e a' w' := by
  intro n
  induction n using Nat.strongRecOn with
  | _ n ih =>
   intro l a w rest hf hn hJ
   obtain ⟨rest', hf', hp⟩ := pass l a w hJ
   rw [hf] at hf'
   cases hf'
   have hp := wp_seq (wp_skip (Q := Exit.then (fun a w => rest'.wp P _ a w) _) hp)
   obtain ⟨e, a₁, w₁, hq, harr⟩ := hp b (.inScope c :: k) cs
   cases e with
   | normal => exact ⟨.normal, a₁, w₁, hq, Steps.trans harr (.one step_inScope)⟩
   | exit id => exact ⟨.exit id, a₁, w₁, hq, fun k' hk => harr k' (by simp [exitTo, hk])⟩
   | goto l' =>
    obtain ⟨hJ', hlt⟩ := hq
    obtain ⟨rest₂, hf₂, _⟩ := pass l' a₁ w₁ hJ'
    have hg : gotoIn l' (.inScope c :: k) = some (.code (.seq .skip rest₂) :: .inScope c :: k) := by simp [gotoIn, hf₂]
    obtain ⟨e₂, a₂, w₂, hq₂, harr₂⟩ := ih _ (by omega) l' a₁ w₁ _ hf₂ rfl hJ'
    exact ⟨e₂, a₂, w₂, hq₂, .of_steps (harr _ hg) harr₂⟩
   | ret => exact ⟨_, a₁, w₁, hq, harr⟩
   | panic ch => exact ⟨_, a₁, w₁, hq, harr⟩
   | outgrown => exact ⟨_, a₁, w₁, hq, harr⟩
 have hfirst := first fun l a w rest hf hJ => by
  obtain ⟨rest', hf', hp⟩ := pass l a w hJ
  rw [hf] at hf'
  cases hf'
  refine wp_mono hp fun e a' w' he => ?_
  cases e with
  | goto l' => exact he.1
  | _ => exact he
 obtain ⟨e, a₁, w₁, hq, harr⟩ := hfirst b (.inScope c :: k) cs
 cases e with
 | normal => exact ⟨.normal, a₁, w₁, hq, .head step_scope (Steps.trans harr (.one step_inScope))⟩
 | exit id => exact ⟨.exit id, a₁, w₁, hq, fun k' hk => .head step_scope (harr k' (by simp [exitTo, hk]))⟩
 | goto l' =>
  have hJ' : J l' a₁ w₁ := hq
  obtain ⟨rest₂, hf₂, _⟩ := pass l' a₁ w₁ hJ'
  have hg : gotoIn l' (.inScope c :: k) = some (.code (.seq .skip rest₂) :: .inScope c :: k) := by simp [gotoIn, hf₂]
  obtain ⟨e₂, a₂, w₂, hq₂, harr₂⟩ := key _ l' a₁ w₁ _ hf₂ rfl hJ'
  exact ⟨e₂, a₂, w₂, hq₂, .of_steps (.head step_scope (harr _ hg)) harr₂⟩
 | ret => exact ⟨_, a₁, w₁, hq, .of_steps (.one step_scope) harr⟩
 | panic ch => exact ⟨_, a₁, w₁, hq, .of_steps (.one step_scope) harr⟩
 | outgrown => exact ⟨_, a₁, w₁, hq, .of_steps (.one step_scope) harr⟩

/-- The same; in a pass what holds at labels with less ahead of them may be used. -/
theorem wp_scope_multi2 {P : Program} {a : Act} {w : World} {Q : Exit → Act → World → Prop} {c : Code} (J : Nat → Act → World → Prop) (μ : Nat → Act → World → Nat)
  (pass : ∀ l a w, J l a w → (∀ l' a' w' rest', μ l' a' w' < μ l a w → findLabel c l' = some (.seq .skip rest') → J l' a' w' → rest'.wp P (Exit.jumps (fun l'' a'' w'' => J l'' a'' w'' ∧ μ l'' a'' w'' < μ l a w) Q) a' w') →
   ∃ rest, findLabel c l = some (.seq .skip rest) ∧ rest.wp P (Exit.jumps (fun l' a' w' => J l' a' w' ∧ μ l' a' w' < μ l a w) Q) a w)
  (first : (∀ l a w rest, findLabel c l = some (.seq .skip rest) → J l a w → rest.wp P (Exit.jumps J Q) a w) → c.wp P (Exit.jumps J Q) a w) : (Code.scope c).wp P Q a w := by
 have key : ∀ n l a w, μ l a w = n → J l a w → ∃ rest, findLabel c l = some (.seq .skip rest) ∧ rest.wp P (Exit.jumps (fun l' a' w' => J l' a' w' ∧ μ l' a' w' < μ l a w) Q) a w := by
  intro n
  induction n using Nat.strongRecOn with
  | _ n ih =>
   intro l a w hn hJ
   refine pass l a w hJ fun l' a' w' rest' hlt hf hJ' => ?_
   obtain ⟨rest₂, hf₂, hp⟩ := ih _ (by omega) l' a' w' rfl hJ'
   rw [hf] at hf₂
   cases hf₂
   refine wp_mono hp fun e a₁ w₁ he => ?_
   cases e with
   | goto l'' => exact ⟨he.1, by have := he.2; omega⟩
   | _ => exact he
 exact wp_scope_multi J μ (fun l a w hJ => key _ l a w rfl hJ) first

/-- A class's name, and what stands behind it. -/
def classP (n : Nat) (t : List UInt8) : Option (Ty × List UInt8) :=
 if t.dropWhile (· != 59) = [] ∨ nameOK (t.takeWhile (· != 59)) = false then none else some (((n : Int), t.takeWhile (· != 59)), (t.dropWhile (· != 59)).drop 1)

/-- The type with which a text begins behind n opening brackets. -/
def firstP : Nat → List UInt8 → Option (Ty × List UInt8)
 | _, [] => none
 | n, c :: t => if 8 < n then none else if c = 91 then firstP (n + 1) t else if c = 73 then some (((n : Int), []), t) else if c = 76 then classP n t else none

def firstR (l : List UInt8) : Ty × List UInt8 × Bool := match firstP 0 l with | some (t, rest) => (t, rest, true) | none => ((0, []), [], false)

theorem index_semi (t : List UInt8) : Lib.indexByte t 59 = if t.dropWhile (· != 59) = [] then -1 else ((t.takeWhile (· != 59)).length : Int) := by
 induction t with
 | nil => rfl
 | cons a t ih =>
  unfold Lib.indexByte
  by_cases h : a = 59
  ·simp [h]
  ·have h1 : (a == 59) = false := by simpa using h
   have h2 : (a != 59) = true := by simpa using h
   rw [h1, ih, List.dropWhile_cons_of_pos (by simpa using h2), List.takeWhile_cons_of_pos (by simpa using h2)]
   by_cases h3 : t.dropWhile (· != 59) = []
   ·simp [h3]
   ·simp only [h3, if_false, Bool.false_eq_true, List.length_cons]
    have : (((t.takeWhile (· != 59)).length : Int) == -1) = false := by rw [beq_eq_false_iff_ne]; omega
    rw [this]
    simp

theorem take_while (t : List UInt8) : t.take (t.takeWhile (· != 59)).length = t.takeWhile (· != 59) := by
 have h := List.takeWhile_append_dropWhile (p := (· != 59)) (l := t)
 generalize t.takeWhile (· != 59) = a at *
 generalize t.dropWhile (· != 59) = b at *
 rw [← h]
 simp

theorem drop_while (t : List UInt8) : t.drop (t.takeWhile (· != 59)).length = t.dropWhile (· != 59) := by
 have h := List.takeWhile_append_dropWhile (p := (· != 59)) (l := t)
 generalize t.takeWhile (· != 59) = a at *
 generalize t.dropWhile (· != 59) = b at *
 rw [← h]
 simp

theorem while_le (t : List UInt8) : (t.takeWhile (· != 59)).length + (t.dropWhile (· != 59)).length = t.length := by
 have h := List.takeWhile_append_dropWhile (p := (· != 59)) (l := t)
 generalize t.takeWhile (· != 59) = a at *
 generalize t.dropWhile (· != 59) = b at *
 rw [← h]
 simp

/-- A type in block b. -/
structure TyAt (w : World) (b : Nat) (t : Ty) : Prop where
 c0 : w.cell? ⟨b, 0, none⟩ = some (.int .i64 t.1)
 c1 : w.cell? ⟨b, 1, none⟩ = some (.string (str t.2))
 f0 : w.frozen? ⟨b, 0, none⟩ = false
 f1 : w.frozen? ⟨b, 1, none⟩ = false

def strLen : Value → Nat | .string s => s.size | _ => 0

/-- What holds at each label. -/
def FJ (w : World) (l : List UInt8) : Nat → Act → World → Prop
 | 1, a, w' => ∃ (n : Nat) (l' : List UInt8) (u1 u5 u6 u7 u8 u9 u10 u11 u12 u13 u14 u15 u16 u17 u18 u19 u20 u21 u22 u23 u24 u25 u26 u27 u28 u29 u30 u31 u32 u33 u34 u35 u36 u37 u38 u39 u40 u41 u42 u43 u44 u45 u46 u47 u48 u49 u50 : Value), a = { tmps := #[.string (str l'), u1, .pointer (some ⟨w.heap.size, 0, none⟩), .string ⟨#[]⟩, .bool false, u5, u6, u7, u8, u9, u10, u11, u12, u13, u14, u15, u16, u17, u18, u19, u20, u21, u22, u23, u24, u25, u26, u27, u28, u29, u30, u31, u32, u33, u34, u35, u36, u37, u38, u39, u40, u41, u42, u43, u44, u45, u46, u47, u48, u49, u50], defers := [] } ∧ TyAt w' w.heap.size ((n : Int), []) ∧ Only [] w w' ∧ firstP n l' = firstP 0 l ∧ n ≤ 9 ∧ l'.length ≤ l.length
 | 2, a, w' => ∃ (n : Nat) (l' : List UInt8) (u1 u5 u6 u7 u8 u9 u10 u11 u12 u13 u14 u15 u16 u17 u18 u19 u20 u21 u22 u23 u24 u25 u26 u27 u28 u29 u30 u31 u32 u33 u34 u35 u36 u37 u38 u39 u40 u41 u42 u43 u44 u45 u46 u47 u48 u49 u50 : Value), a = { tmps := #[.string (str (76 :: l')), u1, .pointer (some ⟨w.heap.size, 0, none⟩), .string ⟨#[]⟩, .bool false, u5, u6, u7, u8, u9, u10, u11, u12, u13, u14, u15, u16, u17, u18, u19, u20, u21, u22, u23, u24, u25, u26, u27, u28, u29, u30, u31, u32, u33, u34, u35, u36, u37, u38, u39, u40, u41, u42, u43, u44, u45, u46, u47, u48, u49, u50], defers := [] } ∧ TyAt w' w.heap.size ((n : Int), []) ∧ Only [] w w' ∧ classP n l' = firstP 0 l ∧ n ≤ 8 ∧ l'.length + 1 ≤ l.length
 | 0, a, w' => ∃ (t : Ty) (u0 u1 u3 u4 u5 u6 u7 u8 u9 u10 u11 u12 u13 u14 u15 u16 u17 u18 u19 u20 u21 u22 u23 u24 u25 u26 u27 u28 u29 u30 u31 u32 u33 u34 u35 u36 u37 u38 u39 u40 u41 u42 u43 u44 u45 u46 u47 u48 u49 u50 : Value), a = { tmps := #[u0, u1, .pointer (some ⟨w.heap.size, 0, none⟩), u3, u4, u5, u6, u7, u8, u9, u10, u11, u12, u13, u14, u15, u16, u17, u18, u19, u20, u21, u22, u23, u24, u25, u26, u27, u28, u29, u30, u31, u32, u33, u34, u35, u36, u37, u38, u39, u40, u41, u42, u43, u44, u45, u46, u47, u48, u49, u50], defers := [] } ∧ TyAt w' w.heap.size t ∧ Only [] w w' ∧ firstP 0 l = none
 | _, _, _ => False

def Fμ : Nat → Act → World → Nat
 | 1, a, _ => 2 + strLen (a.tmps.getD 0 undef)
 | 2, _, _ => 1
 | _, _, _ => 0

set_option maxHeartbeats 1000000 in
set_option maxRecDepth 100000 in
theorem first_any (l : List UInt8) (hl : l.length ≤ 9223372036854775807) (w : World) : Calls Tryz.prog 184 #[.string (str l)] w fun e w' => e = .returned (.tuple #[tyV (firstR l).1, .string (str (firstR l).2.1), .bool (firstR l).2.2]) ∧ Only [] w w' := by
 go_enter Tryz.func184, Tryz.ntmps184
 go_wp2
 refine wp_scope_multi (FJ w l) Fμ ?_ ?_
 ·intro lb a w' hJ
  obtain _ | _ | _ | lb := lb
  ·
   obtain ⟨t, u0, u1, u3, u4, u5, u6, u7, u8, u9, u10, u11, u12, u13, u14, u15, u16, u17, u18, u19, u20, u21, u22, u23, u24, u25, u26, u27, u28, u29, u30, u31, u32, u33, u34, u35, u36, u37, u38, u39, u40, u41, u42, u43, u44, u45, u46, u47, u48, u49, u50, rfl, hT, hO, hR⟩ := hJ
   refine ⟨_, rfl, ?_⟩
   obtain ⟨c0, c1, f0, f1⟩ := hT
   go_wp2
   obtain ⟨d0, d1⟩ := put2 (.int .i64 0) (.string ⟨#[]⟩) c0 c1 (by omega)
   simp only [Exit.jumps]
   refine bodyPost_ret (v := .tuple #[.agg #[.int .i64 0, .string ⟨#[]⟩], .string ⟨#[]⟩, .bool false]) (by simp [results, Tryz.results184, go_sem, d0, d1]) rfl ⟨?_, (hO.setCell (.inr (by simp)) _).setCell (.inr (by simp)) _⟩
   simp [firstR, hR, tyV, str]
  ·
   obtain ⟨n, l', u1, u5, u6, u7, u8, u9, u10, u11, u12, u13, u14, u15, u16, u17, u18, u19, u20, u21, u22, u23, u24, u25, u26, u27, u28, u29, u30, u31, u32, u33, u34, u35, u36, u37, u38, u39, u40, u41, u42, u43, u44, u45, u46, u47, u48, u49, u50, rfl, hT, hO, hR, hn, hlen⟩ := hJ
   refine ⟨_, rfl, ?_⟩
   have HT := hid hT
   obtain ⟨c0, c1, f0, f1⟩ := hT
   have HR := hid hR
   clear hR
   have ht := str_toList l'
   cases l' with
   | nil =>
    go_wp2
    apply wp_goto
    refine ⟨⟨((n : Int), []), _, _, _, _, _, _, _, _, _, _, _, _, _, _, _, _, _, _, _, _, _, _, _, _, _, _, _, _, _, _, _, _, _, _, _, _, _, _, _, _, _, _, _, _, _, _, _, _, _, _, rfl, HT.out, hO, ?_⟩, ?_⟩
    ·rw [← HR.out]
     rfl
    ·show 0 < 2 + _
     omega
   | cons c t =>
    have hcz : ¬ ((c :: t) = []) := by simp
    by_cases hn8 : 8 < n
    ·have g8 : (8 < (n : Int)) := by omega
     go_wp2
     apply wp_goto
     refine ⟨⟨((n : Int), []), _, _, _, _, _, _, _, _, _, _, _, _, _, _, _, _, _, _, _, _, _, _, _, _, _, _, _, _, _, _, _, _, _, _, _, _, _, _, _, _, _, _, _, _, _, _, _, _, _, _, rfl, HT.out, hO, ?_⟩, ?_⟩
     ·rw [← HR.out]
      simp [firstP, hn8]
     ·show 0 < 2 + _
      omega
    have g8 : ¬ (8 < (n : Int)) := by omega
    have ha := run_at (c :: t) 0 (by simp)
    rw [show ((0 : Nat) : Int) = 0 from rfl, List.getElem_cons_zero] at ha
    have hr := run_from (c :: t) 1 (by simp)
    rw [show ((1 : Nat) : Int) = 1 from rfl, List.drop_one, List.tail_cons] at hr
    by_cases h91 : c = 91
    ·subst h91
     have e1 : (91 : UInt8).toNat = 91 := rfl
     go_wp2
     apply wp_goto
     refine ⟨⟨n + 1, t, _, _, _, _, _, _, _, _, _, _, _, _, _, _, _, _, _, _, _, _, _, _, _, _, _, _, _, _, _, _, _, _, _, _, _, _, _, _, _, _, _, _, _, _, _, _, _, rfl, ⟨?_, ?_, ?_, ?_⟩, hO.setCell (.inr (by simp)) _, ?_, by omega, ?_⟩, ?_⟩
     ·rw [cell_setCell_same _ _ c0]
      rfl
     ·rw [cell_setCell_ne _ _ (by simp)]
      exact c1
     ·rw [frozen_setCell]
      exact f0
     ·rw [frozen_setCell]
      exact f1
     ·rw [← HR.out]
      simp [firstP, hn8]
     ·simp at hlen
      omega
     ·show 2 + strLen (.string (str t)) < 2 + strLen (.string (str (91 :: t)))
      simp [strLen, str_size]
    have k91 : ¬ ((c.toNat : Int) = 91) := fun e => h91 (UInt8.toNat_inj.1 (by simpa using Int.ofNat_inj.1 e))
    by_cases h73 : c = 73
    ·subst h73
     have e1 : (73 : UInt8).toNat = 73 := rfl
     go_wp2
     go_region
     all_goals
      go_wp2
      obtain ⟨d0, d1⟩ := put2 (.int .i64 (n : Int)) (.string (str [])) c0 c1 (by omega)
      simp only [Exit.jumps]
      refine bodyPost_ret (v := .tuple #[.agg #[.int .i64 (n : Int), .string (str [])], .string (str t), .bool true]) (by simp [results, Tryz.results184, go_sem, d0, d1]) rfl ⟨?_, ((hO.setCell (.inr (by simp)) _).setCell (.inr (by simp)) _).drew⟩
      have hq : firstP 0 l = some (((n : Int), []), t) := by
       rw [← HR.out]
       simp [firstP, hn8]
      simp [firstR, hq, tyV]
    have k73 : ¬ ((c.toNat : Int) = 73) := fun e => h73 (UInt8.toNat_inj.1 (by simpa using Int.ofNat_inj.1 e))
    by_cases h76 : c = 76
    ·subst h76
     have e1 : (76 : UInt8).toNat = 76 := rfl
     go_wp2
     apply wp_goto
     refine ⟨⟨n, t, _, _, _, _, _, _, _, _, _, _, _, _, _, _, _, _, _, _, _, _, _, _, _, _, _, _, _, _, _, _, _, _, _, _, _, _, _, _, _, _, _, _, _, _, _, _, _, rfl, HT.out, hO, ?_, by omega, ?_⟩, ?_⟩
     ·rw [← HR.out]
      simp [firstP, hn8]
     ·simpa using hlen
     ·show 1 < 2 + _
      omega
    have k76 : ¬ ((c.toNat : Int) = 76) := fun e => h76 (UInt8.toNat_inj.1 (by simpa using Int.ofNat_inj.1 e))
    go_wp2
    apply wp_goto
    refine ⟨⟨((n : Int), []), _, _, _, _, _, _, _, _, _, _, _, _, _, _, _, _, _, _, _, _, _, _, _, _, _, _, _, _, _, _, _, _, _, _, _, _, _, _, _, _, _, _, _, _, _, _, _, _, _, _, rfl, HT.out, hO, ?_⟩, ?_⟩
    ·rw [← HR.out]
     simp [firstP, h91, h73, h76]
    ·show 0 < 2 + _
     omega
  ·
   obtain ⟨n, l', u1, u5, u6, u7, u8, u9, u10, u11, u12, u13, u14, u15, u16, u17, u18, u19, u20, u21, u22, u23, u24, u25, u26, u27, u28, u29, u30, u31, u32, u33, u34, u35, u36, u37, u38, u39, u40, u41, u42, u43, u44, u45, u46, u47, u48, u49, u50, rfl, hT, hO, hR, hn, hlen⟩ := hJ
   refine ⟨_, rfl, ?_⟩
   have HT := hid hT
   obtain ⟨c0, c1, f0, f1⟩ := hT
   have HR := hid hR
   clear hR
   have HI := hid (index_any (76 :: l') 59 w')
   have hix : Lib.indexByte (76 :: l') 59 = if l'.dropWhile (· != 59) = [] then -1 else (((l'.takeWhile (· != 59)).length : Int) + 1) := by
    unfold Lib.indexByte
    rw [index_semi]
    by_cases hz : l'.dropWhile (· != 59) = []
    ·rw [if_pos hz, if_pos hz]
     rfl
    ·rw [if_neg hz, if_neg hz]
     have : (((l'.takeWhile (· != 59)).length : Int) == -1) = false := by rw [beq_eq_false_iff_ne]; omega
     rw [this]
     rfl
   have hwl := while_le l'
   have htw := take_while l'
   have hdw := drop_while l'
   rw [hix] at HI
   by_cases hz : l'.dropWhile (· != 59) = []
   ·rw [if_pos hz] at HI
    go_wp2_with (go_at_call 203; refine HI.out.mono ?_; rintro e w2 ⟨rfl, rfl⟩)
    apply wp_goto
    refine ⟨⟨((n : Int), []), _, _, _, _, _, _, _, _, _, _, _, _, _, _, _, _, _, _, _, _, _, _, _, _, _, _, _, _, _, _, _, _, _, _, _, _, _, _, _, _, _, _, _, _, _, _, _, _, _, _, rfl, HT.out, hO, ?_⟩, ?_⟩
    ·rw [← HR.out]
     simp only [classP, hz]
     simp
    ·exact Nat.one_pos
   ·rw [if_neg hz] at HI
    have hzl : 0 < (l'.dropWhile (· != 59)).length := List.length_pos_iff.2 hz
    have hk1 := run_part (76 :: l') 1 ((l'.takeWhile (· != 59)).length + 1) (by omega) (by simp; omega)
    have hk2 := run_from (76 :: l') ((l'.takeWhile (· != 59)).length + 2) (by simp; omega)
    have e1 : (76 :: l').drop ((l'.takeWhile (· != 59)).length + 2) = (l'.dropWhile (· != 59)).drop 1 := by
     rw [← hdw, List.drop_drop]
     rfl
    have HN := hid (name_any (l'.takeWhile (· != 59)) (by omega) w')
    have HC : Hid (nameOK (l'.takeWhile (· != 59)) = false → classP n l' = none) := fun h => by simp [classP, h]
    have HD : Hid (nameOK (l'.takeWhile (· != 59)) = true → classP n l' = some (((n : Int), l'.takeWhile (· != 59)), (l'.dropWhile (· != 59)).drop 1)) := fun h => by simp [classP, h, hz]
    rw [e1] at hk2
    rw [List.drop_one, List.tail_cons, Nat.add_sub_cancel, htw] at hk1
    clear htw hdw e1 hix
    generalize (l'.dropWhile (· != 59)) = R at *
    generalize (l'.takeWhile (· != 59)) = T at *
    have g0 : ¬ ((T.length : Int) + 1 < 0) := by omega
    simp only [Int.natCast_add, Int.cast_ofNat_Int] at hk1 hk2
    cases hN : nameOK T with
    | false =>
     rw [hN] at HN
     go_wp2_with (first | (go_at_call 203; refine HI.out.mono ?_; rintro e w2 ⟨rfl, rfl⟩) | (go_at_call 109; refine HN.out.mono ?_; rintro e w2 ⟨rfl, rfl⟩))
     apply wp_goto
     refine ⟨⟨((n : Int), []), _, _, _, _, _, _, _, _, _, _, _, _, _, _, _, _, _, _, _, _, _, _, _, _, _, _, _, _, _, _, _, _, _, _, _, _, _, _, _, _, _, _, _, _, _, _, _, _, _, _, rfl, HT.out, hO, ?_⟩, ?_⟩
     ·rw [← HR.out]
      exact HC.out hN
     ·exact Nat.one_pos
    | true =>
     rw [hN] at HN
     go_wp2_with (first | (go_at_call 203; refine HI.out.mono ?_; rintro e w2 ⟨rfl, rfl⟩) | (go_at_call 109; refine HN.out.mono ?_; rintro e w2 ⟨rfl, rfl⟩))
     have hk3 := hk2
     rw [show (T.length : Int) + 2 = (T.length : Int) + 1 + 1 by omega] at hk3
     go_region
     all_goals
      go_wp2
      have z0 : (w2.setCell ⟨w.heap.size, 1, none⟩ (.string (str T))).cell? ⟨w.heap.size, 0, none⟩ = some (.int .i64 (n : Int)) := by rw [cell_setCell_ne _ _ (by simp)]; exact c0
      have z1 : (w2.setCell ⟨w.heap.size, 1, none⟩ (.string (str T))).cell? ⟨w.heap.size, 1, none⟩ = some (.string (str T)) := cell_setCell_same _ _ c1
      obtain ⟨d0, d1⟩ := put2 (.int .i64 (n : Int)) (.string (str T)) z0 z1 (by omega)
      simp only [Exit.jumps]
      refine bodyPost_ret (v := .tuple #[.agg #[.int .i64 (n : Int), .string (str T)], .string (str (R.drop 1)), .bool true]) (by simp [results, Tryz.results184, go_sem, d0, d1]) rfl ⟨?_, (((hO.setCell (.inr (by simp)) _).setCell (.inr (by simp)) _).setCell (.inr (by simp)) _).drew⟩
      have hq : firstP 0 l = some (((n : Int), T), R.drop 1) := by
       rw [← HR.out]
       exact HD.out hN
      simp [firstR, hq, tyV]
  ·exact hJ.elim
 ·intro hj
  go_wp2
  apply wp_label
  rename_i hK
  refine hK _ _ (hj 1 _ _ _ rfl ⟨0, l, _, _, _, _, _, _, _, _, _, _, _, _, _, _, _, _, _, _, _, _, _, _, _, _, _, _, _, _, _, _, _, _, _, _, _, _, _, _, _, _, _, _, _, _, _, _, _, rfl, ⟨by simp, by simp; rfl, by simp, by simp⟩, (Only.refl [] w).alloc _, rfl, by omega, Nat.le_refl _⟩)

def typeR (l : List UInt8) : Ty × Int := match firstP 0 l with | some (t, []) => (t, 0) | _ => ((0, []), 15)

set_option maxHeartbeats 1000000 in
theorem type_any (l : List UInt8) (hl : l.length ≤ 9223372036854775807) (w : World) : Calls Tryz.prog 161 #[.string (str l)] w fun e w' => e = .returned (.tuple #[tyV (typeR l).1, .int .i64 (typeR l).2]) ∧ Only [] w w' := by
 have HF := hid (first_any l hl (w.alloc (.cells #[.int .i64 0, .string ⟨#[]⟩] 35)))
 cases hp : firstP 0 l with
 | none =>
  have e1 : firstR l = ((0, []), [], false) := by simp [firstR, hp]
  have e2 : typeR l = ((0, []), 15) := by simp [typeR, hp]
  rw [e1] at HF
  rw [e2]
  simp only [tyV] at HF ⊢
  go_enter Tryz.func161, Tryz.ntmps161
  go_wp2_with fail
  refine HF.out.mono ?_
  rintro e w1 ⟨rfl, ho1⟩
  have c0 : w1.cell? ⟨w.heap.size, 0, none⟩ = some (.int .i64 0) := by rw [ho1.cell (by simp) (by simp)]; simp
  have c1 : w1.cell? ⟨w.heap.size, 1, none⟩ = some (.string ⟨#[]⟩) := by rw [ho1.cell (by simp) (by simp)]; simp
  have f0 : w1.frozen? ⟨w.heap.size, 0, none⟩ = false := by rw [ho1.frozen (by simp) (by simp)]; simp
  have f1 : w1.frozen? ⟨w.heap.size, 1, none⟩ = false := by rw [ho1.frozen (by simp) (by simp)]; simp
  have hsz := ho1.size
  simp at hsz
  have o1 := ((Only.refl [] w).alloc (.cells #[.int .i64 0, .string ⟨#[]⟩] 35)).next ho1 (by simp)
  have c0' : ∀ o, (w1.alloc o).cell? ⟨w.heap.size, 0, none⟩ = some (.int .i64 0) := fun o => cell_alloc o c0
  have c1' : ∀ o, (w1.alloc o).cell? ⟨w.heap.size, 1, none⟩ = some (.string ⟨#[]⟩) := fun o => cell_alloc o c1
  have f0' : ∀ o, (w1.alloc o).frozen? ⟨w.heap.size, 0, none⟩ = false := fun o => by rw [frozen_alloc o (show w.heap.size < w1.heap.size by omega)]; exact f0
  have f1' : ∀ o, (w1.alloc o).frozen? ⟨w.heap.size, 1, none⟩ = false := fun o => by rw [frozen_alloc o (show w.heap.size < w1.heap.size by omega)]; exact f1
  go_wp2
  obtain ⟨d0, d1⟩ := put2 (.int .i64 0) (.string ⟨#[]⟩) (c0' (.cells #[.int .i64 0, .string (str [])] 35)) (c1' _) (by omega)
  refine bodyPost_ret (v := .tuple #[.agg #[.int .i64 0, .string ⟨#[]⟩], .int .i64 15]) (by simp [results, Tryz.results161, go_sem, d0, d1]) rfl ⟨rfl, ((o1.alloc _).setCell (.inr (by simp)) _).setCell (.inr (by simp)) _⟩
 | some x =>
  obtain ⟨t, r⟩ := x
  have e1 : firstR l = (t, r, true) := by simp [firstR, hp]
  have e2 : typeR l = if r = [] then (t, 0) else ((0, []), 15) := by
   simp only [typeR, hp]
   cases r <;> simp
  rw [e1] at HF
  rw [e2]
  have ht := str_toList r
  have HP := hid hp
  clear hp
  by_cases hr : r = []
  ·subst hr
   obtain ⟨d, n⟩ := t
   simp only [tyV, if_true] at HF ⊢
   go_enter Tryz.func161, Tryz.ntmps161
   go_wp2_with fail
   refine HF.out.mono ?_
   rintro e w1 ⟨rfl, ho1⟩
   have c0 : w1.cell? ⟨w.heap.size, 0, none⟩ = some (.int .i64 0) := by rw [ho1.cell (by simp) (by simp)]; simp
   have c1 : w1.cell? ⟨w.heap.size, 1, none⟩ = some (.string ⟨#[]⟩) := by rw [ho1.cell (by simp) (by simp)]; simp
   have f0 : w1.frozen? ⟨w.heap.size, 0, none⟩ = false := by rw [ho1.frozen (by simp) (by simp)]; simp
   have f1 : w1.frozen? ⟨w.heap.size, 1, none⟩ = false := by rw [ho1.frozen (by simp) (by simp)]; simp
   have hsz := ho1.size
   simp at hsz
   have o1 := ((Only.refl [] w).alloc (.cells #[.int .i64 0, .string ⟨#[]⟩] 35)).next ho1 (by simp)
   have c0' : ∀ o, (w1.alloc o).cell? ⟨w.heap.size, 0, none⟩ = some (.int .i64 0) := fun o => cell_alloc o c0
   have c1' : ∀ o, (w1.alloc o).cell? ⟨w.heap.size, 1, none⟩ = some (.string ⟨#[]⟩) := fun o => cell_alloc o c1
   have f0' : ∀ o, (w1.alloc o).frozen? ⟨w.heap.size, 0, none⟩ = false := fun o => by rw [frozen_alloc o (show w.heap.size < w1.heap.size by omega)]; exact f0
   have f1' : ∀ o, (w1.alloc o).frozen? ⟨w.heap.size, 1, none⟩ = false := fun o => by rw [frozen_alloc o (show w.heap.size < w1.heap.size by omega)]; exact f1
   go_wp2
   obtain ⟨d0, d1⟩ := put2 (.int .i64 d) (.string (str n)) (c0' (.cells #[.int .i64 d, .string (str n)] 35)) (c1' _) (by omega)
   refine bodyPost_ret (v := .tuple #[.agg #[.int .i64 d, .string (str n)], .int .i64 0]) (by simp [results, Tryz.results161, go_sem, d0, d1]) rfl ⟨rfl, ((o1.alloc _).setCell (.inr (by simp)) _).setCell (.inr (by simp)) _⟩
  ·have hri : r.isEmpty = false := by simpa using hr
   obtain ⟨d, n⟩ := t
   simp only [tyV, hr, if_false] at HF ⊢
   go_enter Tryz.func161, Tryz.ntmps161
   go_wp2_with fail
   refine HF.out.mono ?_
   rintro e w1 ⟨rfl, ho1⟩
   have c0 : w1.cell? ⟨w.heap.size, 0, none⟩ = some (.int .i64 0) := by rw [ho1.cell (by simp) (by simp)]; simp
   have c1 : w1.cell? ⟨w.heap.size, 1, none⟩ = some (.string ⟨#[]⟩) := by rw [ho1.cell (by simp) (by simp)]; simp
   have f0 : w1.frozen? ⟨w.heap.size, 0, none⟩ = false := by rw [ho1.frozen (by simp) (by simp)]; simp
   have f1 : w1.frozen? ⟨w.heap.size, 1, none⟩ = false := by rw [ho1.frozen (by simp) (by simp)]; simp
   have hsz := ho1.size
   simp at hsz
   have o1 := ((Only.refl [] w).alloc (.cells #[.int .i64 0, .string ⟨#[]⟩] 35)).next ho1 (by simp)
   have c0' : ∀ o, (w1.alloc o).cell? ⟨w.heap.size, 0, none⟩ = some (.int .i64 0) := fun o => cell_alloc o c0
   have c1' : ∀ o, (w1.alloc o).cell? ⟨w.heap.size, 1, none⟩ = some (.string ⟨#[]⟩) := fun o => cell_alloc o c1
   have f0' : ∀ o, (w1.alloc o).frozen? ⟨w.heap.size, 0, none⟩ = false := fun o => by rw [frozen_alloc o (show w.heap.size < w1.heap.size by omega)]; exact f0
   have f1' : ∀ o, (w1.alloc o).frozen? ⟨w.heap.size, 1, none⟩ = false := fun o => by rw [frozen_alloc o (show w.heap.size < w1.heap.size by omega)]; exact f1
   go_wp2
   obtain ⟨d0, d1⟩ := put2 (.int .i64 0) (.string ⟨#[]⟩) (c0' (.cells #[.int .i64 d, .string (str n)] 35)) (c1' _) (by omega)
   refine bodyPost_ret (v := .tuple #[.agg #[.int .i64 0, .string ⟨#[]⟩], .int .i64 15]) (by simp [results, Tryz.results161, go_sem, d0, d1]) rfl ⟨rfl, ((o1.alloc _).setCell (.inr (by simp)) _).setCell (.inr (by simp)) _⟩

end Go.Proofs.YtildemmkhndhjaaGreatDoor
