/-
  Calls that the runner follows: what a world without modules says of numbers' types; copies of one value. No conditions.
-/
import Derived.Test.YtjmodknbifapbaaGreatDoorRNKP
import Derived.Test.YtjmodknbifapbaaGreatDoorRN29
namespace Go.Proofs.YtjmodknbifapbaaGreatDoor
namespace Rn
open Go.RowKit

abbrev ov0 : Ov := ⟨none, none, none, 0, [], []⟩
theorem ov0_ok : OvOK Tryz.prog tb ov0 := {
  ex := fun g f h => by cases h
  wi := fun g hg => by cases hg
  cc := fun g hg => by cases hg
  kn := fun g hg => by cases hg }

section
variable {P : Program} {B : Tb} {O : Ov} {G : Plans} {φ : Fi} {h : Hp} {w : World}
/-- What stands behind a call that the runner has followed. -/
theorem ranK {f g : Nat} {args args' : List Value} {K : KV} (hB : TOK P B) (hG : PlansOK P G) (hO : OvOK P B O) (w : World) (hargs : All2 (VR fun _ => none) args args') {T : Prop} (hk0 : evCall P B O G f g args ⟨none, 1000, 0⟩ K = T) (hT : T) :
    Calls P g args'.toArray w fun e w' => ∃ φ' h' v v', e = .returned v' ∧ VR φ' v v' ∧ WR B φ' h' w' ∧ Below w.heap.size w w' ∧ K v h' := by
  have hk : evCall P B O G f g args ⟨none, 1000, 0⟩ K := Eq.mpr hk0 hT
  refine ((callN_ok hB hG (evCode_ok hB hG hO f [] [] trivial)).run (φ := fun _ => none) (wr_none w fun _ _ => rfl) trivial hargs hk).mono ?_
  rintro e w' ⟨φ', h', v, v', rfl, h1, h2, h3, h4⟩
  exact ⟨φ', h', v, v', rfl, h1, h2, st_below h3, h4⟩
/-- The same, over rows that are handed in and that nobody may write. -/
theorem ranHK {f g : Nat} {args args' : List Value} {K : KV} (hB : TOK P B) (hG : PlansOK P G) (hO : OvOK P B O) (hw : WR B φ h w) (hl : ∀ r o, tget W h.rows r = some o → r < h.low) (hargs : All2 (VR φ) args args') (hk : evCall P B O G f g args h K) :
    Calls P g args'.toArray w fun e w' => ∃ φ' h' v v', e = .returned v' ∧ VR φ' v v' ∧ WR B φ' h' w' ∧ Below w.heap.size w w' ∧ K v h' := by
  refine ((callN_ok hB hG (evCode_ok hB hG hO f [] [] trivial)).run (φ := φ) hw trivial hargs hk).mono ?_
  rintro e w' ⟨φ', h', v, v', rfl, h1, h2, h3, h4⟩
  exact ⟨φ', h', v, v', rfl, h1, h2, st_below_h hl h3, h4⟩
end

/-- The type of a number. -/
abbrev T0 : Value := .agg ⟨[.int .i64 0, .string ⟨⟨[]⟩⟩]⟩
theorem t0_vr {φ : Fi} : VR φ T0 T0 := VR.mk (v := T0) ⟨_, rfl, ⟨int_vr, trivial⟩, ⟨str_vr, trivial⟩, rfl⟩
/-- A world's answer: a number's type is below itself. -/
def built_k (v : Value) (h : Hp) : Prop := match v with
  | .tuple ⟨[.pointer (some ⟨r, o, none⟩), _, .bool true]⟩ => evCall Tryz.prog tb ov0 pl 100000 21 [.pointer (some ⟨r, o, none⟩), T0, T0] (shut h) yes
  | _ => False
theorem built_run : evCall Tryz.prog tb ov0 pl 100000 5 [.slice none 0 0] ⟨none, 1000, 0⟩ built_k = True := by kernel_rfl
theorem known_run : evCall Tryz.prog tb ov0 pl 100000 4 [] ⟨none, 1000, 0⟩ yes = True := by kernel_rfl
theorem blank_run : evCall Tryz.prog tb ov0 pl 100000 25 [T0] ⟨none, 1000, 0⟩ (tells (.agg ⟨[.bool false, .int .i64 0]⟩)) = True := by kernel_rfl

theorem known_any (w : World) : Calls Tryz.prog 4 #[] w fun e w' => e = .returned (.bool true) ∧ Below w.heap.size w w' :=
  ran (P := Tryz.prog) (B := tb) (G := pl) (f := 100000) (g := 4) (args := []) (args' := []) tok pok ov0_ok w (show All2 (VR fun _ => none) ([] : List Value) ([] : List Value) from rfl) known_run trivial
theorem blank_any (w : World) : Calls Tryz.prog 25 #[T0] w fun e w' => e = .returned (.agg #[.bool false, .int .i64 0]) ∧ Below w.heap.size w w' :=
  ranV (P := Tryz.prog) (B := tb) (G := pl) (f := 100000) (g := 25) (args := [T0]) (args' := [T0]) tok pok ov0_ok w ⟨t0_vr, rfl⟩ blank_run fun φ v hv => by
    obtain ⟨⟨ys⟩, rfl, hy⟩ := hv.inv
    match ys, hy with
    | [y0, y1], ⟨h0, h1, _⟩ =>
      have e0 : y0 = .bool false := h0.1.inv
      have e1 : y1 = .int .i64 0 := h1.1.inv
      rw [e0, e1]

/-- A world that says so of a number's type, wherever later. -/
def SubTrue (w1 : World) (p : Value) : Prop := ∀ w2 : World, w1.heap.size ≤ w2.heap.size → (∀ k, k < w1.heap.size → w2.heap[k]? = w1.heap[k]?) →
  Calls Tryz.prog 21 #[p, T0, T0] w2 fun e w' => e = .returned (.bool true) ∧ Below w2.heap.size w2 w'
theorem shut_rows {φ : Fi} {h : Hp} {w : World} (hw : WR tb φ h w) : ∀ r o, tget W (shut h).rows r = some o → r < (shut h).low := fun r o ho => by
  obtain ⟨rows, next, low⟩ := h
  exact (hw.live r o ho).1
theorem built_any (w : World) : Calls Tryz.prog 5 #[.slice none 0 0] w fun e w' => ∃ a x, e = .returned (.tuple #[.pointer (some a), x, .bool true]) ∧ Below w.heap.size w w' ∧ SubTrue w' (.pointer (some a)) := by
  refine (ranK (P := Tryz.prog) (B := tb) (G := pl) (f := 100000) (g := 5) (args := [.slice none 0 0]) (args' := [.slice none 0 0]) tok pok ov0_ok w ⟨VR.mk (v := .slice none 0 0) rfl, rfl⟩ built_run trivial).mono ?_
  rintro e w' ⟨φ', h', v, v', rfl, hv, hw, bel, hk⟩
  unfold built_k at hk
  split at hk
  · rename_i r o px
    obtain ⟨⟨ys⟩, rfl, hy⟩ := hv.inv
    match ys, hy with
    | [p, x, y], ⟨hp, _, h2, _⟩ =>
      have e2 : y = .bool true := h2.inv
      obtain ⟨s, hs0, e3⟩ := hp.inv
      subst e2 e3
      refine ⟨_, x, rfl, bel, fun w2 hs hb => ?_⟩
      have hw2 : WR tb φ' h' w2 := hw.behind hs hb
      refine (ranHK (P := Tryz.prog) (B := tb) (G := pl) (f := 100000) (args := [.pointer (some ⟨r, o, none⟩), T0, T0]) (args' := [.pointer (some ⟨s.b, s.base + o, none⟩), T0, T0]) tok pok ov0_ok (shut_wr hw2) (shut_rows hw2) ⟨hp, t0_vr, t0_vr, rfl⟩ hk).mono ?_
      rintro e w3 ⟨φ3, h3, v3, v3', rfl, q1, _, q2, q3⟩
      refine ⟨?_, q2⟩
      unfold yes at q3
      split at q3
      · have : v3' = .bool true := q1.inv
        rw [this]
      · exact q3.elim
  · exact hk.elim

/-- One value that is handed in. -/
abbrev hp1 : Hp := ⟨tput W none 1000 (some (.cells ⟨[.bool false, .int .i64 0]⟩ 38 (7, 7))), 1001, 1001⟩
def place1 (b : Nat) (r : Nat) : Option Sl := if r = 1000 then some ⟨b, 0, 2, 2⟩ else none
theorem hp1_get (r : Nat) : tget W hp1.rows r = if r = 1000 then some (.cells ⟨[.bool false, .int .i64 0]⟩ 38 (7, 7)) else none := by
  show tget W (tput W none 1000 _) r = _
  rw [tget_tput _ _ _ _ _ (w_fits (by simp only [MOST]; omega))]
  rfl
theorem hp1_wr {w : World} {b : Nat} (c0 : w.cell? ⟨b, 0, none⟩ = some (.bool false)) (c1 : w.cell? ⟨b, 1, none⟩ = some (.int .i64 0)) : WR tb (place1 b) hp1 w := by
  have hb := World.block_lt_of_cell? w _ c0
  have hlook : tget W tb 38 = some ty38 := by rfl
  refine ⟨fun r o ho => ?_, fun r r' o o' s hl ho ho' _ _ => ?_, fun r hr => ?_, fun r o ho => ?_, by show 1001 ≤ MOST + 1; simp only [MOST]; omega, by show GL ≤ 1001; simp only [GL]; omega⟩
  · rw [hp1_get] at ho
    split at ho
    · rename_i e
      cases ho
      subst e
      refine ⟨⟨b, 0, 2, 2⟩, rfl, hb, fun i hi => ?_, by show 2 ≤ 2; omega, (fun h => by cases h), fun j hj => ?_, (fun h => by cases h), fun j v hv => ?_⟩
      · rw [hlook] at hi
        cases hi
        rfl
      · have hj' : j < 2 := hj
        rcases (by omega : j = 0 ∨ j = 1) with rfl | rfl
        · show (w.cell? ⟨b, 0 + 0, none⟩).isSome = true
          rw [Nat.zero_add, c0]
          rfl
        · show (w.cell? ⟨b, 0 + 1, none⟩).isSome = true
          rw [Nat.zero_add, c1]
          rfl
      · match j, hv with
        | 0, hv =>
          have : v = .bool false := by simpa using hv.symm
          subst this
          exact ⟨.bool false, c0, bool_vr, trivial⟩
        | 1, hv =>
          have : v = .int .i64 0 := by simpa using hv.symm
          subst this
          exact ⟨.int .i64 0, c1, int_vr, trivial⟩
        | j + 2, hv => simp at hv
    · cases ho
  · rw [hp1_get] at ho'
    split at ho'
    · rename_i e
      subst e
      exact absurd hl (by show ¬ 1001 ≤ 1000; omega)
    · cases ho'
  · have hr' : 1001 ≤ r := hr
    unfold place1
    rw [if_neg (by omega)]
  · rw [hp1_get] at ho
    split at ho
    · rename_i e
      subst e
      exact ⟨by show 1000 < 1001; omega, by simp only [NOWHERE]; omega⟩
    · cases ho
/-- How long a slice is. -/
def lenIs (k : Nat) (v : Value) (_ : Hp) : Prop := match v with
  | .slice _ m _ => eqN m k True
  | _ => False
theorem rep0 : evCall Tryz.prog tb ov0 pl 100000 24 [.slice (some ⟨1000, 0, none⟩) 1 1, i64 0] hp1 (lenIs 0) = True := by kernel_rfl
theorem rep1 : evCall Tryz.prog tb ov0 pl 100000 24 [.slice (some ⟨1000, 0, none⟩) 1 1, i64 1] hp1 (lenIs 1) = True := by kernel_rfl
theorem rep2 : evCall Tryz.prog tb ov0 pl 100000 24 [.slice (some ⟨1000, 0, none⟩) 1 1, i64 2] hp1 (lenIs 2) = True := by kernel_rfl
theorem rep3 : evCall Tryz.prog tb ov0 pl 100000 24 [.slice (some ⟨1000, 0, none⟩) 1 1, i64 3] hp1 (lenIs 3) = True := by kernel_rfl
theorem rep4 : evCall Tryz.prog tb ov0 pl 100000 24 [.slice (some ⟨1000, 0, none⟩) 1 1, i64 4] hp1 (lenIs 4) = True := by kernel_rfl
theorem rep5 : evCall Tryz.prog tb ov0 pl 100000 24 [.slice (some ⟨1000, 0, none⟩) 1 1, i64 5] hp1 (lenIs 5) = True := by kernel_rfl
theorem rep6 : evCall Tryz.prog tb ov0 pl 100000 24 [.slice (some ⟨1000, 0, none⟩) 1 1, i64 6] hp1 (lenIs 6) = True := by kernel_rfl
theorem rep7 : evCall Tryz.prog tb ov0 pl 100000 24 [.slice (some ⟨1000, 0, none⟩) 1 1, i64 7] hp1 (lenIs 7) = True := by kernel_rfl
theorem rep8 : evCall Tryz.prog tb ov0 pl 100000 24 [.slice (some ⟨1000, 0, none⟩) 1 1, i64 8] hp1 (lenIs 8) = True := by kernel_rfl
theorem rep9 : evCall Tryz.prog tb ov0 pl 100000 24 [.slice (some ⟨1000, 0, none⟩) 1 1, i64 9] hp1 (lenIs 9) = True := by kernel_rfl
theorem rep10 : evCall Tryz.prog tb ov0 pl 100000 24 [.slice (some ⟨1000, 0, none⟩) 1 1, i64 10] hp1 (lenIs 10) = True := by kernel_rfl
theorem rep11 : evCall Tryz.prog tb ov0 pl 100000 24 [.slice (some ⟨1000, 0, none⟩) 1 1, i64 11] hp1 (lenIs 11) = True := by kernel_rfl
theorem rep12 : evCall Tryz.prog tb ov0 pl 100000 24 [.slice (some ⟨1000, 0, none⟩) 1 1, i64 12] hp1 (lenIs 12) = True := by kernel_rfl
theorem rep13 : evCall Tryz.prog tb ov0 pl 100000 24 [.slice (some ⟨1000, 0, none⟩) 1 1, i64 13] hp1 (lenIs 13) = True := by kernel_rfl
theorem rep14 : evCall Tryz.prog tb ov0 pl 100000 24 [.slice (some ⟨1000, 0, none⟩) 1 1, i64 14] hp1 (lenIs 14) = True := by kernel_rfl
theorem rep15 : evCall Tryz.prog tb ov0 pl 100000 24 [.slice (some ⟨1000, 0, none⟩) 1 1, i64 15] hp1 (lenIs 15) = True := by kernel_rfl
theorem rep16 : evCall Tryz.prog tb ov0 pl 100000 24 [.slice (some ⟨1000, 0, none⟩) 1 1, i64 16] hp1 (lenIs 16) = True := by kernel_rfl
theorem rep17 : evCall Tryz.prog tb ov0 pl 100000 24 [.slice (some ⟨1000, 0, none⟩) 1 1, i64 17] hp1 (lenIs 17) = True := by kernel_rfl
theorem rep18 : evCall Tryz.prog tb ov0 pl 100000 24 [.slice (some ⟨1000, 0, none⟩) 1 1, i64 18] hp1 (lenIs 18) = True := by kernel_rfl
theorem rep19 : evCall Tryz.prog tb ov0 pl 100000 24 [.slice (some ⟨1000, 0, none⟩) 1 1, i64 19] hp1 (lenIs 19) = True := by kernel_rfl
theorem rep20 : evCall Tryz.prog tb ov0 pl 100000 24 [.slice (some ⟨1000, 0, none⟩) 1 1, i64 20] hp1 (lenIs 20) = True := by kernel_rfl
theorem rep21 : evCall Tryz.prog tb ov0 pl 100000 24 [.slice (some ⟨1000, 0, none⟩) 1 1, i64 21] hp1 (lenIs 21) = True := by kernel_rfl
theorem rep22 : evCall Tryz.prog tb ov0 pl 100000 24 [.slice (some ⟨1000, 0, none⟩) 1 1, i64 22] hp1 (lenIs 22) = True := by kernel_rfl
theorem rep23 : evCall Tryz.prog tb ov0 pl 100000 24 [.slice (some ⟨1000, 0, none⟩) 1 1, i64 23] hp1 (lenIs 23) = True := by kernel_rfl
theorem rep24 : evCall Tryz.prog tb ov0 pl 100000 24 [.slice (some ⟨1000, 0, none⟩) 1 1, i64 24] hp1 (lenIs 24) = True := by kernel_rfl
theorem rep25 : evCall Tryz.prog tb ov0 pl 100000 24 [.slice (some ⟨1000, 0, none⟩) 1 1, i64 25] hp1 (lenIs 25) = True := by kernel_rfl
theorem rep26 : evCall Tryz.prog tb ov0 pl 100000 24 [.slice (some ⟨1000, 0, none⟩) 1 1, i64 26] hp1 (lenIs 26) = True := by kernel_rfl
theorem rep27 : evCall Tryz.prog tb ov0 pl 100000 24 [.slice (some ⟨1000, 0, none⟩) 1 1, i64 27] hp1 (lenIs 27) = True := by kernel_rfl
theorem rep28 : evCall Tryz.prog tb ov0 pl 100000 24 [.slice (some ⟨1000, 0, none⟩) 1 1, i64 28] hp1 (lenIs 28) = True := by kernel_rfl
theorem rep29 : evCall Tryz.prog tb ov0 pl 100000 24 [.slice (some ⟨1000, 0, none⟩) 1 1, i64 29] hp1 (lenIs 29) = True := by kernel_rfl
theorem rep30 : evCall Tryz.prog tb ov0 pl 100000 24 [.slice (some ⟨1000, 0, none⟩) 1 1, i64 30] hp1 (lenIs 30) = True := by kernel_rfl
theorem rep31 : evCall Tryz.prog tb ov0 pl 100000 24 [.slice (some ⟨1000, 0, none⟩) 1 1, i64 31] hp1 (lenIs 31) = True := by kernel_rfl
theorem rep32 : evCall Tryz.prog tb ov0 pl 100000 24 [.slice (some ⟨1000, 0, none⟩) 1 1, i64 32] hp1 (lenIs 32) = True := by kernel_rfl
theorem rep33 : evCall Tryz.prog tb ov0 pl 100000 24 [.slice (some ⟨1000, 0, none⟩) 1 1, i64 33] hp1 (lenIs 33) = True := by kernel_rfl
theorem rep34 : evCall Tryz.prog tb ov0 pl 100000 24 [.slice (some ⟨1000, 0, none⟩) 1 1, i64 34] hp1 (lenIs 34) = True := by kernel_rfl
theorem rep35 : evCall Tryz.prog tb ov0 pl 100000 24 [.slice (some ⟨1000, 0, none⟩) 1 1, i64 35] hp1 (lenIs 35) = True := by kernel_rfl
theorem rep36 : evCall Tryz.prog tb ov0 pl 100000 24 [.slice (some ⟨1000, 0, none⟩) 1 1, i64 36] hp1 (lenIs 36) = True := by kernel_rfl
theorem rep37 : evCall Tryz.prog tb ov0 pl 100000 24 [.slice (some ⟨1000, 0, none⟩) 1 1, i64 37] hp1 (lenIs 37) = True := by kernel_rfl
theorem rep38 : evCall Tryz.prog tb ov0 pl 100000 24 [.slice (some ⟨1000, 0, none⟩) 1 1, i64 38] hp1 (lenIs 38) = True := by kernel_rfl
theorem rep39 : evCall Tryz.prog tb ov0 pl 100000 24 [.slice (some ⟨1000, 0, none⟩) 1 1, i64 39] hp1 (lenIs 39) = True := by kernel_rfl
theorem rep40 : evCall Tryz.prog tb ov0 pl 100000 24 [.slice (some ⟨1000, 0, none⟩) 1 1, i64 40] hp1 (lenIs 40) = True := by kernel_rfl
theorem rep41 : evCall Tryz.prog tb ov0 pl 100000 24 [.slice (some ⟨1000, 0, none⟩) 1 1, i64 41] hp1 (lenIs 41) = True := by kernel_rfl
theorem rep42 : evCall Tryz.prog tb ov0 pl 100000 24 [.slice (some ⟨1000, 0, none⟩) 1 1, i64 42] hp1 (lenIs 42) = True := by kernel_rfl
theorem rep43 : evCall Tryz.prog tb ov0 pl 100000 24 [.slice (some ⟨1000, 0, none⟩) 1 1, i64 43] hp1 (lenIs 43) = True := by kernel_rfl
theorem rep44 : evCall Tryz.prog tb ov0 pl 100000 24 [.slice (some ⟨1000, 0, none⟩) 1 1, i64 44] hp1 (lenIs 44) = True := by kernel_rfl
theorem rep45 : evCall Tryz.prog tb ov0 pl 100000 24 [.slice (some ⟨1000, 0, none⟩) 1 1, i64 45] hp1 (lenIs 45) = True := by kernel_rfl
theorem rep46 : evCall Tryz.prog tb ov0 pl 100000 24 [.slice (some ⟨1000, 0, none⟩) 1 1, i64 46] hp1 (lenIs 46) = True := by kernel_rfl
theorem rep47 : evCall Tryz.prog tb ov0 pl 100000 24 [.slice (some ⟨1000, 0, none⟩) 1 1, i64 47] hp1 (lenIs 47) = True := by kernel_rfl
theorem rep48 : evCall Tryz.prog tb ov0 pl 100000 24 [.slice (some ⟨1000, 0, none⟩) 1 1, i64 48] hp1 (lenIs 48) = True := by kernel_rfl
theorem rep49 : evCall Tryz.prog tb ov0 pl 100000 24 [.slice (some ⟨1000, 0, none⟩) 1 1, i64 49] hp1 (lenIs 49) = True := by kernel_rfl
theorem rep50 : evCall Tryz.prog tb ov0 pl 100000 24 [.slice (some ⟨1000, 0, none⟩) 1 1, i64 50] hp1 (lenIs 50) = True := by kernel_rfl
theorem rep51 : evCall Tryz.prog tb ov0 pl 100000 24 [.slice (some ⟨1000, 0, none⟩) 1 1, i64 51] hp1 (lenIs 51) = True := by kernel_rfl
theorem rep52 : evCall Tryz.prog tb ov0 pl 100000 24 [.slice (some ⟨1000, 0, none⟩) 1 1, i64 52] hp1 (lenIs 52) = True := by kernel_rfl
theorem rep53 : evCall Tryz.prog tb ov0 pl 100000 24 [.slice (some ⟨1000, 0, none⟩) 1 1, i64 53] hp1 (lenIs 53) = True := by kernel_rfl
theorem rep54 : evCall Tryz.prog tb ov0 pl 100000 24 [.slice (some ⟨1000, 0, none⟩) 1 1, i64 54] hp1 (lenIs 54) = True := by kernel_rfl
theorem rep55 : evCall Tryz.prog tb ov0 pl 100000 24 [.slice (some ⟨1000, 0, none⟩) 1 1, i64 55] hp1 (lenIs 55) = True := by kernel_rfl
theorem rep56 : evCall Tryz.prog tb ov0 pl 100000 24 [.slice (some ⟨1000, 0, none⟩) 1 1, i64 56] hp1 (lenIs 56) = True := by kernel_rfl
theorem rep57 : evCall Tryz.prog tb ov0 pl 100000 24 [.slice (some ⟨1000, 0, none⟩) 1 1, i64 57] hp1 (lenIs 57) = True := by kernel_rfl
theorem rep58 : evCall Tryz.prog tb ov0 pl 100000 24 [.slice (some ⟨1000, 0, none⟩) 1 1, i64 58] hp1 (lenIs 58) = True := by kernel_rfl
theorem rep59 : evCall Tryz.prog tb ov0 pl 100000 24 [.slice (some ⟨1000, 0, none⟩) 1 1, i64 59] hp1 (lenIs 59) = True := by kernel_rfl
theorem rep_all : ∀ k, k < 60 → evCall Tryz.prog tb ov0 pl 100000 24 [.slice (some ⟨1000, 0, none⟩) 1 1, i64 k] hp1 (lenIs k) = True
  | 0, _ => rep0
  | 1, _ => rep1
  | 2, _ => rep2
  | 3, _ => rep3
  | 4, _ => rep4
  | 5, _ => rep5
  | 6, _ => rep6
  | 7, _ => rep7
  | 8, _ => rep8
  | 9, _ => rep9
  | 10, _ => rep10
  | 11, _ => rep11
  | 12, _ => rep12
  | 13, _ => rep13
  | 14, _ => rep14
  | 15, _ => rep15
  | 16, _ => rep16
  | 17, _ => rep17
  | 18, _ => rep18
  | 19, _ => rep19
  | 20, _ => rep20
  | 21, _ => rep21
  | 22, _ => rep22
  | 23, _ => rep23
  | 24, _ => rep24
  | 25, _ => rep25
  | 26, _ => rep26
  | 27, _ => rep27
  | 28, _ => rep28
  | 29, _ => rep29
  | 30, _ => rep30
  | 31, _ => rep31
  | 32, _ => rep32
  | 33, _ => rep33
  | 34, _ => rep34
  | 35, _ => rep35
  | 36, _ => rep36
  | 37, _ => rep37
  | 38, _ => rep38
  | 39, _ => rep39
  | 40, _ => rep40
  | 41, _ => rep41
  | 42, _ => rep42
  | 43, _ => rep43
  | 44, _ => rep44
  | 45, _ => rep45
  | 46, _ => rep46
  | 47, _ => rep47
  | 48, _ => rep48
  | 49, _ => rep49
  | 50, _ => rep50
  | 51, _ => rep51
  | 52, _ => rep52
  | 53, _ => rep53
  | 54, _ => rep54
  | 55, _ => rep55
  | 56, _ => rep56
  | 57, _ => rep57
  | 58, _ => rep58
  | 59, _ => rep59
  | k + 60, h => absurd h (by omega)
theorem repeat_any {w : World} {b k : Nat} (hk : k < 60) (c0 : w.cell? ⟨b, 0, none⟩ = some (.bool false)) (c1 : w.cell? ⟨b, 1, none⟩ = some (.int .i64 0)) :
    Calls Tryz.prog 24 #[.slice (some ⟨b, 0, none⟩) 1 1, .int .i64 (k : Int)] w fun e w' => ∃ a c, e = .returned (.slice a k c) ∧ Below w.heap.size w w' := by
  refine (ranHK (P := Tryz.prog) (B := tb) (G := pl) (f := 100000) (args := [.slice (some ⟨1000, 0, none⟩) 1 1, i64 k]) (args' := [.slice (some ⟨b, 0, none⟩) 1 1, .int .i64 (k : Int)]) tok pok ov0_ok (hp1_wr c0 c1) (fun r o ho => ?_) ⟨?_, int_vr, rfl⟩ (Eq.mpr (rep_all k hk) trivial)).mono ?_
  · rw [hp1_get] at ho
    split at ho
    · rename_i e
      subst e
      show 1000 < 1001
      omega
    · cases ho
  · refine VR.mk (v := .slice (some ⟨1000, 0, none⟩) 1 1) (.inr ⟨by simp only [NOWHERE]; omega, ⟨b, 0, 2, 2⟩, 1, rfl, rfl, fun _ => rfl, fun h => ?_⟩)
    exact absurd h (by simp only [TOP]; omega)
  · rintro e w' ⟨φ3, h3, v, v', rfl, q1, _, q2, q3⟩
    unfold lenIs at q3
    split at q3
    · rename_i a m c
      obtain ⟨hm, _⟩ := eqN_spec q3
      subst hm
      cases a with
      | none =>
        have e : v' = .slice none m c := q1.inv
        exact ⟨none, c, by rw [e], q2⟩
      | some a =>
        obtain ⟨a', c', e, _⟩ := slice_shape q1
        exact ⟨some a', c', by rw [e], q2⟩
    · exact q3.elim

end Rn
end Go.Proofs.YtjmodknbifapbaaGreatDoor
