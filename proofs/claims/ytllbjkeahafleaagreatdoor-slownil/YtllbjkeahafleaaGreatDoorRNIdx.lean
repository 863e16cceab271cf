/-
  The contract of strings.IndexByte, as the runner takes it: where a byte stands first in a text.
-/
import Derived.Test.YtllbjkeahafleaaGreatDoorRN31
import Derived.Test.YtllbjkeahafleaaGreatDoorProg
import Derived.Tactics
import Derived.Lib.Bytealg
set_option linter.unusedSimpArgs false
namespace Go.Proofs.YtllbjkeahafleaaGreatDoor
open Go.RowKit

set_option maxRecDepth 100000 in
theorem idx_lite (s : ByteArray) (c : Int) (w : World) : Calls Tryz.prog 366 #[.string s, .int .u8 c] w fun e w' => e = .returned (.int .i64 (Lib.indexByte s.data.toList c.toNat.toUInt8)) ∧ w' = w := by
  go_enter Tryz.func366, Tryz.ntmps366
  go_wp2
  rw [run_callFunc_extern Tryz.func411 (by kernel_rfl) (by kernel_rfl) (by kernel_rfl) (e := Extern.BytealgIndexByte.indexByte) (by kernel_rfl), Lib.run_indexByteString]
  simp only [Result.andThen]
  rw [Oper.upon_value]
  go_wp2
  go_ret
  exact ⟨rfl, rfl⟩
theorem idx_any (s : ByteArray) (c : Int) (w : World) : Calls Tryz.prog 325 #[.string s, .int .u8 c] w fun e w' => e = .returned (.int .i64 (Lib.indexByte s.data.toList c.toNat.toUInt8)) ∧ w' = w := by
  go_enter Tryz.func325, Tryz.ntmps325
  go_wp2_with (go_at_call 366; refine (idx_lite s c w).mono ?_; rintro e w' ⟨rfl, rfl⟩)
  go_ret
  exact ⟨rfl, rfl⟩

namespace Rn
/-- Where a byte stands first, from a place on. -/
def idxK (c : Nat) (l : List UInt8) (n : Nat) (K : Value → Prop) : Prop :=
  List.rec (motive := fun _ => Nat → Prop) (fun _ => K (.int .i64 (.negSucc 0))) (fun b _ ih n => Bool.rec (motive := fun _ => Prop) (fN (Nat.succ n) ih) (fN n fun n => K (.int .i64 (.ofNat n))) (Nat.beq b.toNat c)) l n
def indexK : ExF := fun args h K _ => match args with
  | x :: y :: [] => match x with
    | .string s => match y with
      | .int .u8 (.ofNat c) => match Nat.ble 256 c with
        | true => False
        | false => idxK c s.data.toList 0 fun v => K v h
      | _ => False
    | _ => False
  | _ => False
def idxV (c : Nat) : List UInt8 → Nat → Int
  | [], _ => -1
  | b :: l, n => match Nat.beq b.toNat c with
    | true => (n : Int)
    | false => idxV c l (n + 1)
theorem idxK_eq (c : Nat) (K : Value → Prop) : ∀ (l : List UInt8) (n : Nat), idxK c l n K = K (.int .i64 (idxV c l n))
  | [], _ => rfl
  | b :: l, n => by
    have ih := idxK_eq c K l (n + 1)
    have h' : idxK c (b :: l) n K = (Bool.rec (motive := fun _ => Prop) (fN (Nat.succ n) fun n => idxK c l n K) (fN n fun n => K (.int .i64 (.ofNat n))) (Nat.beq b.toNat c) : Prop) := rfl
    rw [h']
    simp only [idxV]
    cases Nat.beq b.toNat c with
    | true => simp only [fN_eq]; rfl
    | false => simp only [fN_eq]; exact ih
theorem idxV_eq {c : Nat} (hc : c < 256) : ∀ (l : List UInt8) (n : Nat), idxV c l n = if Lib.indexByte l c.toUInt8 == -1 then -1 else Lib.indexByte l c.toUInt8 + n
  | [], _ => rfl
  | b :: l, n => by
    have ih := idxV_eq hc l (n + 1)
    have ge := Lib.indexByte_ge l c.toUInt8
    have hb : (b == c.toUInt8) = Nat.beq b.toNat c := by
      cases hx : Nat.beq b.toNat c with
      | true =>
        have := Nat.eq_of_beq_eq_true hx
        subst this
        simp
      | false =>
        have := Nat.ne_of_beq_eq_false hx
        refine beq_eq_false_iff_ne.2 fun e => this ?_
        rw [e]
        exact Nat.mod_eq_of_lt hc
    simp only [idxV, Lib.indexByte, hb]
    cases Nat.beq b.toNat c with
    | true => simp
    | false =>
      simp only [ih, Bool.false_eq_true, if_false]
      by_cases h : Lib.indexByte l c.toUInt8 = -1
      · simp [h]
      · have h1 : (Lib.indexByte l c.toUInt8 == -1) = false := beq_eq_false_iff_ne.2 h
        have h2 : (Lib.indexByte l c.toUInt8 + 1 == -1) = false := beq_eq_false_iff_ne.2 (by omega)
        simp only [h1, h2, Bool.false_eq_true, if_false]
        omega
theorem indexK_ok (hb : ∃ fn c, Tryz.prog.funcs[325]? = some fn ∧ fn.body = some c) {B : Tb} : ExOK Tryz.prog B 325 indexK := {
  body := hb
  run := fun {args args' h K N φ w} hw hargs hk => .inr (by
    unfold indexK at hk
    split at hk
    · split at hk
      · rename_i s
        split at hk
        · rename_i c
          split at hk
          · exact hk.elim
          · rename_i hlt
            have hc : c < 256 := by
              rcases Nat.lt_or_ge c 256 with g | g
              · exact g
              · rw [Nat.ble_eq_true_of_le g] at hlt
                cases hlt
            rw [idxK_eq, idxV_eq hc] at hk
            match args', hargs with
            | [x', y'], ⟨hx, hy, _⟩ =>
              have e1 : x' = .string s := hx.inv
              have e2 : y' = .int .u8 (.ofNat c) := hy.inv
              subst e1 e2
              refine (idx_any s (.ofNat c) w).mono ?_
              rintro e w' ⟨rfl, rfl⟩
              refine ⟨φ, h, _, _, rfl, int_vr, hw, St.refl _ _ _, ?_⟩
              have ge := Lib.indexByte_ge s.data.toList c.toUInt8
              have e3 : (Int.ofNat c).toNat.toUInt8 = c.toUInt8 := rfl
              rw [e3]
              by_cases h1 : Lib.indexByte s.data.toList c.toUInt8 = -1
              · simpa [h1] using hk
              · have h2 : (Lib.indexByte s.data.toList c.toUInt8 == -1) = false := beq_eq_false_iff_ne.2 h1
                simpa [h2] using hk
        · exact hk.elim
      · exact hk.elim
    · exact hk.elim) }
end Rn
end Go.Proofs.YtllbjkeahafleaaGreatDoor
