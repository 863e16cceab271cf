/-
  The contracts of Name, Method and what they call: what each answers of whatever text. No conditions.
-/
import Derived.Test.YtpjkgdkebkkjeaaGreatDoorDBase
namespace Go.Proofs.YtpjkgdkebkkjeaaGreatDoor
open Go.RowKit

/-- A letter; a digit; a name; a method's name. -/
def letter (c : UInt8) : Bool := (decide (65 ≤ c.toNat) && decide (c.toNat ≤ 90)) || (decide (97 ≤ c.toNat) && decide (c.toNat ≤ 122)) || decide (c.toNat = 95)
def digit (c : UInt8) : Bool := decide (48 ≤ c.toNat) && decide (c.toNat ≤ 57)
def sign (c : UInt8) : Bool := letter c || digit c
def nameOK (l : List UInt8) : Bool := decide (l ≠ []) && decide (l.length ≤ 32) && !(digit (l.headD 0)) && l.all sign
def initL : List UInt8 := [60, 105, 110, 105, 116, 62]
def methodOK (l : List UInt8) : Bool := decide (l = initL) || nameOK l

theorem digit_any (c : UInt8) (w : World) : Calls Tryz.prog 195 #[.int .u8 (c.toNat : Int)] w fun e w' => e = .returned (.bool (digit c)) ∧ w' = w := by
  by_cases h1 : 48 ≤ c.toNat <;> by_cases h2 : c.toNat ≤ 57
  all_goals try omega
  all_goals
    go_enter Tryz.func195, Tryz.ntmps195
    go_wp2
    go_ret
    refine ⟨?_, rfl⟩
    simp [digit, *]
    try omega

theorem letter_any (c : UInt8) (w : World) : Calls Tryz.prog 196 #[.int .u8 (c.toNat : Int)] w fun e w' => e = .returned (.bool (letter c)) ∧ w' = w := by
  by_cases h1 : 65 ≤ c.toNat <;> by_cases h2 : c.toNat ≤ 90 <;> by_cases h3 : 97 ≤ c.toNat <;> by_cases h4 : c.toNat ≤ 122 <;> by_cases h5 : c.toNat = 95
  all_goals try omega
  all_goals
    go_enter Tryz.func196, Tryz.ntmps196
    go_wp2
    go_ret
    refine ⟨?_, rfl⟩
    simp [letter, *]
    try omega

theorem all_take_succ (l : List UInt8) (j : Nat) (h : j < l.length) : (l.take (j + 1)).all sign = ((l.take j).all sign && sign l[j]) := by
  rw [List.take_succ_eq_append_getElem h, List.all_append]
  simp

theorem not_all (l : List UInt8) (j : Nat) (h : j < l.length) (hs : sign l[j] = false) : l.all sign = false := by
  rw [List.all_eq_false]
  exact ⟨l[j], List.getElem_mem h, by simp [hs]⟩

set_option maxHeartbeats 400000 in
theorem name_any (l : List UInt8) (hl : l.length ≤ 9223372036854775807) (w : World) : Calls Tryz.prog 149 #[.string (str l)] w fun e w' => e = .returned (.bool (nameOK l)) ∧ w' = w := by
  have hs := str_size l
  have ht := str_toList l
  have hat := fun j h w => run_at l j h w
  by_cases h0 : l = []
  · subst h0
    go_enter Tryz.func149, Tryz.ntmps149
    go_wp2
    go_ret
    exact ⟨rfl, rfl⟩
  have hp : 0 < l.length := List.length_pos_iff.2 h0
  have hb : (l == []) = false := by simpa using h0
  by_cases h1 : 32 < l.length
  · have g1 : (32 < (l.length : Int)) := by omega
    go_enter Tryz.func149, Tryz.ntmps149
    go_wp2
    go_ret
    refine ⟨?_, rfl⟩
    have : ¬ l.length ≤ 32 := by omega
    simp [nameOK, this]
  have g1 : ¬ (32 < (l.length : Int)) := by omega
  have a0 := hat 0 hp
  rw [show ((0 : Nat) : Int) = 0 from rfl] at a0
  have hh : l.headD 0 = l[0] := by cases l with | nil => exact absurd rfl h0 | cons a t => rfl
  cases hd : digit l[0] with
  | true =>
    have HD := hid (digit_any l[0] w)
    rw [hd] at HD
    go_enter Tryz.func149, Tryz.ntmps149
    go_wp2_with (go_at_call 195; refine HD.out.mono ?_; rintro e w' ⟨rfl, rfl⟩)
    go_ret
    refine ⟨?_, rfl⟩
    unfold nameOK
    rw [hh, hd]
    simp
  | false =>
    have HD := hid (digit_any l[0] w)
    rw [hd] at HD
    go_enter Tryz.func149, Tryz.ntmps149
    go_wp2_with (go_at_call 195; refine HD.out.mono ?_; rintro e w' ⟨rfl, rfl⟩)
    go_loopw [18] (fun i wr => ∃ j : Nat, j ≤ l.length ∧ i = .int .i64 (j : Int) ∧ (l.take j).all sign = true ∧ wr = w') (fun i _ => l.length - (intOf i).toNat)
    case atStart => exact ⟨0, by omega, rfl, by simp, rfl⟩
    case round =>
      obtain ⟨j, hj, rfl, hall, rfl⟩ := hrel
      by_cases hlt : j < l.length
      · have g2 : ((j : Int) < (l.length : Int)) := by omega
        have aj := hat j hlt
        have HL := hid (letter_any l[j] wr)
        have HE := hid (digit_any l[j] wr)
        cases e1 : letter l[j] with
        | true =>
          rw [e1] at HL
          go_wp2_with (first | (go_at_call 196; refine HL.out.mono ?_; rintro e w' ⟨rfl, rfl⟩) | (go_at_call 195; refine HE.out.mono ?_; rintro e w' ⟨rfl, rfl⟩))
          refine ⟨⟨j + 1, by omega, by go_num, ?_, trivial⟩, by simp [intOf]; omega⟩
          rw [all_take_succ l j hlt, hall]
          simp [sign, e1]
        | false =>
          rw [e1] at HL
          cases e2 : digit l[j] with
          | true =>
            rw [e2] at HE
            go_wp2_with (first | (go_at_call 196; refine HL.out.mono ?_; rintro e w' ⟨rfl, rfl⟩) | (go_at_call 195; refine HE.out.mono ?_; rintro e w' ⟨rfl, rfl⟩))
            refine ⟨⟨j + 1, by omega, by go_num, ?_, trivial⟩, by simp [intOf]; omega⟩
            rw [all_take_succ l j hlt, hall]
            simp [sign, e2]
          | false =>
            rw [e2] at HE
            go_wp2_with (first | (go_at_call 196; refine HL.out.mono ?_; rintro e w' ⟨rfl, rfl⟩) | (go_at_call 195; refine HE.out.mono ?_; rintro e w' ⟨rfl, rfl⟩))
            go_ret
            refine ⟨?_, rfl⟩
            unfold nameOK
            rw [not_all l j hlt (by simp [sign, e1, e2])]
            simp
      · have g2 : ¬ ((j : Int) < (l.length : Int)) := by omega
        go_wp2
        go_ret
        refine ⟨?_, rfl⟩
        unfold nameOK
        rw [List.take_of_length_le (by omega)] at hall
        rw [hh, hd, hall]
        simp [h0]
        omega

theorem method_any (l : List UInt8) (hl : l.length ≤ 9223372036854775807) (w : World) : Calls Tryz.prog 153 #[.string (str l)] w fun e w' => e = .returned (.bool (methodOK l)) ∧ w' = w := by
  have HN := hid (name_any l hl w)
  by_cases h : l = initL
  · subst h
    have ht : (str initL).toList = [60, 105, 110, 105, 116, 62] := str_toList _
    go_enter Tryz.func153, Tryz.ntmps153
    go_wp2_with (go_at_call 149; refine HN.out.mono ?_; rintro e w' ⟨rfl, rfl⟩)
    go_ret
    simp [methodOK]
  · have ht := str_toList l
    have hb2 : ¬ (l = [60, 105, 110, 105, 116, 62]) := h
    go_enter Tryz.func153, Tryz.ntmps153
    go_wp2_with (go_at_call 149; refine HN.out.mono ?_; rintro e w' ⟨rfl, rfl⟩)
    go_ret
    simp [methodOK, h]
    exact fun e => absurd e hb2

end Go.Proofs.YtpjkgdkebkkjeaaGreatDoor
