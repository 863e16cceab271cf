/-
  The contracts of strings.IndexByte, HasPrefix, CutPrefix (at a prefix of one byte). No conditions.
-/
import Derived.Test.YtemjhlhioeopnabDoorDName
namespace Go.Proofs.YtemjhlhioeopnabDoor
open Go.RowKit

set_option maxRecDepth 100000 in
theorem index_lite (l : List UInt8) (c : UInt8) (w : World) : Calls Tryd.prog 50 #[.string (str l), .int .u8 (c.toNat : Int)] w fun e w' => e = .returned (.int .i64 (Lib.indexByte l c)) ∧ w' = w := by
  go_enter Tryd.func50, Tryd.ntmps50
  go_wp2
  rw [run_callFunc_extern Tryd.func53 (by kernel_rfl) (by kernel_rfl) (by kernel_rfl) (e := Extern.BytealgIndexByte.indexByte) (by kernel_rfl), Lib.run_indexByteString]
  simp only [Result.andThen]
  rw [Oper.upon_value]
  go_wp2
  go_ret
  simp [str_data]

theorem index_any (l : List UInt8) (c : UInt8) (w : World) : Calls Tryd.prog 45 #[.string (str l), .int .u8 (c.toNat : Int)] w fun e w' => e = .returned (.int .i64 (Lib.indexByte l c)) ∧ w' = w := by
  go_enter Tryd.func45, Tryd.ntmps45
  go_wp2_with (go_at_call 50; refine (index_lite l c w).mono ?_; rintro e w' ⟨rfl, rfl⟩)
  go_ret
  exact ⟨rfl, rfl⟩

def hasOne (l : List UInt8) (c : UInt8) : Bool := match l with | [] => false | a :: _ => decide (a = c)
def cutOne (l : List UInt8) (c : UInt8) : List UInt8 := if hasOne l c then l.drop 1 else l

theorem has_lite (l : List UInt8) (c : UInt8) (w : World) : Calls Tryd.prog 52 #[.string (str l), .string (str [c])] w fun e w' => e = .returned (.bool (hasOne l c)) ∧ w' = w := by
  have hs := str_size l
  have h1 := str_size [c]
  have ht := str_toList [c]
  have he : (str l).extract 0 1 = str (l.take 1) := by rw [str_extract]; simp
  have ht2 := str_toList (l.take 1)
  cases l with
  | nil =>
    go_enter Tryd.func52, Tryd.ntmps52
    go_wp2
    go_ret
    simp [hasOne]
  | cons a t =>
    have hr := run_part (a :: t) 0 1 (by omega) (by simp)
    simp at hr hs ht2
    go_enter Tryd.func52, Tryd.ntmps52
    go_wp2
    go_ret
    by_cases h : a = c <;> simp [hasOne, h]

theorem has_any (l : List UInt8) (c : UInt8) (w : World) : Calls Tryd.prog 47 #[.string (str l), .string (str [c])] w fun e w' => e = .returned (.bool (hasOne l c)) ∧ w' = w := by
  go_enter Tryd.func47, Tryd.ntmps47
  go_wp2_with (go_at_call 52; refine (has_lite l c w).mono ?_; rintro e w' ⟨rfl, rfl⟩)
  go_ret
  exact ⟨rfl, rfl⟩

theorem cut_lite (l : List UInt8) (c : UInt8) (w : World) : Calls Tryd.prog 51 #[.string (str l), .string (str [c])] w fun e w' => e = .returned (.tuple #[.string (str (cutOne l c)), .bool (hasOne l c)]) ∧ w' = w := by
  have HL := hid (has_lite l c w)
  have h1 := str_size [c]
  cases h : hasOne l c with
  | false =>
    rw [h] at HL
    go_enter Tryd.func51, Tryd.ntmps51
    go_wp2_with (go_at_call 52; refine HL.out.mono ?_; rintro e w' ⟨rfl, rfl⟩)
    go_ret2
    simp [cutOne, h]
  | true =>
    rw [h] at HL
    have hp : 1 ≤ l.length := by cases l <;> simp_all [hasOne]
    have hr := run_from l 1 hp
    rw [show ((1 : Nat) : Int) = 1 from rfl] at hr
    simp at h1
    go_enter Tryd.func51, Tryd.ntmps51
    go_wp2_with (go_at_call 52; refine HL.out.mono ?_; rintro e w' ⟨rfl, rfl⟩)
    go_ret2
    simp [cutOne, h]

theorem cut_any (l : List UInt8) (c : UInt8) (w : World) : Calls Tryd.prog 46 #[.string (str l), .string (str [c])] w fun e w' => e = .returned (.tuple #[.string (str (cutOne l c)), .bool (hasOne l c)]) ∧ w' = w := by
  go_enter Tryd.func46, Tryd.ntmps46
  go_wp2_with (go_at_call 51; refine (cut_lite l c w).mono ?_; rintro e w' ⟨rfl, rfl⟩)
  go_ret2
  exact ⟨rfl, rfl⟩

end Go.Proofs.YtemjhlhioeopnabDoor
