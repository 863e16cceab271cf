/-
  What is known of calls, and of slices.Insert besides.
-/
import Derived.Test.YtialppfpbgaanaaGreatDoorROH10
import Derived.Test.YtialppfpbgaanaaGreatDoorROS
namespace Go.Proofs.YtialppfpbgaanaaGreatDoor
namespace Rn
open Go.RowKit

theorem ov_ins : OvOK Tryz.prog tb ⟨some 10, some 9, some 351, 408, [(106, false), (107, false)], [(195, insK tb 3)]⟩ := {
  ex := fun g f h => by
    simp only [findX] at h
    split at h
    · rename_i hb
      have := Nat.eq_of_beq_eq_true hb
      subst this
      cases h
      exact insK_ok ins_ok
    · cases h
  wi := ov_ok.wi
  cc := ov_ok.cc
  kn := ov_ok.kn }

end Rn
end Go.Proofs.YtialppfpbgaanaaGreatDoor
