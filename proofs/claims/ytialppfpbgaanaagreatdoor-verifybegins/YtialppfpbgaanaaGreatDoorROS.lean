/-
  The contracts of slices.Insert at numbers, laid at this program.
-/
import Derived.Test.YtialppfpbgaanaaGreatDoorROI
import Derived.Test.YtialppfpbgaanaaGreatDoorProg
import Derived.Shelf.Spec.SlicesInsert
import Derived.Shelf.Spec.SlicesInsertGrow
namespace Go.Proofs.YtialppfpbgaanaaGreatDoor
open Go.Shelf

def ins_lay_ren : Go.Shelf.Ren := ⟨fun | 21 => 195 | 27 => 257 | 28 => 258 | 35 => 283 | 39 => 321 | n => n, fun | 22 => 82 | 3 => 3 | 4 => 4 | 0 => 0 | n => n, fun | n => n⟩
theorem ins_lay : Go.Proofs.Lays2.n21 Tryz.prog ins_lay_ren := {
  mixed := by kernel_rfl
  f21 := Tryz.func195.trans (congrArg some (by kernel_rfl))
  f27 := Tryz.func257.trans (congrArg some (by kernel_rfl))
  f28 := Tryz.func258.trans (congrArg some (by kernel_rfl))
  f35 := Tryz.func283.trans (congrArg some (by kernel_rfl))
  f39 := Tryz.func321.trans (congrArg some (by kernel_rfl))
  t0 := Tryz.underlying0
  a0 := Tryz.isAgg0
  z0 := Tryz.sizeOf0
  v0 := Tryz.zeroValue0
  t3 := Tryz.underlying3
  a3 := Tryz.isAgg3
  z3 := Tryz.sizeOf3
  v3 := Tryz.zeroValue3
  t4 := Tryz.underlying4
  a4 := Tryz.isAgg4
  z4 := Tryz.sizeOf4
  v4 := Tryz.zeroValue4
  t22 := Tryz.underlying82
  a22 := Tryz.isAgg82
  z22 := Tryz.sizeOf82
  v22 := Tryz.zeroValue82
  i3 := by kernel_rfl }

theorem ins_ok : Rn.InsOK Tryz.prog 195 3 := {
  body := by
    have h : (match Tryz.prog.funcs[195]? with | some f => f.body.isSome | none => false) = true := by kernel_rfl
    split at h
    · rename_i f hf
      obtain ⟨c, hc⟩ := Option.isSome_iff_exists.1 h
      exact ⟨f, c, hf, hc⟩
    · cases h
  shift := fun b off n c i vb voff m vc cs vs w hi hm hroom hc63 hvb hcl hvl hcs hsp hfz hvs h1c h1v tA tB kA kB hsa hsb hkB hfa hfe =>
    Any2.slices_Insert_int_shift ins_lay b off n c i vb voff m vc cs vs w hi hm hroom hc63 hvb hcl hvl hcs hsp hfz hvs h1c h1v tA tB kA kB hsa hsb hkB hfa hfe
  grow := fun b off n c i vb voff m vc cs vs w hi hm hnc hroom hbig hcl hvl hcs hvs h1c h1v => by
    refine (Any2.slices_Insert_int_grow ins_lay b off n c i vb voff m vc cs vs w hi hm hnc hroom hbig hcl hvl hcs hvs h1c h1v).mono ?_
    rintro e w' ⟨h1, h2⟩
    exact ⟨grownCap w (n + m) c 3, grownCap_ge w (n + m) c 3, grownCap_le_maxLen w (n + m) c 3 (by simp only [maxLen]; omega), h1, h2⟩ }

end Go.Proofs.YtialppfpbgaanaaGreatDoor
