/-
  The walk of DescTypes: it answers true of whatever text and type, and writes nothing that was there. No conditions.
-/
import Derived.Test.YtfpdgfgbonbpjaaXType
namespace Go.Proofs.Ytfpdgfgbonbpjaa
open Go.RowKit

theorem keep_ty {a b : World} {p : Nat} {x0 x1 : Value} (ho : Only [] a b) (h : a.cell? ⟨p, 0, none⟩ = some x0 ∧ a.cell? ⟨p, 1, none⟩ = some x1) :
    b.cell? ⟨p, 0, none⟩ = some x0 ∧ b.cell? ⟨p, 1, none⟩ = some x1 := by
  obtain ⟨h0, h1⟩ := h
  have hl := World.block_lt_of_cell? _ _ h0
  exact ⟨(ho.cell (p := ⟨p, 0, none⟩) hl (by simp)).trans h0, (ho.cell (p := ⟨p, 1, none⟩) hl (by simp)).trans h1⟩

theorem ty_new (w : World) (d : Int) (n : List UInt8) : (w.alloc (.cells #[.int .i64 d, .string (str n)] 23)).cell? ⟨w.heap.size, 0, none⟩ = some (.int .i64 d) ∧ (w.alloc (.cells #[.int .i64 d, .string (str n)] 23)).cell? ⟨w.heap.size, 1, none⟩ = some (.string (str n)) :=
  ⟨by rw [cell_new]; rfl, by rw [cell_new]; rfl⟩

set_option maxHeartbeats 400000 in
set_option maxRecDepth 100000 in
theorem types_any (l : List UInt8) (hl : l.length ≤ 9223372036854775807) (t : Ty) (ht : t.2.length ≤ 9223372036854775807) (w : World) :
    Calls Try.prog 4 #[.string (str l), tyV t] w fun e w' => e = .returned (.bool true) ∧ Only [] w w' := by
  have H1 := fun W => type_any l hl W
  have H2 := fun W => rtype_any l hl W
  have H3 := fun W => typeText_any t ht W
  have H4 := fun W => rtypeText_any t ht W
  have o0 := (Only.refl [] w).alloc (.cells #[.int .i64 t.1, .string (str t.2)] 23)
  have T0 := ty_new w t.1 t.2
  obtain ⟨td, tn⟩ := t
  generalize typeR l = X at *
  obtain ⟨⟨xd, xn⟩, xe⟩ := X
  generalize ttR (td, tn) = u at *
  generalize tyCheck (td, tn) = c at *
  have hq := eq_type (xd, xn) (xd, xn)
  rw [decide_eq_true rfl] at hq
  simp only [tyV] at *
  replace H1 := hid H1
  replace H2 := hid H2
  replace H3 := hid H3
  replace H4 := hid H4
  replace T0 := hid T0
  have hut := str_toList u
  clear ht hl
  go_enter Try.func4, Try.ntmps4
  go_wp2_with fail
  refine (H1.out _).mono ?_
  rintro e w1 ⟨rfl, ho1⟩
  have X1 := ty_new w1 xd xn
  have o1 := (o0.next ho1 (by simp)).alloc (.cells #[.int .i64 xd, .string (str xn)] 23)
  have T1 := keep_ty (ho1.alloc (.cells #[.int .i64 xd, .string (str xn)] 23)) T0.out
  replace X1 := hid X1
  replace T1 := hid T1
  go_wp2_with fail
  refine (H2.out _).mono ?_
  rintro e w2 ⟨rfl, ho2⟩
  have q2 := ho2.alloc (.cells #[.int .i64 xd, .string (str xn)] 23)
  have Y2 := hid (ty_new w2 xd xn)
  have o2 := o1.next q2 (by simp)
  have X2 := hid (keep_ty q2 X1.out)
  obtain ⟨t0, t1⟩ := keep_ty q2 T1.out
  go_wp2_with fail
  refine (H3.out _).mono ?_
  rintro e w3 ⟨rfl, ho3⟩
  have o3 := o2.next ho3 (by simp)
  obtain ⟨t0, t1⟩ := keep_ty ho3 ⟨t0, t1⟩
  go_wp2_with fail
  refine (H4.out _).mono ?_
  rintro e w4 ⟨rfl, ho4⟩
  have o4 := o3.next ho4 (by simp)
  clear t0 t1
  go_wp2_with fail
  refine (known_any _).mono ?_
  rintro e w5 ⟨rfl, ho5⟩
  obtain ⟨x0, x1⟩ := keep_ty ho5 (keep_ty ho4 (keep_ty ho3 X2.out))
  obtain ⟨y0, y1⟩ := keep_ty ho5 (keep_ty ho4 (keep_ty ho3 Y2.out))
  go_wp2
  go_ret
  exact ⟨by simp, o4.next ho5 (by simp)⟩

theorem types_walk (l : List UInt8) (hl : l.length ≤ 9223372036854775807) (t : Ty) (ht : t.2.length ≤ 9223372036854775807) (w : World) :
    Calls Try.prog 4 #[.string (str l), tyV t] w fun e w' => e = .returned (.bool true) ∧ Below w.heap.size w w' :=
  (types_any l hl t ht w).mono fun _ _ h => ⟨h.1, h.2.below (Nat.le_refl _) (by simp)⟩

end Go.Proofs.Ytfpdgfgbonbpjaa
