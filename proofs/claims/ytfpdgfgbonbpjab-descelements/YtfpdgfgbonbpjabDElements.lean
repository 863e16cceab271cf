/-
  The walk of DescElements: it answers true of whatever type, and writes nothing that was there. No conditions.
-/
import Derived.Test.YtfpdgfgbonbpjabDKnown
import Derived.Test.YtfpdgfgbonbpjabDTText
namespace Go.Proofs.Ytfpdgfgbonbpjab
open Go.RowKit

theorem text_less (d : Int) (n : List UInt8) (h : 0 < d) : tyText (d, n) = 91 :: tyText (d - 1, n) := by
  unfold tyText
  rw [show d.toNat = (d - 1).toNat + 1 by omega, List.replicate_succ]
  rfl

theorem check_less {d : Int} {n : List UInt8} (h : tyCheck (d, n) = 0) (hd : d ≠ 0) : tyCheck (d - 1, n) = 0 := by
  have hb := check_bounds h
  simp only [tyCheck] at h ⊢
  rw [if_neg (by omega)] at h ⊢
  exact h

theorem eq_none (w : World) : (binOp .eql 24 (.agg #[.int .i64 0, .string (str [])]) (.agg #[.int .i64 0, .string ⟨#[]⟩])).run Try.prog w = .ok (.bool true) w := eq_type (0, []) (0, []) w

set_option maxHeartbeats 400000 in
set_option maxRecDepth 100000 in
theorem elements_walk (t : Ty) (hl : t.2.length ≤ 9223372036854775807) (w : World) : Calls Try.prog 7 #[tyV t] w fun e w' => e = .returned (.bool true) ∧ Below w.heap.size w w' := by
  obtain ⟨d, n⟩ := t
  have ho := (Only.refl [] w).alloc (.cells #[.int .i64 d, .string (str n)] 24)
  have HK := hid (known_any (w.alloc (.cells #[.int .i64 d, .string (str n)] 24)))
  by_cases h : tyCheck (d, n) = 0
  · by_cases hd : d = 0
    · subst hd
      have he : tyElement (0, n) = ((0, []), false) := by simp [tyElement]
      simp only [tyV]
      go_enter Try.func7, Try.ntmps7
      go_wp2_with fail
      refine HK.out.mono ?_
      rintro e w1 ⟨rfl, ho1⟩
      have o1 := ho.next ho1 (by simp)
      have c0 : w1.cell? ⟨w.heap.size, 0, none⟩ = some (.int .i64 0) := by rw [ho1.cell (by simp) (by simp), cell_new]; rfl
      have c1 : w1.cell? ⟨w.heap.size, 1, none⟩ = some (.string (str n)) := by rw [ho1.cell (by simp) (by simp), cell_new]; rfl
      have HT := typeText_any (0, n) hl w1
      rw [h] at HT
      simp only [tyV] at HT
      have HT := hid HT
      go_wp2_with fail
      refine HT.out.mono ?_
      rintro e w2 ⟨rfl, ho2⟩
      have o2 := o1.next ho2 (by simp)
      have c0 : w2.cell? ⟨w.heap.size, 0, none⟩ = some (.int .i64 0) := by rw [ho2.cell (World.block_lt_of_cell? _ _ c0) (by simp)]; exact c0
      have c1 : w2.cell? ⟨w.heap.size, 1, none⟩ = some (.string (str n)) := by rw [ho2.cell (World.block_lt_of_cell? _ _ c1) (by simp)]; exact c1
      have HE := element_any (0, n) hl w2
      rw [he] at HE
      simp only [tyV] at HE
      have HE := hid HE
      go_wp2_with fail
      refine HE.out.mono ?_
      rintro e w3 ⟨rfl, ho3⟩
      have o3 := o2.next ho3 (by simp)
      have c0 : ∀ o, (w3.alloc o).cell? ⟨w.heap.size, 0, none⟩ = some (.int .i64 0) := fun o => cell_alloc o (by rw [ho3.cell (World.block_lt_of_cell? _ _ c0) (by simp)]; exact c0)
      have c1 : ∀ o, (w3.alloc o).cell? ⟨w.heap.size, 1, none⟩ = some (.string (str n)) := fun o => cell_alloc o (by rw [ho3.cell (World.block_lt_of_cell? _ _ c1) (by simp)]; exact c1)
      have hq := eq_none
      go_wp2
      go_ret
      exact ⟨by simp, (o3.alloc _).below (Nat.le_refl _) (by simp)⟩
    · have he : tyElement (d, n) = ((d - 1, n), true) := by simp [tyElement, h, hd]
      have hb := check_bounds h
      have h' := check_less h hd
      have hx := hid (text_less d n (by omega))
      have ht0 : ttR (d, n) = tyText (d, n) := by simp [ttR, h]
      have ht1 : ttR (d - 1, n) = tyText (d - 1, n) := by simp [ttR, h']
      have hd0 : (d == 0) = false := by simpa using hd
      have hob : tyObject (d, n) = true := by simp [tyObject, h, hd]
      have hf := fit_len (check_fit h')
      clear hd
      simp only [tyV]
      go_enter Try.func7, Try.ntmps7
      go_wp2_with fail
      refine HK.out.mono ?_
      rintro e w1 ⟨rfl, ho1⟩
      have o1 := ho.next ho1 (by simp)
      have c0 : w1.cell? ⟨w.heap.size, 0, none⟩ = some (.int .i64 d) := by rw [ho1.cell (by simp) (by simp), cell_new]; rfl
      have c1 : w1.cell? ⟨w.heap.size, 1, none⟩ = some (.string (str n)) := by rw [ho1.cell (by simp) (by simp), cell_new]; rfl
      have HT := typeText_any (d, n) hl w1
      rw [h, ht0, hx.out] at HT
      simp only [tyV] at HT
      have HT := hid HT
      go_wp2_with fail
      refine HT.out.mono ?_
      rintro e w2 ⟨rfl, ho2⟩
      have o2 := o1.next ho2 (by simp)
      have c0 : w2.cell? ⟨w.heap.size, 0, none⟩ = some (.int .i64 d) := by rw [ho2.cell (World.block_lt_of_cell? _ _ c0) (by simp)]; exact c0
      have c1 : w2.cell? ⟨w.heap.size, 1, none⟩ = some (.string (str n)) := by rw [ho2.cell (World.block_lt_of_cell? _ _ c1) (by simp)]; exact c1
      have HE := element_any (d, n) hl w2
      rw [he] at HE
      simp only [tyV] at HE
      have HE := hid HE
      go_wp2_with fail
      refine HE.out.mono ?_
      rintro e w3 ⟨rfl, ho3⟩
      have o3 := o2.next ho3 (by simp)
      have c0 : ∀ o, (w3.alloc o).cell? ⟨w.heap.size, 0, none⟩ = some (.int .i64 d) := fun o => cell_alloc o (by rw [ho3.cell (World.block_lt_of_cell? _ _ c0) (by simp)]; exact c0)
      have c1 : ∀ o, (w3.alloc o).cell? ⟨w.heap.size, 1, none⟩ = some (.string (str n)) := fun o => cell_alloc o (by rw [ho3.cell (World.block_lt_of_cell? _ _ c1) (by simp)]; exact c1)
      have HU := typeText_any (d - 1, n) hl (w3.alloc (.cells #[.int .i64 (d - 1), .string (str n)] 24))
      rw [h', ht1] at HU
      simp only [tyV] at HU
      generalize tyText (d - 1, n) = u at *
      have HU := hid HU
      go_wp2_with fail
      refine HU.out.mono ?_
      rintro e w4 ⟨rfl, ho4⟩
      have o4 := (o3.alloc (.cells #[.int .i64 (d - 1), .string (str n)] 24)).next ho4 (by simp)
      have k0 : w4.cell? ⟨w.heap.size, 0, none⟩ = some (.int .i64 d) := by rw [ho4.cell (World.block_lt_of_cell? _ _ (c0 _)) (by simp)]; exact c0 _
      have k1 : w4.cell? ⟨w.heap.size, 1, none⟩ = some (.string (str n)) := by rw [ho4.cell (World.block_lt_of_cell? _ _ (c1 _)) (by simp)]; exact c1 _
      have k2 : w4.cell? ⟨w3.heap.size, 0, none⟩ = some (.int .i64 (d - 1)) := by rw [ho4.cell (by simp) (by simp), cell_new]; rfl
      have k3 : w4.cell? ⟨w3.heap.size, 1, none⟩ = some (.string (str n)) := by rw [ho4.cell (by simp) (by simp), cell_new]; rfl
      clear c0 c1
      have HO := object_any (d, n) hl w4
      rw [hob] at HO
      simp only [tyV] at HO
      have HO := hid HO
      have hcat : ∀ w, (Op.stringOp .add ⟨#[91]⟩ (str u)).run Try.prog w = .ok (.string (str (91 :: u))) w := fun w => run_cat [91] u (by simp; omega) w
      have ht := str_toList n
      have hu := str_toList (91 :: u)
      go_wp2_with fail
      refine HO.out.mono ?_
      rintro e w5 ⟨rfl, ho5⟩
      have o5 := o4.next ho5 (by simp)
      have k0 : w5.cell? ⟨w.heap.size, 0, none⟩ = some (.int .i64 d) := by rw [ho5.cell (World.block_lt_of_cell? _ _ k0) (by simp)]; exact k0
      have k1 : w5.cell? ⟨w.heap.size, 1, none⟩ = some (.string (str n)) := by rw [ho5.cell (World.block_lt_of_cell? _ _ k1) (by simp)]; exact k1
      have k2 : w5.cell? ⟨w3.heap.size, 0, none⟩ = some (.int .i64 (d - 1)) := by rw [ho5.cell (World.block_lt_of_cell? _ _ k2) (by simp)]; exact k2
      have k3 : w5.cell? ⟨w3.heap.size, 1, none⟩ = some (.string (str n)) := by rw [ho5.cell (World.block_lt_of_cell? _ _ k3) (by simp)]; exact k3
      go_wp2
      go_ret
      exact ⟨by simp, o5.below (Nat.le_refl _) (by simp)⟩
  · have he : tyElement (d, n) = ((0, []), false) := by simp [tyElement, h]
    have ht0 : ttR (d, n) = [] := by simp [ttR, h]
    have HC := fun w => check_any (d, n) hl w
    have HX := fun w => typeText_any (d, n) hl w
    generalize tyCheck (d, n) = c at *
    simp only [tyV]
    go_enter Try.func7, Try.ntmps7
    go_wp2_with fail
    refine HK.out.mono ?_
    rintro e w1 ⟨rfl, ho1⟩
    have o1 := ho.next ho1 (by simp)
    have c0 : w1.cell? ⟨w.heap.size, 0, none⟩ = some (.int .i64 d) := by rw [ho1.cell (by simp) (by simp), cell_new]; rfl
    have c1 : w1.cell? ⟨w.heap.size, 1, none⟩ = some (.string (str n)) := by rw [ho1.cell (by simp) (by simp), cell_new]; rfl
    have HT := HX w1
    rw [ht0] at HT
    simp only [tyV] at HT
    have HT := hid HT
    go_wp2_with fail
    refine HT.out.mono ?_
    rintro e w2 ⟨rfl, ho2⟩
    have o2 := o1.next ho2 (by simp)
    have c0 : w2.cell? ⟨w.heap.size, 0, none⟩ = some (.int .i64 d) := by rw [ho2.cell (World.block_lt_of_cell? _ _ c0) (by simp)]; exact c0
    have c1 : w2.cell? ⟨w.heap.size, 1, none⟩ = some (.string (str n)) := by rw [ho2.cell (World.block_lt_of_cell? _ _ c1) (by simp)]; exact c1
    have HE := element_any (d, n) hl w2
    rw [he] at HE
    simp only [tyV] at HE
    have HE := hid HE
    go_wp2_with fail
    refine HE.out.mono ?_
    rintro e w3 ⟨rfl, ho3⟩
    have o3 := o2.next ho3 (by simp)
    have c0 : ∀ o, (w3.alloc o).cell? ⟨w.heap.size, 0, none⟩ = some (.int .i64 d) := fun o => cell_alloc o (by rw [ho3.cell (World.block_lt_of_cell? _ _ c0) (by simp)]; exact c0)
    have c1 : ∀ o, (w3.alloc o).cell? ⟨w.heap.size, 1, none⟩ = some (.string (str n)) := fun o => cell_alloc o (by rw [ho3.cell (World.block_lt_of_cell? _ _ c1) (by simp)]; exact c1)
    have hq := eq_none
    have HC := HC (w3.alloc (.cells #[.int .i64 0, .string ⟨#[]⟩] 24))
    simp only [tyV] at HC
    have HC := hid HC
    clear HX
    go_wp2_with fail
    refine HC.out.mono ?_
    rintro e w4 ⟨rfl, ho4⟩
    go_wp2
    go_ret
    exact ⟨by simp, ((o3.alloc _).next ho4 (by simp)).below (Nat.le_refl _) (by simp)⟩

end Go.Proofs.Ytfpdgfgbonbpjab
