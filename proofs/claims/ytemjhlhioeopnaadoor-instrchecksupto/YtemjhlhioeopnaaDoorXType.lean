/-
  The contracts of the second program's Type and TypeText. No conditions.
-/
import Derived.Test.YtemjhlhioeopnaaDoorXOne
import Derived.Test.YtemjhlhioeopnaaDoorDRow
namespace Go.Proofs.YtemjhlhioeopnaaDoor
open Go.RowKit

theorem rtype_result {w : World} {b : Nat} {x : Value} {t : Ty} (h : TyAt w b t) (tmps : Array Value) (h2 : tmps.getD 2 undef = .pointer (some ⟨b, 0, none⟩)) (h3 : tmps.getD 3 undef = x) :
    (results Tryd.f54 tmps).run Tryd.prog w = .ok (.tuple #[tyV t, x]) w := by
  obtain ⟨c0, c1, _, _⟩ := h
  rw [results_cell_tmp (p := 2) (u := 3) (ty := 78) Tryd.results54, h2, h3]
  simp [go_sem, c0, c1, tyV]

set_option maxHeartbeats 400000 in
set_option maxRecDepth 100000 in
theorem rtype_any (l : List UInt8) (hl : l.length ≤ 9223372036854775807) (w : World) : Calls Tryd.prog 54 #[.string (str l)] w fun e w' => e = .returned (.tuple #[tyV (typeR l).1, .int .i64 (typeR l).2]) ∧ Only [] w w' := by
  have hs := str_size l
  have R0 := hid (tyAt_new w 0 [])
  have o0 := (Only.refl [] w).alloc (.cells #[.int .i64 0, .string ⟨#[]⟩] 78)
  have HO := hid (one_any l hl 0 (Nat.zero_le _) (w.alloc (.cells #[.int .i64 0, .string ⟨#[]⟩] 78)))
  go_enter Tryd.func54, Tryd.ntmps54
  go_wp2_with fail
  refine HO.out.mono ?_
  rintro e w1 ⟨⟨td, tn⟩, n, rfl, hR, ho1⟩
  simp only [tyV]
  replace R0 := hid (R0.out.only (ho1.alloc (.cells #[.int .i64 td, .string (str tn)] 78)) (by simp))
  obtain ⟨r0, r1, rf0, rf1⟩ := R0.out
  have o1 := (o0.next ho1 (by simp)).alloc (.cells #[.int .i64 td, .string (str tn)] 78)
  unfold OneR at hR
  rw [List.drop_zero] at hR
  by_cases hq : n = (l.length : Int)
  · subst hq
    have e1 : Hid (typeR l = ((td, tn), 0)) := by
      unfold Hid typeR
      cases hf : firstP 0 l with
      | none =>
        rw [hf] at hR
        simp at hR
      | some x =>
        obtain ⟨t', r⟩ := x
        rw [hf] at hR
        simp only [] at hR
        obtain ⟨h1, h2, h3, h4⟩ := hR
        have : r = [] := List.eq_nil_of_length_eq_zero (by omega)
        subst this
        rw [← h1]
    clear hR
    go_wp2
    refine bodyPost_ret (rtype_result (R0.out.put td tn) _ rfl rfl) rfl ⟨by rw [e1.out]; rfl, (o1.setCell (.inr (by simp)) _).setCell (.inr (by simp)) _⟩
  · have hq2 : (n == (l.length : Int)) = false := by simpa using hq
    have e1 : Hid (typeR l = ((0, []), 15)) := by
      unfold Hid typeR
      cases hf : firstP 0 l with
      | none => rfl
      | some x =>
        obtain ⟨t', r⟩ := x
        rw [hf] at hR
        simp only [] at hR
        obtain ⟨h1, h2, h3, h4⟩ := hR
        cases r with
        | nil => simp at h2; exact absurd h2 hq
        | cons a b => rfl
    clear hR hq
    go_wp2
    refine bodyPost_ret (rtype_result (R0.out.put 0 []) _ rfl rfl) rfl ⟨by rw [e1.out]; rfl, (o1.setCell (.inr (by simp)) _).setCell (.inr (by simp)) _⟩

end Go.Proofs.YtemjhlhioeopnaaDoor