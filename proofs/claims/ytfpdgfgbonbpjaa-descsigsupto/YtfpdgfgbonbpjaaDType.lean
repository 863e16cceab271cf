/-
  The contracts of Check, Number, Object, Element: what each answers of whatever type. No conditions.
-/
import Derived.Test.YtfpdgfgbonbpjaaDName
import Derived.Laws.StructEq
namespace Go.Proofs.Ytfpdgfgbonbpjaa
open Go.RowKit

/-- A type: its dimensions, its name. -/
abbrev Ty := Int × List UInt8
def tyV (t : Ty) : Value := .agg #[.int .i64 t.1, .string (str t.2)]
def tyCheck (t : Ty) : Int := if t.1 < 0 ∨ 8 < t.1 then 1 else if t.2 ≠ [] ∧ nameOK t.2 = false then 14 else 0
def tyObject (t : Ty) : Bool := decide (tyCheck t = 0) && !decide (t = (0, []))
def tyElement (t : Ty) : Ty × Bool := if tyCheck t = 0 ∧ t.1 ≠ 0 then ((t.1 - 1, t.2), true) else ((0, []), false)

set_option maxHeartbeats 400000 in
theorem check_any (t : Ty) (hl : t.2.length ≤ 9223372036854775807) (w : World) : Calls Try.prog 17 #[tyV t] w fun e w' => e = .returned (.int .i64 (tyCheck t)) ∧ Only [] w w' := by
  obtain ⟨d, n⟩ := t
  simp only [tyV]
  have ho := (Only.refl [] w).alloc (.cells #[.int .i64 d, .string (str n)] 23)
  have HN := hid (name_any n hl (w.alloc (.cells #[.int .i64 d, .string (str n)] 23)))
  have ht := str_toList n
  by_cases h1 : d < 0
  · go_enter Try.func17, Try.ntmps17
    go_wp2
    go_ret
    exact ⟨by simp [tyCheck, h1], ho⟩
  by_cases h2 : 8 < d
  · go_enter Try.func17, Try.ntmps17
    go_wp2
    go_ret
    exact ⟨by simp [tyCheck, h2], ho⟩
  by_cases h3 : n = []
  · subst h3
    go_enter Try.func17, Try.ntmps17
    go_wp2_with (go_at_call 13; refine HN.out.mono ?_; rintro e w' ⟨rfl, rfl⟩)
    go_ret
    exact ⟨by simp [tyCheck, h1, h2], ho⟩
  have hi : n.isEmpty = false := by simpa using h3
  cases h4 : nameOK n with
  | true =>
    rw [h4] at HN
    go_enter Try.func17, Try.ntmps17
    go_wp2_with (go_at_call 13; refine HN.out.mono ?_; rintro e w' ⟨rfl, rfl⟩)
    go_ret
    exact ⟨by simp [tyCheck, h1, h2, h4], ho⟩
  | false =>
    rw [h4] at HN
    go_enter Try.func17, Try.ntmps17
    go_wp2_with (go_at_call 13; refine HN.out.mono ?_; rintro e w' ⟨rfl, rfl⟩)
    go_ret
    exact ⟨by simp [tyCheck, h1, h2, h3, h4], ho⟩

theorem eq_type (a b : Ty) (w : World) : (binOp .eql 23 (tyV a) (tyV b)).run Try.prog w = .ok (.bool (decide (a = b))) w := by
  obtain ⟨d, n⟩ := a
  obtain ⟨d', n'⟩ := b
  have hS : Try.prog.underlying 23 = some (.struct (Try.prog.fieldsOf 23)) := by kernel_rfl
  have hp : Try.prog.stoodInHeld 23 = false := by kernel_rfl
  simp only [tyV]
  rw [run_eql_struct, show (10000 : Nat) = 9999 + 1 from rfl, run_equalIn_agg w 9999 23 _ _ hS hp]
  simp only [Program.fieldsOf, Try.underlying23]
  go_simp
  simp only [str_toList]
  by_cases h1 : d = d' <;> by_cases h2 : n = n' <;> simp [h1, h2]

theorem neq_type (a b : Ty) (w : World) : (binOp .neq 23 (tyV a) (tyV b)).run Try.prog w = .ok (.bool (!decide (a = b))) w := by
  obtain ⟨d, n⟩ := a
  obtain ⟨d', n'⟩ := b
  have hS : Try.prog.underlying 23 = some (.struct (Try.prog.fieldsOf 23)) := by kernel_rfl
  have hp : Try.prog.stoodInHeld 23 = false := by kernel_rfl
  simp only [tyV]
  rw [run_neq_struct, show (10000 : Nat) = 9999 + 1 from rfl, run_equalIn_agg w 9999 23 _ _ hS hp]
  simp only [Program.fieldsOf, Try.underlying23]
  go_simp
  simp only [str_toList]
  by_cases h1 : d = d' <;> by_cases h2 : n = n' <;> simp [h1, h2]

theorem ty_zero : tyV (0, []) = .agg #[.int .i64 0, .string ⟨#[]⟩] := rfl

theorem number_any (t : Ty) (w : World) : Calls Try.prog 20 #[tyV t] w fun e w' => e = .returned (.bool (decide (t = (0, [])))) ∧ Only [] w w' := by
  have hq := eq_type t (0, [])
  obtain ⟨d, n⟩ := t
  rw [ty_zero] at hq
  simp only [tyV] at hq ⊢
  have ho := (Only.refl [] w).alloc (.cells #[.int .i64 d, .string (str n)] 23)
  go_enter Try.func20, Try.ntmps20
  go_wp2
  go_ret
  exact ⟨by simp, ho⟩

theorem object_any (t : Ty) (hl : t.2.length ≤ 9223372036854775807) (w : World) : Calls Try.prog 18 #[tyV t] w fun e w' => e = .returned (.bool (tyObject t)) ∧ Only [] w w' := by
  have ho := (Only.refl [] w).alloc (.cells #[.int .i64 t.1, .string (str t.2)] 23)
  have HC := hid (check_any t hl (w.alloc (.cells #[.int .i64 t.1, .string (str t.2)] 23)))
  by_cases h : tyCheck t = 0
  all_goals
    obtain ⟨d, n⟩ := t
    simp only [tyV] at HC ⊢
    go_enter Try.func18, Try.ntmps18
    go_wp2_with fail
    refine HC.out.mono ?_
    rintro e w1 ⟨rfl, ho1⟩
    have c0 : w1.cell? ⟨w.heap.size, 0, none⟩ = some (.int .i64 d) := by rw [ho1.cell (by simp) (by simp), cell_new]; rfl
    have c1 : w1.cell? ⟨w.heap.size, 1, none⟩ = some (.string (str n)) := by rw [ho1.cell (by simp) (by simp), cell_new]; rfl
    have HN := hid (number_any (d, n) w1)
    simp only [tyV] at HN
    go_wp2_with (go_at_call 20; refine HN.out.mono ?_; rintro e w2 ⟨rfl, ho2⟩)
    go_ret
    first
      | exact ⟨by simp [tyObject, h], (ho.next ho1 (by simp)).next ho2 (by simp)⟩
      | exact ⟨by simp [tyObject, h], ho.next ho1 (by simp)⟩

theorem check_bounds {d : Int} {n : List UInt8} (hc : tyCheck (d, n) = 0) : 0 ≤ d ∧ d ≤ 8 := by
  simp only [tyCheck] at hc
  split at hc
  · omega
  · omega

theorem element_0 (n : List UInt8) (hl : n.length ≤ 9223372036854775807) (w : World) : Calls Try.prog 9 #[tyV (0, n)] w fun e w' => e = .returned (.tuple #[tyV (0, []), .bool false]) ∧ Only [] w w' := by
  have ho := ((Only.refl [] w).alloc (.cells #[.int .i64 0, .string (str n)] 23)).alloc (.cells #[.int .i64 0, .string ⟨#[]⟩] 23)
  have HC := hid (check_any (0, n) hl ((w.alloc (.cells #[.int .i64 0, .string (str n)] 23)).alloc (.cells #[.int .i64 0, .string ⟨#[]⟩] 23)))
  simp only [tyV] at HC ⊢
  by_cases h : tyCheck (0, n) = 0
  all_goals
    go_enter Try.func9, Try.ntmps9
    go_wp2_with fail
    refine HC.out.mono ?_
    rintro e w1 ⟨rfl, ho1⟩
    have c0 : w1.cell? ⟨w.heap.size, 0, none⟩ = some (.int .i64 0) := by rw [ho1.cell (by simp; omega) (by simp)]; simp
    have c1 : w1.cell? ⟨w.heap.size, 1, none⟩ = some (.string (str n)) := by rw [ho1.cell (by simp; omega) (by simp)]; simp
    have c2 : w1.cell? ⟨w.heap.size + 1, 0, none⟩ = some (.int .i64 0) := by rw [ho1.cell (by simp) (by simp)]; simp
    have c3 : w1.cell? ⟨w.heap.size + 1, 1, none⟩ = some (.string ⟨#[]⟩) := by rw [ho1.cell (by simp) (by simp)]; simp
    have f2 : w1.frozen? ⟨w.heap.size + 1, 0, none⟩ = false := by rw [ho1.frozen (by simp) (by simp)]; simp
    have f3 : w1.frozen? ⟨w.heap.size + 1, 1, none⟩ = false := by rw [ho1.frozen (by simp) (by simp)]; simp
    have o1 := ho.next ho1 (by simp)
    go_wp2
    obtain ⟨d0, d1⟩ := put2 (.int .i64 0) (.string ⟨#[]⟩) c2 c3 (by omega)
    refine bodyPost_ret (v := .tuple #[.agg #[.int .i64 0, .string ⟨#[]⟩], .bool false]) (by simp [results, Try.results9, go_sem, d0, d1]) rfl ⟨rfl, (o1.setCell (.inr (by simp)) _).setCell (.inr (by simp)) _⟩

theorem element_1 (d : Int) (hd : (d == 0) = false) (n : List UInt8) (hl : n.length ≤ 9223372036854775807) (w : World) : Calls Try.prog 9 #[tyV (d, n)] w fun e w' => e = .returned (.tuple #[tyV (tyElement (d, n)).1, .bool (tyElement (d, n)).2]) ∧ Only [] w w' := by
  have ho := ((Only.refl [] w).alloc (.cells #[.int .i64 d, .string (str n)] 23)).alloc (.cells #[.int .i64 0, .string ⟨#[]⟩] 23)
  have HC := hid (check_any (d, n) hl ((w.alloc (.cells #[.int .i64 d, .string (str n)] 23)).alloc (.cells #[.int .i64 0, .string ⟨#[]⟩] 23)))
  have hd' : d ≠ 0 := by simpa using hd
  by_cases h : tyCheck (d, n) = 0
  · have hb := check_bounds h
    have he : tyElement (d, n) = ((d - 1, n), true) := by simp [tyElement, h, hd']
    rw [he]
    clear hd'
    simp only [tyV] at HC ⊢
    go_enter Try.func9, Try.ntmps9
    go_wp2_with fail
    refine HC.out.mono ?_
    rintro e w1 ⟨rfl, ho1⟩
    have c0 : w1.cell? ⟨w.heap.size, 0, none⟩ = some (.int .i64 d) := by rw [ho1.cell (by simp; omega) (by simp)]; simp
    have c1 : w1.cell? ⟨w.heap.size, 1, none⟩ = some (.string (str n)) := by rw [ho1.cell (by simp; omega) (by simp)]; simp
    have c2 : w1.cell? ⟨w.heap.size + 1, 0, none⟩ = some (.int .i64 0) := by rw [ho1.cell (by simp) (by simp)]; simp
    have c3 : w1.cell? ⟨w.heap.size + 1, 1, none⟩ = some (.string ⟨#[]⟩) := by rw [ho1.cell (by simp) (by simp)]; simp
    have f2 : w1.frozen? ⟨w.heap.size + 1, 0, none⟩ = false := by rw [ho1.frozen (by simp) (by simp)]; simp
    have f3 : w1.frozen? ⟨w.heap.size + 1, 1, none⟩ = false := by rw [ho1.frozen (by simp) (by simp)]; simp
    have o1 := ho.next ho1 (by simp)
    go_wp2
    obtain ⟨d0, d1⟩ := put2 (.int .i64 (d - 1)) (.string (str n)) c2 c3 (by omega)
    refine bodyPost_ret (v := .tuple #[.agg #[.int .i64 (d - 1), .string (str n)], .bool true]) (by simp [results, Try.results9, go_sem, d0, d1]) rfl ⟨rfl, (o1.setCell (.inr (by simp)) _).setCell (.inr (by simp)) _⟩
  · have he : tyElement (d, n) = ((0, []), false) := by simp [tyElement, h]
    rw [he]
    clear hd'
    simp only [tyV] at HC ⊢
    go_enter Try.func9, Try.ntmps9
    go_wp2_with fail
    refine HC.out.mono ?_
    rintro e w1 ⟨rfl, ho1⟩
    have c2 : w1.cell? ⟨w.heap.size + 1, 0, none⟩ = some (.int .i64 0) := by rw [ho1.cell (by simp) (by simp)]; simp
    have c3 : w1.cell? ⟨w.heap.size + 1, 1, none⟩ = some (.string ⟨#[]⟩) := by rw [ho1.cell (by simp) (by simp)]; simp
    have f2 : w1.frozen? ⟨w.heap.size + 1, 0, none⟩ = false := by rw [ho1.frozen (by simp) (by simp)]; simp
    have f3 : w1.frozen? ⟨w.heap.size + 1, 1, none⟩ = false := by rw [ho1.frozen (by simp) (by simp)]; simp
    have o1 := ho.next ho1 (by simp)
    go_wp2
    obtain ⟨d0, d1⟩ := put2 (.int .i64 0) (.string ⟨#[]⟩) c2 c3 (by omega)
    refine bodyPost_ret (v := .tuple #[.agg #[.int .i64 0, .string ⟨#[]⟩], .bool false]) (by simp [results, Try.results9, go_sem, d0, d1]) rfl ⟨rfl, (o1.setCell (.inr (by simp)) _).setCell (.inr (by simp)) _⟩

theorem element_any (t : Ty) (hl : t.2.length ≤ 9223372036854775807) (w : World) : Calls Try.prog 9 #[tyV t] w fun e w' => e = .returned (.tuple #[tyV (tyElement t).1, .bool (tyElement t).2]) ∧ Only [] w w' := by
  obtain ⟨d, n⟩ := t
  by_cases h : d = 0
  · subst h
    have he : tyElement (0, n) = ((0, []), false) := by simp [tyElement]
    rw [he]
    exact element_0 n hl w
  · exact element_1 d (by simpa using h) n hl w

end Go.Proofs.Ytfpdgfgbonbpjaa
