/-
  The contracts of the second program's Text, Number, Class, Type of a list's entries. Texts have at most 1048576 bytes.
-/
import Derived.Test.YtemjhlhioeopnaaDoorYHeld
namespace Go.Proofs.YtemjhlhioeopnaaDoor
open Go.RowKit

set_option maxHeartbeats 400000 in
set_option maxRecDepth 100000 in
theorem rpnumber_any {w : World} {ao : Option Addr} {l : List En} {d cap : Nat} (hE : ES w ao l d) (hl : l.length ≤ 9223372036854775807) (hA : ∀ e ∈ l, e.2.1.length ≤ 1048576) (i : Int) :
    Calls Tryd.prog 41 #[.slice ao l.length cap, .int .i64 i] w fun r w' => r = .returned (.tuple #[.int .i64 (numberR l i).1, .int .i64 (numberR l i).2]) ∧ Only [] w w' := by
  have HR := rheld_low (cap := cap) hE hl hA i 2 (by omega)
  by_cases h0 : (rightE l i 2).2 = 0
  · obtain ⟨e, he, hk, hw, hR⟩ := right_ok h0
    have e1 : numberR l i = (e.2.2.1, 0) := by unfold numberR; rw [hR]
    rw [e1]
    rw [h0] at HR
    obtain ⟨j, hj, rfl, rfl⟩ := enAt_some he
    have hJ := fun W (hW : Only [] w W) => (hE.only hW (by simp)).at hj
    generalize l[j] = e at *
    obtain ⟨k, t, n, a, b, c⟩ := e
    simp only at *
    have gj : ((j : Int) < (l.length : Int)) := by omega
    clear hE hA h0 he hk hw hR e1
    replace HR := hid HR
    replace hJ := hid hJ
    go_enter Tryd.func41, Tryd.ntmps41
    go_wp2_with fail
    refine HR.out.mono ?_
    rintro e w1 ⟨rfl, ho1⟩
    obtain ⟨off, rfl, y0, y1, y2, y3, y4, y5⟩ := hJ.out w1 ho1
    simp only at y2
    go_wp2
    go_ret2
    exact ⟨rfl, ho1⟩
  · have e1 : numberR l i = (0, (rightE l i 2).2) := by
      unfold numberR
      rw [right_no h0]
      simp [en0]
    rw [e1]
    generalize (rightE l i 2).2 = er at *
    have g3 : (er == 0) = false := by simpa using h0
    clear hE hA e1
    replace HR := hid HR
    go_enter Tryd.func41, Tryd.ntmps41
    go_wp2_with (go_at_call 53; refine HR.out.mono ?_; rintro e w1 ⟨rfl, ho1⟩)
    go_ret2
    exact ⟨rfl, ho1⟩

set_option maxHeartbeats 400000 in
set_option maxRecDepth 100000 in
theorem rpclass_any {w : World} {ao : Option Addr} {l : List En} {d cap : Nat} (hE : ES w ao l d) (hl : l.length ≤ 9223372036854775807) (hA : ∀ e ∈ l, e.2.1.length ≤ 1048576) (i : Int) :
    Calls Tryd.prog 42 #[.slice ao l.length cap, .int .i64 i] w fun r w' => r = .returned (.tuple #[.string (str (classR l i).1), .int .i64 (classR l i).2]) ∧ Only [] w w' := by
  have HR := rheld_low (cap := cap) hE hl hA i 3 (by omega)
  by_cases h0 : (rightE l i 3).2 = 0
  · obtain ⟨e, he, hk, hw, hR⟩ := right_ok h0
    obtain ⟨s, hs, _⟩ := wrong_class hw hk
    have e1 : classR l i = (s, 0) := by
      unfold classR
      rw [hR]
      simp [textAt_textOf hs]
    rw [e1]
    rw [h0] at HR
    obtain ⟨j, hj, rfl, rfl⟩ := enAt_some he
    have hJ := fun W (hW : Only [] w W) => (hE.only hW (by simp)).at hj
    have hS := fun W (hW : Only [] w W) => text_cell (hE.only hW (by simp)) hs
    generalize l[j] = e at *
    obtain ⟨k, t, n, a, b, c⟩ := e
    simp only at *
    have gj : ((j : Int) < (l.length : Int)) := by omega
    clear hE hA h0 he hk hw hR hs e1
    replace HR := hid HR
    replace hJ := hid hJ
    replace hS := hid hS
    go_enter Tryd.func42, Tryd.ntmps42
    go_wp2_with fail
    refine HR.out.mono ?_
    rintro e w1 ⟨rfl, ho1⟩
    obtain ⟨js, off', rfl, hjs, hao, hc, _⟩ := hS.out w1 ho1
    obtain ⟨off, hao2, y0, y1, y2, y3, y4, y5⟩ := hJ.out w1 ho1
    rw [hao] at hao2
    simp at hao2
    subst hao2
    subst hao
    simp only at y3
    have gs : ((js : Int) < (l.length : Int)) := by omega
    go_wp2
    go_ret2
    exact ⟨rfl, ho1⟩
  · have e1 : classR l i = ([], (rightE l i 3).2) := by simp [classR, h0]
    rw [e1]
    generalize (rightE l i 3).2 = er at *
    have g3 : (er == 0) = false := by simpa using h0
    clear hE hA e1
    replace HR := hid HR
    go_enter Tryd.func42, Tryd.ntmps42
    go_wp2_with (go_at_call 53; refine HR.out.mono ?_; rintro e w1 ⟨rfl, ho1⟩)
    go_ret2
    exact ⟨rfl, ho1⟩

theorem rptype_result {w : World} {b : Nat} {t : Ty} {x : Value} (h : TyAt w b t) (tmps : Array Value) (h2 : tmps.getD 4 undef = .pointer (some ⟨b, 0, none⟩)) (h3 : tmps.getD 5 undef = x) :
    (results Tryd.f44 tmps).run Tryd.prog w = .ok (.tuple #[tyV t, x]) w := by
  obtain ⟨c0, c1, _, _⟩ := h
  rw [results_cell_tmp (p := 4) (u := 5) (ty := 78) Tryd.results44, h2, h3]
  simp [go_sem, c0, c1, tyV]

set_option maxHeartbeats 400000 in
set_option maxRecDepth 100000 in
theorem rptype_any {w : World} {ao : Option Addr} {l : List En} {d cap : Nat} (hE : ES w ao l d) (hl : l.length ≤ 9223372036854775807) (hA : ∀ e ∈ l, e.2.1.length ≤ 1048576) (i : Int) :
    Calls Tryd.prog 44 #[.slice ao l.length cap, .int .i64 i] w fun r w' => r = .returned (.tuple #[tyV (typeAtR l i).1, .int .i64 (typeAtR l i).2]) ∧ Only [] w w' := by
  have o0 := (Only.refl [] w).alloc (.cells #[.int .i64 0, .string ⟨#[]⟩] 78)
  have T0 := tyAt_new' w 0 []
  have HR := rheld_low (cap := cap) (hE.only o0 (by simp)) hl hA i 4 (by omega)
  by_cases h0 : (rightE l i 4).2 = 0
  · obtain ⟨e, he, hk, hw, hR⟩ := right_ok h0
    obtain ⟨s, hs, hz⟩ := wrong_type hw hk
    have e1 : typeAtR l i = typeR s := by
      unfold typeAtR
      rw [hR]
      simp [textAt_textOf hs]
    rw [e1]
    rw [h0] at HR
    obtain ⟨j, hj, rfl, rfl⟩ := enAt_some he
    have hJ := fun W (hW : Only [] w W) => (hE.only hW (by simp)).at hj
    have hS := fun W (hW : Only [] w W) => text_cell (hE.only hW (by simp)) hs
    have hm := text_mem hs
    have HT := fun W => rtype_any s (by have := small_text hA hm; omega) W
    generalize l[j] = e at *
    obtain ⟨k, t, n, a, b, c⟩ := e
    generalize typeR s = X at *
    obtain ⟨⟨xd, xn⟩, xe⟩ := X
    simp only at *
    subst hz
    simp only [tyV] at HT ⊢
    have gj : ((j : Int) < (l.length : Int)) := by omega
    clear hE hA h0 he hk hw hR hs e1 hm
    replace HR := hid HR
    replace hJ := hid hJ
    replace hS := hid hS
    replace HT := hid HT
    replace T0 := hid T0
    go_enter Tryd.func44, Tryd.ntmps44
    go_wp2_with fail
    refine HR.out.mono ?_
    rintro e w1 ⟨rfl, ho1⟩
    have o1 := o0.next ho1 (by simp)
    obtain ⟨js, off', rfl, hjs, hao, hc, _⟩ := hS.out w1 o1
    obtain ⟨off, hao2, y0, y1, y2, y3, y4, y5⟩ := hJ.out w1 o1
    rw [hao] at hao2
    simp at hao2
    subst hao2
    subst hao
    simp only at y3
    have gs : ((js : Int) < (l.length : Int)) := by omega
    go_wp2_with fail
    refine (HT.out _).mono ?_
    rintro e w2 ⟨rfl, ho2⟩
    have T1 := hid ((T0.out.only ho1 (by simp)).only ho2 (by simp))
    obtain ⟨t0, t1, f0, f1⟩ := T1.out
    go_wp2
    exact bodyPost_ret (rptype_result (T1.out.put xd xn) _ rfl rfl) rfl ⟨rfl, ((o1.next ho2 (by simp)).setCell (.inr (by simp)) _).setCell (.inr (by simp)) _⟩
  · have e1 : typeAtR l i = ((0, []), (rightE l i 4).2) := by simp [typeAtR, h0]
    rw [e1]
    generalize (rightE l i 4).2 = er at *
    have g3 : (er == 0) = false := by simpa using h0
    simp only [tyV]
    clear hE hA e1
    replace HR := hid HR
    replace T0 := hid T0
    go_enter Tryd.func44, Tryd.ntmps44
    go_wp2_with fail
    refine HR.out.mono ?_
    rintro e w1 ⟨rfl, ho1⟩
    have o1 := o0.next ho1 (by simp)
    have T1 := hid (T0.out.only ho1 (by simp))
    obtain ⟨t0, t1, f0, f1⟩ := T1.out
    go_wp2
    exact bodyPost_ret (rptype_result (T1.out.put 0 []) _ rfl rfl) rfl ⟨rfl, (o1.setCell (.inr (by simp)) _).setCell (.inr (by simp)) _⟩

end Go.Proofs.YtemjhlhioeopnaaDoor
