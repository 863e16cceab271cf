/-
  The contracts of Text, Number, Class, Type of a list's entries. No conditions.
-/
import Derived.Test.YtemjhlhioeopnabDoorPRight
namespace Go.Proofs.YtemjhlhioeopnabDoor
open Go.RowKit

theorem text_mem {l : List En} {i : Int} {s : List UInt8} (h : textAt l i = some s) : ∃ e ∈ l, e.2.1 = s := by
  obtain ⟨e, he, _, rfl⟩ := textAt_some h
  obtain ⟨j, hj, _, rfl⟩ := enAt_some he
  exact ⟨_, List.getElem_mem hj, rfl⟩

set_option maxHeartbeats 400000 in
set_option maxRecDepth 100000 in
theorem pnumber_any {w : World} {ao : Option Addr} {l : List En} {d cap : Nat} (hE : ES w ao l d) (hl : l.length ≤ 9223372036854775807) (hA : ∀ e ∈ l, e.2.1.length ≤ 9223372036854775807) (i : Int) :
    Calls Tryd.prog 20 #[.slice ao l.length cap, .int .i64 i] w fun r w' => r = .returned (.tuple #[.int .i64 (numberR l i).1, .int .i64 (numberR l i).2]) ∧ Only [] w w' := by
  have HR := right_any (cap := cap) hE hl hA i 2
  unfold numberR
  generalize rightE l i 2 = X at *
  obtain ⟨⟨k, t, n, a, b, c⟩, er⟩ := X
  simp only [enV] at HR ⊢
  clear hE hA
  replace HR := hid HR
  go_enter Tryd.func20, Tryd.ntmps20
  go_wp2_with (go_at_call 26; refine HR.out.mono ?_; rintro e w1 ⟨rfl, ho1⟩)
  go_ret2
  exact ⟨rfl, ho1.alloc _⟩

set_option maxHeartbeats 400000 in
set_option maxRecDepth 100000 in
theorem pclass_any {w : World} {ao : Option Addr} {l : List En} {d cap : Nat} (hE : ES w ao l d) (hl : l.length ≤ 9223372036854775807) (hA : ∀ e ∈ l, e.2.1.length ≤ 9223372036854775807) (i : Int) :
    Calls Tryd.prog 21 #[.slice ao l.length cap, .int .i64 i] w fun r w' => r = .returned (.tuple #[.string (str (classR l i).1), .int .i64 (classR l i).2]) ∧ Only [] w w' := by
  have HR := right_any (cap := cap) hE hl hA i 3
  by_cases h0 : (rightE l i 3).2 = 0
  · obtain ⟨e, he, hk, hw, hR⟩ := right_ok h0
    obtain ⟨s, hs, _⟩ := wrong_class hw hk
    have e1 : classR l i = (s, 0) := by
      unfold classR
      rw [hR]
      simp [textAt_textOf hs]
    rw [e1]
    rw [hR] at HR
    have hJ := fun W (hW : Only [] w W) => text_cell (hE.only hW (by simp)) hs
    obtain ⟨k, t, n, a, b, c⟩ := e
    simp only [enV] at HR hJ ⊢
    clear hE hA h0 he hk hw hR hs e1
    replace HR := hid HR
    replace hJ := hid hJ
    go_enter Tryd.func21, Tryd.ntmps21
    go_wp2_with fail
    refine HR.out.mono ?_
    rintro e w1 ⟨rfl, ho1⟩
    obtain ⟨j, off, rfl, hj, rfl, hc, _⟩ := hJ.out w1 ho1
    have hc' : ∀ o, (w1.alloc o).cell? ⟨d, off + j * 6 + 1, none⟩ = some (.string (str s)) := fun o => cell_alloc o hc
    have g2 : ((j : Int) < (l.length : Int)) := by omega
    go_wp2
    go_ret2
    exact ⟨rfl, ho1.alloc _⟩
  · have e1 : classR l i = ([], (rightE l i 3).2) := by simp [classR, h0]
    rw [e1]
    generalize rightE l i 3 = X at *
    obtain ⟨⟨k, t, n, a, b, c⟩, er⟩ := X
    simp only [enV] at HR h0 ⊢
    have g3 : (er == 0) = false := by simpa using h0
    clear hE hA h0 e1
    replace HR := hid HR
    go_enter Tryd.func21, Tryd.ntmps21
    go_wp2_with fail
    refine HR.out.mono ?_
    rintro e w1 ⟨rfl, ho1⟩
    go_wp2
    go_ret2
    exact ⟨rfl, ho1.alloc _⟩

theorem ptype_result {w : World} {b : Nat} {t : Ty} {x : Value} (h : TyAt w b t) (tmps : Array Value) (h2 : tmps.getD 4 undef = .pointer (some ⟨b, 0, none⟩)) (h3 : tmps.getD 5 undef = x) :
    (results Tryd.f29 tmps).run Tryd.prog w = .ok (.tuple #[tyV t, x]) w := by
  obtain ⟨c0, c1, _, _⟩ := h
  rw [results_cell_tmp (p := 4) (u := 5) (ty := 62) Tryd.results29, h2, h3]
  simp [go_sem, c0, c1, tyV]

theorem tyAt_new' (w : World) (d : Int) (n : List UInt8) : TyAt (w.alloc (.cells #[.int .i64 d, .string (str n)] 62)) w.heap.size (d, n) :=
  ⟨by rw [cell_new]; rfl, by rw [cell_new]; rfl, frozen_new _ _ _ _, frozen_new _ _ _ _⟩

set_option maxHeartbeats 400000 in
set_option maxRecDepth 100000 in
theorem ptype_any {w : World} {ao : Option Addr} {l : List En} {d cap : Nat} (hE : ES w ao l d) (hl : l.length ≤ 9223372036854775807) (hA : ∀ e ∈ l, e.2.1.length ≤ 9223372036854775807) (i : Int) :
    Calls Tryd.prog 29 #[.slice ao l.length cap, .int .i64 i] w fun r w' => r = .returned (.tuple #[tyV (typeAtR l i).1, .int .i64 (typeAtR l i).2]) ∧ Only [] w w' := by
  have o0 := (Only.refl [] w).alloc (.cells #[.int .i64 0, .string ⟨#[]⟩] 62)
  have T0 := tyAt_new' w 0 []
  have HR := right_any (cap := cap) (hE.only o0 (by simp)) hl hA i 4
  by_cases h0 : (rightE l i 4).2 = 0
  · obtain ⟨e, he, hk, hw, hR⟩ := right_ok h0
    obtain ⟨s, hs, hz⟩ := wrong_type hw hk
    have e1 : typeAtR l i = typeR s := by
      unfold typeAtR
      rw [hR]
      simp [textAt_textOf hs]
    rw [e1]
    rw [hR] at HR
    have hJ := fun W (hW : Only [] w W) => text_cell (hE.only hW (by simp)) hs
    have hm := text_mem hs
    have HT := fun W => type_any s (byte_text hA hm) W
    obtain ⟨k, t, n, a, b, c⟩ := e
    generalize typeR s = X at *
    obtain ⟨⟨xd, xn⟩, xe⟩ := X
    simp only at hz
    subst hz
    simp only [enV, tyV] at HR hJ HT ⊢
    clear hE hA h0 he hk hw hR hs e1 hm
    replace HR := hid HR
    replace hJ := hid hJ
    replace HT := hid HT
    replace T0 := hid T0
    go_enter Tryd.func29, Tryd.ntmps29
    go_wp2_with fail
    refine HR.out.mono ?_
    rintro e w1 ⟨rfl, ho1⟩
    have o1 := o0.next ho1 (by simp)
    obtain ⟨j, off, rfl, hj, rfl, hc, _⟩ := hJ.out w1 o1
    have hc' : ∀ o, (w1.alloc o).cell? ⟨d, off + j * 6 + 1, none⟩ = some (.string (str s)) := fun o => cell_alloc o hc
    have g2 : ((j : Int) < (l.length : Int)) := by omega
    go_wp2_with fail
    refine (HT.out _).mono ?_
    rintro e w2 ⟨rfl, ho2⟩
    have hB : w.heap.size < w1.heap.size := by have := ho1.size; simp at this; omega
    have T1 := hid (((T0.out.only ho1 (by simp)).only ((Only.refl [] w1).alloc (.cells #[.int .i64 k, .string (str t), .int .i64 n, .int .i64 (j : Int), .int .i64 b, .int .i64 c] 67)) (by simp)).only ho2 (by simp))
    obtain ⟨t0, t1, f0, f1⟩ := T1.out
    go_wp2
    exact bodyPost_ret (ptype_result (T1.out.put xd xn) _ rfl rfl) rfl ⟨rfl, (((o1.alloc _).next ho2 (by simp)).setCell (.inr (by simp)) _).setCell (.inr (by simp)) _⟩
  · have e1 : typeAtR l i = ((0, []), (rightE l i 4).2) := by simp [typeAtR, h0]
    rw [e1]
    generalize rightE l i 4 = X at *
    obtain ⟨⟨k, t, n, a, b, c⟩, er⟩ := X
    simp only [enV, tyV] at HR h0 ⊢
    have g3 : (er == 0) = false := by simpa using h0
    clear hE hA h0 e1
    replace HR := hid HR
    replace T0 := hid T0
    go_enter Tryd.func29, Tryd.ntmps29
    go_wp2_with fail
    refine HR.out.mono ?_
    rintro e w1 ⟨rfl, ho1⟩
    have o1 := o0.next ho1 (by simp)
    have hB : w.heap.size < w1.heap.size := by have := ho1.size; simp at this; omega
    have T1 := hid (T0.out.only ho1 (by simp))
    obtain ⟨s0, s1, r0, r1⟩ := T0.out.only ho1 (by simp)
    have t0 := fun o => cell_alloc o (T0.out.only ho1 (by simp)).c0
    have t1 := fun o => cell_alloc o (T0.out.only ho1 (by simp)).c1
    have f0 : ∀ o, (w1.alloc o).frozen? ⟨w.heap.size, 0, none⟩ = false := fun o => by rw [frozen_alloc o hB]; exact (T0.out.only ho1 (by simp)).f0
    have f1 : ∀ o, (w1.alloc o).frozen? ⟨w.heap.size, 1, none⟩ = false := fun o => by rw [frozen_alloc o hB]; exact (T0.out.only ho1 (by simp)).f1
    go_wp2
    exact bodyPost_ret (ptype_result ((T1.out.put 0 []).only ((Only.refl [] _).alloc _) (by simp)) _ rfl rfl) rfl ⟨rfl, ((o1.setCell (.inr (by simp)) _).setCell (.inr (by simp)) _).alloc _⟩

end Go.Proofs.YtemjhlhioeopnabDoor
