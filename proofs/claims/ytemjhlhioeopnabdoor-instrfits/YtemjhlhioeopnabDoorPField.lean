/-
  The contracts of Field and Method of a list's entries. No conditions.
-/
import Derived.Test.YtemjhlhioeopnabDoorPMember
namespace Go.Proofs.YtemjhlhioeopnabDoor
open Go.RowKit

theorem member_text {l : List En} {i kind : Int} (hkd : kind = 5 ∨ kind = 6) (h : (memberR l i kind).2 = 0) : ∃ j, textAt l j = some (memberR l i kind).1.2.2 := by
  by_cases h0 : (rightE l i kind).2 = 0
  · obtain ⟨e, he, hk, hw, hR⟩ := right_ok h0
    obtain ⟨_, ⟨sb, hsb⟩, sc, hsc⟩ := wrong_member hkd hw hk
    have hm : memberR l i kind = if (classR l e.2.2.2.1).2 = 0 then (((classR l e.2.2.2.1).1, sb, sc), 0) else (([], [], []), (classR l e.2.2.2.1).2) := by
      unfold memberR
      rw [hR]
      simp only [if_true, textAt_textOf hsb, textAt_textOf hsc]
    rw [hm] at h ⊢
    by_cases hc : (classR l e.2.2.2.1).2 = 0
    · simp only [hc, if_true]
      exact ⟨_, hsc⟩
    · simp [hc] at h
  · have hm : memberR l i kind = (([], [], []), (rightE l i kind).2) := by simp [memberR, h0]
    rw [hm] at h
    exact absurd h h0

theorem pfield_result {w : World} {b : Nat} {t : Ty} {x y z : Value} (h : TyAt w b t) (tmps : Array Value) (h1 : tmps.getD 4 undef = x) (h2 : tmps.getD 5 undef = y) (h3 : tmps.getD 6 undef = .pointer (some ⟨b, 0, none⟩)) (h4 : tmps.getD 7 undef = z) :
    (results Tryd.f22 tmps).run Tryd.prog w = .ok (.tuple #[x, y, tyV t, z]) w := by
  obtain ⟨c0, c1, _, _⟩ := h
  rw [results_ttct (p := 4) (q := 5) (r := 6) (u := 7) (ty := 62) Tryd.results22, h1, h2, h3, h4]
  simp [go_sem, c0, c1, tyV]

theorem pmethod_result {w : World} {b : Nat} {v : Value} {void : Bool} {t : Ty} {x y z : Value} (h : SigAt w b v void t) (tmps : Array Value) (h1 : tmps.getD 4 undef = x) (h2 : tmps.getD 5 undef = y) (h3 : tmps.getD 6 undef = .pointer (some ⟨b, 0, none⟩)) (h4 : tmps.getD 7 undef = z) :
    (results Tryd.f31 tmps).run Tryd.prog w = .ok (.tuple #[x, y, sigV v void t, z]) w := by
  obtain ⟨c0, c1, c2, c3, _, _, _, _⟩ := h
  rw [results_ttct (p := 4) (q := 5) (r := 6) (u := 7) (ty := 79) Tryd.results31, h1, h2, h3, h4]
  simp [go_sem, c0, c1, c2, c3, sigV]

theorem sig_new' (w : World) (v : Value) (void : Bool) (d : Int) (n : List UInt8) : SigAt (w.alloc (.cells #[v, .bool void, .int .i64 d, .string (str n)] 79)) w.heap.size v void (d, n) :=
  ⟨by rw [cell_new]; rfl, by rw [cell_new]; rfl, by rw [cell_new]; rfl, by rw [cell_new]; rfl, frozen_new _ _ _ _, frozen_new _ _ _ _, frozen_new _ _ _ _, frozen_new _ _ _ _⟩

set_option maxHeartbeats 400000 in
set_option maxRecDepth 100000 in
theorem pfield_any {w : World} {ao : Option Addr} {l : List En} {d cap : Nat} (hE : ES w ao l d) (hl : l.length ≤ 9223372036854775807) (hA : ∀ e ∈ l, e.2.1.length ≤ 9223372036854775807) (i : Int) :
    Calls Tryd.prog 22 #[.slice ao l.length cap, .int .i64 i] w fun r w' => r = .returned (.tuple #[.string (str (fieldR l i).1.1), .string (str (fieldR l i).1.2.1), tyV (fieldR l i).1.2.2, .int .i64 (fieldR l i).2]) ∧ Only [] w w' := by
  have o0 := (Only.refl [] w).alloc (.cells #[.int .i64 0, .string ⟨#[]⟩] 62)
  have T0 := tyAt_new' w 0 []
  have HM := member_any (cap := cap) (hE.only o0 (by simp)) hl hA i 5 (.inl rfl)
  have hmt := member_text (l := l) (i := i) (kind := 5) (.inl rfl)
  unfold fieldR
  generalize memberR l i 5 = X at *
  obtain ⟨⟨xc, xn, xt⟩, xe⟩ := X
  simp only at HM hmt ⊢
  clear hE
  by_cases hx : xe = 0
  · subst hx
    obtain ⟨jt, hjt⟩ := hmt rfl
    have HT := fun W => type_any xt (byte_text hA (text_mem hjt)) W
    simp only [if_true]
    clear hmt hjt hA
    generalize typeR xt = Y at *
    obtain ⟨⟨yd, yn⟩, ye⟩ := Y
    simp only [tyV] at HT ⊢
    replace HT := hid HT
    replace HM := hid HM
    replace T0 := hid T0
    go_enter Tryd.func22, Tryd.ntmps22
    go_wp2_with fail
    refine HM.out.mono ?_
    rintro e w1 ⟨rfl, ho1⟩
    have o1 := o0.next ho1 (by simp)
    go_wp2_with fail
    refine (HT.out _).mono ?_
    rintro e w2 ⟨rfl, ho2⟩
    have o2 := o1.next ho2 (by simp)
    have hB : w.heap.size < w2.heap.size := by have := ho1.size; have := ho2.size; simp at *; omega
    have T2 := hid ((T0.out.only ho1 (by simp)).only ho2 (by simp))
    obtain ⟨t0, t1, f0, f1⟩ := T2.out
    have t0' : ∀ o, (w2.alloc o).cell? ⟨w.heap.size, 0, none⟩ = some (.int .i64 0) := fun o => cell_alloc o t0
    have t1' : ∀ o, (w2.alloc o).cell? ⟨w.heap.size, 1, none⟩ = some (.string (str [])) := fun o => cell_alloc o t1
    have f0' : ∀ o, (w2.alloc o).frozen? ⟨w.heap.size, 0, none⟩ = false := fun o => by rw [frozen_alloc o hB]; exact f0
    have f1' : ∀ o, (w2.alloc o).frozen? ⟨w.heap.size, 1, none⟩ = false := fun o => by rw [frozen_alloc o hB]; exact f1
    go_wp2_with fail
    go_region
    go_wp2
    exact bodyPost_ret (pfield_result ((T2.out.put yd yn).only (((Only.refl [] _).alloc _).drew) (by simp)) _ rfl rfl rfl rfl) rfl ⟨rfl, (((o2.setCell (.inr (by simp)) _).setCell (.inr (by simp)) _).alloc _).drew⟩
  · have g3 : (xe == 0) = false := by simpa using hx
    simp only [hx, if_false, tyV]
    clear hx hmt hA
    replace HM := hid HM
    replace T0 := hid T0
    go_enter Tryd.func22, Tryd.ntmps22
    go_wp2_with fail
    refine HM.out.mono ?_
    rintro e w1 ⟨rfl, ho1⟩
    have o1 := o0.next ho1 (by simp)
    have T1 := hid (T0.out.only ho1 (by simp))
    obtain ⟨t0, t1, f0, f1⟩ := T1.out
    go_wp2
    exact bodyPost_ret (pfield_result (T1.out.put 0 []) _ rfl rfl rfl rfl) rfl ⟨rfl, (o1.setCell (.inr (by simp)) _).setCell (.inr (by simp)) _⟩

set_option maxHeartbeats 400000 in
set_option maxRecDepth 100000 in
theorem pmethod_any {w : World} {ao : Option Addr} {l : List En} {d cap : Nat} (hE : ES w ao l d) (hl : l.length ≤ 9223372036854775807) (hA : ∀ e ∈ l, e.2.1.length ≤ 9223372036854775807) (i : Int) :
    Calls Tryd.prog 31 #[.slice ao l.length cap, .int .i64 i] w fun r w' => ∃ vo vc, r = .returned (.tuple #[.string (str (methodR l i).1.1), .string (str (methodR l i).1.2.1), sigV (.slice vo (methodR l i).1.2.2.1.length vc) (methodR l i).1.2.2.2.1 (methodR l i).1.2.2.2.2, .int .i64 (methodR l i).2]) ∧ Own w' w.heap.size (.slice vo (methodR l i).1.2.2.1.length vc) (methodR l i).1.2.2.1 ∧ Only [] w w' := by
  have o0 := (Only.refl [] w).alloc (.cells #[.slice none 0 0, .bool false, .int .i64 0, .string ⟨#[]⟩] 79)
  have T0 := sig_new' w (.slice none 0 0) false 0 []
  have HM := member_any (cap := cap) (hE.only o0 (by simp)) hl hA i 6 (.inr rfl)
  have hmt := member_text (l := l) (i := i) (kind := 6) (.inr rfl)
  unfold methodR
  generalize memberR l i 6 = X at *
  obtain ⟨⟨xc, xn, xt⟩, xe⟩ := X
  simp only at HM hmt ⊢
  clear hE
  by_cases hx : xe = 0
  · subst hx
    obtain ⟨jt, hjt⟩ := hmt rfl
    have HT := fun W => sig_any xt (byte_text hA (text_mem hjt)) W
    simp only [if_true]
    clear hmt hjt hA
    generalize sigR xt = Y at *
    obtain ⟨⟨yl, yv, yd, yn⟩, ye⟩ := Y
    simp only [sigV] at HT ⊢
    replace HT := hid HT
    replace HM := hid HM
    replace T0 := hid T0
    go_enter Tryd.func31, Tryd.ntmps31
    go_wp2_with fail
    refine HM.out.mono ?_
    rintro e w1 ⟨rfl, ho1⟩
    have o1 := o0.next ho1 (by simp)
    go_wp2_with fail
    refine (HT.out _).mono ?_
    rintro e w2 ⟨v, rfl, hown, ho2⟩
    obtain ⟨vo, vc, rfl⟩ := own_slice hown
    have o2 := o1.next ho2 (by simp)
    have hs1 : w.heap.size < w1.heap.size := by have := ho1.size; simp at *; omega
    have hB : w.heap.size < w2.heap.size := by have := ho1.size; have := ho2.size; simp at *; omega
    have T2 := hid ((T0.out.only ho1 (by simp)).only ho2 (by simp))
    obtain ⟨t0, t1, t2, t3, f0, f1, f2, f3⟩ := T2.out
    have t0' : ∀ o, (w2.alloc o).cell? ⟨w.heap.size, 0, none⟩ = some (.slice none 0 0) := fun o => cell_alloc o t0
    have t1' : ∀ o, (w2.alloc o).cell? ⟨w.heap.size, 1, none⟩ = some (.bool false) := fun o => cell_alloc o t1
    have t2' : ∀ o, (w2.alloc o).cell? ⟨w.heap.size, 2, none⟩ = some (.int .i64 0) := fun o => cell_alloc o t2
    have t3' : ∀ o, (w2.alloc o).cell? ⟨w.heap.size, 3, none⟩ = some (.string (str [])) := fun o => cell_alloc o t3
    have f0' : ∀ o, (w2.alloc o).frozen? ⟨w.heap.size, 0, none⟩ = false := fun o => by rw [frozen_alloc o hB]; exact f0
    have f1' : ∀ o, (w2.alloc o).frozen? ⟨w.heap.size, 1, none⟩ = false := fun o => by rw [frozen_alloc o hB]; exact f1
    have f2' : ∀ o, (w2.alloc o).frozen? ⟨w.heap.size, 2, none⟩ = false := fun o => by rw [frozen_alloc o hB]; exact f2
    have f3' : ∀ o, (w2.alloc o).frozen? ⟨w.heap.size, 3, none⟩ = false := fun o => by rw [frozen_alloc o hB]; exact f3
    replace hown := hid hown
    go_wp2_with fail
    go_region
    go_wp2
    have hown2 := own_mono (C := w.heap.size) (own_only (own_set (own_set (own_set (own_set hown.out ⟨w.heap.size, 0, none⟩ hs1 (.slice vo yl.length vc)) ⟨w.heap.size, 1, none⟩ hs1 (.bool yv)) ⟨w.heap.size, 2, none⟩ hs1 (.int .i64 yd)) ⟨w.heap.size, 3, none⟩ hs1 (.string (str yn))) (((Only.refl [] _).alloc (.cells #[.slice vo yl.length vc, .bool yv, .int .i64 yd, .string (str yn)] 79)).drew) (by simp)) (by omega)
    exact bodyPost_ret (pmethod_result (((((T2.out.put0 (.slice vo yl.length vc)).put1 yv).put2 yd).put3 yn).only (((Only.refl [] _).alloc _).drew) (by simp)) _ rfl rfl rfl rfl) rfl ⟨vo, vc, rfl, hown2, (((((o2.setCell (.inr (by simp)) _).setCell (.inr (by simp)) _).setCell (.inr (by simp)) _).setCell (.inr (by simp)) _).alloc _).drew⟩
  · have g3 : (xe == 0) = false := by simpa using hx
    simp only [hx, if_false, sigV]
    clear hx hmt hA
    replace HM := hid HM
    replace T0 := hid T0
    go_enter Tryd.func31, Tryd.ntmps31
    go_wp2_with fail
    refine HM.out.mono ?_
    rintro e w1 ⟨rfl, ho1⟩
    have o1 := o0.next ho1 (by simp)
    have T1 := hid (T0.out.only ho1 (by simp))
    obtain ⟨t0, t1, t2, t3, f0, f1, f2, f3⟩ := T1.out
    go_wp2
    exact bodyPost_ret (pmethod_result ((((T1.out.put0 (.slice none 0 0)).put1 false).put2 0).put3 []) _ rfl rfl rfl rfl) rfl ⟨none, 0, rfl, own_nil _ _, (((o1.setCell (.inr (by simp)) _).setCell (.inr (by simp)) _).setCell (.inr (by simp)) _).setCell (.inr (by simp)) _⟩

end Go.Proofs.YtemjhlhioeopnabDoor
