/-
  The contracts of Check and right. No conditions.
-/
import Derived.Test.YtemjhlhioeopnabDoorPWrong
import Derived.Test.YtemjhlhioeopnabDoorPLaws
namespace Go.Proofs.YtemjhlhioeopnabDoor
open Go.RowKit

/-- An entry of one's own in a block. -/
structure EnW (w : World) (b : Nat) (e : En) : Prop where
  c : EnAt w b 0 e
  f : ∀ i, i < 6 → w.frozen? ⟨b, i, none⟩ = false

theorem enW_new (w : World) (e : En) (t : TypeId) : EnW (w.alloc (.cells #[.int .i64 e.1, .string (str e.2.1), .int .i64 e.2.2.1, .int .i64 e.2.2.2.1, .int .i64 e.2.2.2.2.1, .int .i64 e.2.2.2.2.2] t)) w.heap.size e :=
  ⟨enAt_new w e t, fun _ _ => frozen_new _ _ _ _⟩

theorem EnW.only {w w' : World} {S : List Nat} {b : Nat} {e : En} (h : EnW w b e) (ho : Only S w w') (hb : b ∉ S) : EnW w' b e :=
  ⟨h.c.only ho hb, fun i hi => by rw [ho.frozen h.c.lt hb]; exact h.f i hi⟩

theorem right_result {w : World} {b : Nat} {e : En} {x : Value} (h : EnAt w b 0 e) (tmps : Array Value) (h2 : tmps.getD 6 undef = .pointer (some ⟨b, 0, none⟩)) (h3 : tmps.getD 7 undef = x) :
    (results Tryd.f26 tmps).run Tryd.prog w = .ok (.tuple #[enV e, x]) w := by
  obtain ⟨c0, c1, c2, c3, c4, c5⟩ := h
  simp only [Nat.zero_add] at c0 c1 c2 c3 c4 c5
  rw [results_cell_tmp (p := 6) (u := 7) (ty := 67) Tryd.results26, h2, h3]
  simp [go_sem, c0, c1, c2, c3, c4, c5, enV]

set_option maxHeartbeats 400000 in
set_option maxRecDepth 100000 in
theorem right_any {w : World} {ao : Option Addr} {l : List En} {d cap : Nat} (hE : ES w ao l d) (hl : l.length ≤ 9223372036854775807) (hA : ∀ e ∈ l, e.2.1.length ≤ 9223372036854775807) (i kind : Int) :
    Calls Tryd.prog 26 #[.slice ao l.length cap, .int .i64 i, .int .i64 kind] w fun r w' => r = .returned (.tuple #[enV (rightE l i kind).1, .int .i64 (rightE l i kind).2]) ∧ Only [] w w' := by
  have o0 := (Only.refl [] w).alloc (.cells #[.int .i64 0, .string ⟨#[]⟩, .int .i64 0, .int .i64 0, .int .i64 0, .int .i64 0] 67)
  have HH := has_any' (cap := cap) (hE.only o0 (by simp)) hl i kind
  have E0 := enW_new w en0 67
  simp only [en0] at E0
  cases h : hasE l i kind with
  | false =>
    have e1 : rightE l i kind = (en0, 16) := by
      unfold rightE
      unfold hasE at h
      cases he : enAt l i with
      | none => rfl
      | some e =>
        rw [he] at h
        simp at h
        simp [h]
    rw [e1]
    rw [h] at HH
    simp only [enV, en0]
    clear h e1 hE
    replace HH := hid HH
    replace E0 := hid E0
    go_enter Tryd.func26, Tryd.ntmps26
    go_wp2_with (go_at_call 32; refine HH.out.mono ?_; rintro e w' ⟨rfl, rfl⟩)
    exact bodyPost_ret (right_result E0.out.c _ rfl rfl) rfl ⟨rfl, o0⟩
  | true =>
    obtain ⟨e, he, hk⟩ := hasE_kind h
    obtain ⟨j, hj, rfl, rfl⟩ := enAt_some he
    have e1 : rightE l (j : Int) kind = if wrongE l l[j] = 0 then (l[j], 0) else (en0, wrongE l l[j]) := by
      unfold rightE
      rw [he]
      simp only [hk, if_true]
    rw [e1]
    rw [h] at HH
    clear e1 h hk he
    have HW := wrong_any (cap := cap) (hE.only o0 (by simp)) hl hA j hj
    have hJ := fun W (hW : Only [] w W) => (hE.only hW (by simp)).at hj
    have g2 : ((j : Int) < (l.length : Int)) := by omega
    generalize wrongE l l[j] = c at *
    generalize l[j] = e at *
    clear hE
    obtain ⟨k, t, n, a, b, z⟩ := e
    replace HH := hid HH
    replace E0 := hid E0
    replace HW := hid HW
    replace hJ := hid hJ
    by_cases hc : c = 0
    · subst hc
      simp only [if_true, enV]
      go_enter Tryd.func26, Tryd.ntmps26
      go_wp2_with (first | (go_at_call 32; refine HH.out.mono ?_; rintro e w' ⟨rfl, rfl⟩) | fail)
      refine HW.out.mono ?_
      rintro e w1 ⟨rfl, ho1⟩
      have o1 := o0.next ho1 (by simp)
      obtain ⟨off, rfl, y0, y1, y2, y3, y4, y5⟩ := hJ.out w1 o1
      have E1 := E0.out.only ho1 (by simp)
      have f0 := E1.f 0 (by omega)
      have f1 := E1.f 1 (by omega)
      have f2 := E1.f 2 (by omega)
      have f3 := E1.f 3 (by omega)
      have f4 := E1.f 4 (by omega)
      have f5 := E1.f 5 (by omega)
      obtain ⟨⟨e0, e1, e2, e3, e4, e5⟩, _⟩ := E1
      simp only [Nat.zero_add] at e0 e1 e2 e3 e4 e5
      have K1 := hid (E0.out.only ho1 (by simp))
      go_wp2
      exact bodyPost_ret (right_result (K1.out.c.put (k, t, n, a, b, z)) _ rfl rfl) rfl ⟨rfl, put6_only o1 (.inr (by simp)) _ _ _ _ _ _⟩
    · have g3 : (c == 0) = false := by simpa using hc
      simp only [hc, if_false, enV, en0]
      clear hc
      go_enter Tryd.func26, Tryd.ntmps26
      go_wp2_with (first | (go_at_call 32; refine HH.out.mono ?_; rintro e w' ⟨rfl, rfl⟩) | fail)
      refine HW.out.mono ?_
      rintro e w1 ⟨rfl, ho1⟩
      have o1 := o0.next ho1 (by simp)
      have E1 := E0.out.only ho1 (by simp)
      have f0 := E1.f 0 (by omega)
      have f1 := E1.f 1 (by omega)
      have f2 := E1.f 2 (by omega)
      have f3 := E1.f 3 (by omega)
      have f4 := E1.f 4 (by omega)
      have f5 := E1.f 5 (by omega)
      obtain ⟨⟨e0, e1, e2, e3, e4, e5⟩, _⟩ := E1
      simp only [Nat.zero_add] at e0 e1 e2 e3 e4 e5
      have K1 := hid (E0.out.only ho1 (by simp))
      go_wp2
      exact bodyPost_ret (right_result (K1.out.c.put (0, [], 0, 0, 0, 0)) _ rfl rfl) rfl ⟨rfl, put6_only o1 (.inr (by simp)) _ _ _ _ _ _⟩

end Go.Proofs.YtemjhlhioeopnabDoor
