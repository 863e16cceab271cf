/-
  The contracts of has, tooLong, used, wrongClass. No conditions.
-/
import Derived.Test.YtemjhlhioeopnabDoorPPlain
namespace Go.Proofs.YtemjhlhioeopnabDoor
open Go.RowKit

theorem ES.at {w : World} {ao : Option Addr} {l : List En} {d : Nat} (h : ES w ao l d) {j : Nat} (hj : j < l.length) : ∃ off, ao = some ⟨d, off, none⟩ ∧ EnAt w d (off + j * 6) l[j] := by
  rcases h with h | ⟨off, rfl, hc⟩
  · rw [h] at hj
    simp at hj
  · exact ⟨off, rfl, hc j hj⟩

theorem has_any' {w : World} {ao : Option Addr} {l : List En} {d cap : Nat} (hE : ES w ao l d) (hl : l.length ≤ 9223372036854775807) (i kind : Int) :
    Calls Tryd.prog 32 #[.slice ao l.length cap, .int .i64 i, .int .i64 kind] w fun e w' => e = .returned (.bool (hasE l i kind)) ∧ w' = w := by
  cases hi : enAt l i with
  | none =>
    have hr : hasE l i kind = false := by simp [hasE, hi]
    rw [hr]
    rcases enAt_none hi with h | h
    · have g1 : ¬ (0 ≤ i) := by omega
      clear hi hr hE
      go_enter Tryd.func32, Tryd.ntmps32
      go_wp2
      go_ret
      exact ⟨rfl, rfl⟩
    · have g1 : 0 ≤ i := by omega
      have g2 : ¬ (i < (l.length : Int)) := by omega
      clear hi hr hE
      go_enter Tryd.func32, Tryd.ntmps32
      go_wp2
      go_ret
      exact ⟨rfl, rfl⟩
  | some e =>
    have hr : hasE l i kind = decide (e.1 = kind) := by simp [hasE, hi]
    rw [hr]
    obtain ⟨j, hj, rfl, rfl⟩ := enAt_some hi
    clear hi hr
    obtain ⟨off, rfl, hc⟩ := hE.at hj
    obtain ⟨y0, _, _, _, _, _⟩ := hc
    generalize l[j] = e at *
    obtain ⟨k, t, n, a, b, c⟩ := e
    clear hE
    simp only at y0
    have g1 : (0 : Int) ≤ (j : Int) := by omega
    have g2 : ((j : Int) < (l.length : Int)) := by omega
    go_enter Tryd.func32, Tryd.ntmps32
    go_wp2
    go_ret
    refine ⟨?_, rfl⟩
    by_cases hk : k = kind <;> simp [hk]

theorem tooLong_any (s : List UInt8) (hs : s.length ≤ 9223372036854775807) (w : World) : Calls Tryd.prog 37 #[.string (str s)] w fun e w' => e = .returned (.int .i64 (longE s)) ∧ w' = w := by
  have hz := str_size s
  by_cases h : 255 < s.length
  · have g1 : (255 < (s.length : Int)) := by omega
    have e1 : longE s = 5 := by simp [longE, h]
    rw [e1]
    clear h e1
    go_enter Tryd.func37, Tryd.ntmps37
    go_wp2
    go_ret
    exact ⟨rfl, rfl⟩
  · have g1 : ¬ (255 < (s.length : Int)) := by omega
    have e1 : longE s = 0 := by simp [longE, h]
    rw [e1]
    clear h e1
    go_enter Tryd.func37, Tryd.ntmps37
    go_wp2
    go_ret
    exact ⟨rfl, rfl⟩

theorem wrongClass_any {w : World} {ao : Option Addr} {l : List En} {d cap : Nat} (hE : ES w ao l d) (hl : l.length ≤ 9223372036854775807) (i : Int) :
    Calls Tryd.prog 42 #[.slice ao l.length cap, .int .i64 i] w fun e w' => e = .returned (.int .i64 (wClass l i)) ∧ w' = w := by
  have HH := has_any' (cap := cap) hE hl i 3
  cases h : hasE l i 3 with
  | true =>
    rw [h] at HH
    have e1 : wClass l i = 0 := by simp [wClass, h]
    rw [e1]
    clear h e1 hE
    replace HH := hid HH
    go_enter Tryd.func42, Tryd.ntmps42
    go_wp2_with (go_at_call 32; refine HH.out.mono ?_; rintro e w' ⟨rfl, rfl⟩)
    go_ret
    exact ⟨rfl, rfl⟩
  | false =>
    rw [h] at HH
    have e1 : wClass l i = 16 := by simp [wClass, h]
    rw [e1]
    clear h e1 hE
    replace HH := hid HH
    go_enter Tryd.func42, Tryd.ntmps42
    go_wp2_with (go_at_call 32; refine HH.out.mono ?_; rintro e w' ⟨rfl, rfl⟩)
    go_ret
    exact ⟨rfl, rfl⟩

theorem used_result {w : World} {b : Nat} {e : En} (h : EnAt w b 0 e) (tmps : Array Value) (h2 : tmps.getD 2 undef = .pointer (some ⟨b, 0, none⟩)) :
    (results Tryd.f36 tmps).run Tryd.prog w = .ok (enV e) w := by
  obtain ⟨c0, c1, c2, c3, c4, c5⟩ := h
  simp only [results, Tryd.results36]
  simp [Sem.run_bind, Result.andThen, -Array.getD_eq_getD_getElem?, h2, go_sem, c0, c1, c2, c3, c4, c5, enV]

end Go.Proofs.YtemjhlhioeopnabDoor
