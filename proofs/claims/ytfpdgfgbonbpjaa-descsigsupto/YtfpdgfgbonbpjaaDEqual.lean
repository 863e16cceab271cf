/-
  The contract of slices.Equal at rows of types, and of Same. No conditions.
-/
import Derived.Test.YtfpdgfgbonbpjaaDSText
namespace Go.Proofs.Ytfpdgfgbonbpjaa
open Go.RowKit

/-- Are two signatures the same? -/
def sameR (a b : List Ty × Bool × Ty) : Bool := decide (a = b)

set_option maxHeartbeats 400000 in
set_option maxRecDepth 100000 in
theorem equal_any {w : World} {ao bo : Option Addr} {l m : List Ty} {d k cap bap : Nat} (hT : TS w ao l d) (hM : TS w bo m k) (hl : l.length ≤ 9223372036854775807) :
    Calls Try.prog 47 #[.slice ao l.length cap, .slice bo m.length bap] w fun e w' => e = .returned (.bool (decide (l = m))) ∧ Only [] w w' := by
  by_cases hq : l.length = m.length
  · rw [← hq]
    replace hq := hid hq
    go_enter Try.func47, Try.ntmps47
    go_wp2
    go_loopw [13] (fun i wr => ∃ j : Nat, j ≤ l.length ∧ i = .int .i64 (j : Int) ∧ l.take j = m.take j ∧ Only [] w wr) (fun i _ => l.length - (intOf i).toNat)
    case atStart => exact ⟨0, by omega, rfl, by simp, Only.refl _ _⟩
    case round =>
      obtain ⟨j, hj, rfl, hpre, hor⟩ := hrel
      by_cases hlt : j < l.length
      · have g2 : ((j : Int) < (l.length : Int)) := by omega
        have hne : l ≠ [] := by intro e; simp [e] at hlt
        have hlt2 : j < m.length := by rw [← hq.out]; exact hlt
        have hne2 : m ≠ [] := by intro e; simp [e] at hlt2
        rcases hT.only hor (by simp) with h | ⟨off, rfl, hc⟩
        · exact absurd h hne
        rcases hM.only hor (by simp) with h | ⟨off2, rfl, hc2⟩
        · exact absurd h hne2
        obtain ⟨y0, y1⟩ := hc j hlt
        obtain ⟨z0, z1⟩ := hc2 j hlt2
        clear hc hc2 hT hM
        have hnx : l[j] = m[j] → l.take (j + 1) = m.take (j + 1) := by
          intro e
          rw [List.take_succ_eq_append_getElem hlt, List.take_succ_eq_append_getElem hlt2, hpre, e]
        have hno : l[j] ≠ m[j] → l ≠ m := by
          intro e1 e2
          apply e1
          simp [e2]
        have hqt := neq_type l[j] m[j]
        generalize l[j] = s at *
        generalize m[j] = t at *
        obtain ⟨d0, n0⟩ := s
        obtain ⟨d1, n1⟩ := t
        simp only [tyV] at hqt
        clear hpre hne hne2 hlt2
        by_cases hs : (d0, n0) = (d1, n1)
        · have hnx := hid (hnx hs)
          simp only [hs, decide_true, Bool.not_true] at hqt
          clear hs hno
          go_wp2_with fail
          go_region
          go_wp2
          exact ⟨⟨j + 1, by omega, by go_num, hnx.out, hor.drew⟩, by simp [intOf]; omega⟩
        · have e1 : Hid (decide (l = m) = false) := by simp [Hid, hno hs]
          simp only [hs, decide_false, Bool.not_false] at hqt
          clear hs hno hnx
          go_wp2_with fail
          go_region
          go_wp2
          go_ret
          exact ⟨by rw [e1.out]; rfl, hor.drew⟩
      · have g2 : ¬ ((j : Int) < (l.length : Int)) := by omega
        obtain rfl : j = l.length := by omega
        have e1 : Hid (decide (l = m) = true) := by
          rw [List.take_of_length_le (Nat.le_refl _), List.take_of_length_le (by rw [hq.out]; exact Nat.le_refl _)] at hpre
          simp [Hid, hpre]
        clear hpre
        go_wp2
        go_ret
        exact ⟨by rw [e1.out]; rfl, hor⟩
  · have g1 : ¬ ((l.length : Int) = (m.length : Int)) := by omega
    have g2 : ((l.length : Int) != (m.length : Int)) = true := by simpa using g1
    have hne : ¬ (l = m) := fun e => hq (by rw [e])
    have e1 : Hid (decide (l = m) = false) := by simp [Hid, hne]
    rw [e1.out]
    clear hne e1
    go_enter Try.func47, Try.ntmps47
    go_wp2
    go_ret
    exact ⟨rfl, Only.refl _ _⟩

set_option maxHeartbeats 400000 in
set_option maxRecDepth 100000 in
theorem same_any {w : World} {ao bo : Option Addr} {l m : List Ty} {d k cap bap : Nat} (hT : TS w ao l d) (hM : TS w bo m k) (hl : l.length ≤ 9223372036854775807) (v u : Bool) (s t : Ty) :
    Calls Try.prog 33 #[sigV (.slice ao l.length cap) v s, sigV (.slice bo m.length bap) u t] w fun e w' => e = .returned (.bool (sameR (l, v, s) (m, u, t))) ∧ Only [] w w' := by
  have hq := eq_type s t
  have hst : ∃ b, b = decide (s = t) := ⟨_, rfl⟩
  obtain ⟨b, hb⟩ := hst
  rw [← hb] at hq
  replace hb := hid hb
  obtain ⟨d0, n0⟩ := s
  obtain ⟨d1, n1⟩ := t
  simp only [tyV] at hq
  simp only [sigV]
  have o1 := ((Only.refl [] w).alloc (.cells #[.slice ao l.length cap, .bool v, .int .i64 d0, .string (str n0)] 43)).alloc (.cells #[.slice bo m.length bap, .bool u, .int .i64 d1, .string (str n1)] 43)
  have HE := hid (equal_any (cap := cap) (bap := bap) (hT.only o1 (by simp)) (hM.only o1 (by simp)) hl)
  have hfin : Hid (sameR (l, v, (d0, n0)) (m, u, (d1, n1)) = (decide (v = u) && (b && decide (l = m)))) := by
    rw [hb.out]
    unfold Hid sameR
    by_cases h1 : l = m <;> by_cases h2 : v = u <;> by_cases h3 : ((d0, n0) : Ty) = (d1, n1) <;> simp [h1, h2, h3]
  cases v <;> cases u <;> cases b
  all_goals
    go_enter Try.func33, Try.ntmps33
    go_wp2_with (go_at_call 47; refine HE.out.mono ?_; rintro e w2 ⟨rfl, ho2⟩)
    go_ret
    first
      | exact ⟨by rw [hfin.out]; simp, o1.next ho2 (by simp)⟩
      | exact ⟨by rw [hfin.out]; simp, o1⟩

end Go.Proofs.Ytfpdgfgbonbpjaa
