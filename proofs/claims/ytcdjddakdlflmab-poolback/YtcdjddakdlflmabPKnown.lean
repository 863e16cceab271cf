/-
  The contracts of known, the chapter's first example, and of Same. No conditions.
-/
import Derived.Test.YtcdjddakdlflmabPBuild2
import Derived.Test.YtcdjddakdlflmabPField
namespace Go.Proofs.Ytcdjddakdlflmab
open Go.RowKit

/-- What was made behind w is not what was there. -/
theorem Bt.fresh {z w w' : World} {b : Nat} {R R' : Option Nat} {l' : List En} (h : Bt w w' b R R' l') (hz : Only [] z w) (hb : z.heap.size ≤ b) (hR : ∀ g, R = some g → z.heap.size ≤ g) : Only [] z w' ∧ ∀ g, R' = some g → z.heap.size ≤ g := by
  have hs := hz.size
  refine ⟨hz.next h.only ?_, ?_⟩
  · intro x hx
    simp at hx
    rcases hx with rfl | hx
    · exact hb
    · exact hR x hx
  · intro g hg
    rcases h.row with e | ⟨g', e, hg'⟩
    · exact hR g (by rw [← e]; exact hg)
    · rw [e] at hg
      simp at hg
      omega

set_option maxHeartbeats 400000 in
set_option maxRecDepth 100000 in
theorem known_any (w : World) : Calls Try.prog 5 #[] w fun e w' => e = .returned (.bool true) ∧ Only [] w w' := by
  have HN := new_any (w := w) (ao := none) (l := []) (d := 0) (cap := 0) (ES.nil _ _ _) (fun _ => rfl) (by simp) (by simp)
  have en : newE [] = [] := by decide
  have ec : classB [] [65] = ([(1, [65], 0, 0, 0, 0), (3, [], 0, 0, 0, 0)], 1, 0) := by kernel_rfl
  have ef : fieldB [(1, [65], 0, 0, 0, 0), (3, [], 0, 0, 0, 0)] [65] [120] (0, []) = ([(1, [65], 0, 0, 0, 0), (3, [], 0, 0, 0, 0), (1, [120], 0, 0, 0, 0), (1, [73], 0, 0, 0, 0), (5, [], 0, 1, 2, 3)], 4, 0) := by kernel_rfl
  unfold NewPost at HN
  rw [en] at HN
  simp only [List.length_nil] at HN
  replace HN := hid HN
  go_enter Try.func5, Try.ntmps5
  go_wp2_with fail
  refine HN.out.mono ?_
  rintro e w1 ⟨b, R1, rfl, hb, hB1, hR1, ho1⟩
  have HC := bclass_any hB1 (by simp) [65] (by simp)
  unfold BPost at HC
  rw [ec] at HC
  simp only [str] at HC
  replace HC := hid HC
  replace hB1 := hid hB1
  clear HN
  go_wp2_with fail
  refine HC.out.mono ?_
  rintro e w2 ⟨rfl, R2, hb2⟩
  obtain ⟨ho2, hR2⟩ := hb2.fresh ho1 hb hR1
  have HF := bfield_any hb2.bd (by simp) [65] [120] (by simp) (by simp) (0, []) (by simp)
  unfold BPost at HF
  rw [ef] at HF
  simp only [str, tyV] at HF
  replace HF := hid HF
  replace hb2 := hid hb2
  clear HC
  go_wp2_with fail
  refine HF.out.mono ?_
  rintro e w3 ⟨rfl, R3, hb3⟩
  obtain ⟨ho3, hR3⟩ := hb3.fresh ho2 hb hR2
  have HP := pool_any hb3.bd (by simp)
  replace HP := hid HP
  replace hb3 := hid hb3
  clear HF
  go_wp2_with (go_at_call 8; refine HP.out.mono ?_; rintro e w4 ⟨ao', cap', rfl, hown, ho4⟩; clear hown)
  go_ret
  exact ⟨rfl, ho3.next ho4 (by simp)⟩

set_option maxHeartbeats 400000 in
set_option maxRecDepth 100000 in
theorem same_any {w : World} {ao bo : Option Addr} {l m : List En} {d k cap bap : Nat} (hT : ES w ao l d) (hM : ES w bo m k) (hl : l.length ≤ 9223372036854775807) :
    Calls Try.prog 11 #[.slice ao l.length cap, .slice bo m.length bap] w fun e w' => e = .returned (.bool (decide (l = m))) ∧ Only [] w w' := by
  by_cases hq : l.length = m.length
  · rw [← hq]
    replace hq := hid hq
    go_enter Try.func11, Try.ntmps11
    go_wp2
    go_loopw [5] (fun i wr => ∃ j : Nat, j ≤ l.length ∧ i = .int .i64 (j : Int) ∧ l.take j = m.take j ∧ Only [] w wr) (fun i _ => l.length - (intOf i).toNat)
    case atStart => exact ⟨0, by omega, rfl, by simp, Only.refl _ _⟩
    case round =>
      obtain ⟨j, hj, rfl, hpre, hor⟩ := hrel
      by_cases hlt : j < l.length
      · have g2 : ((j : Int) < (l.length : Int)) := by omega
        have hlt2 : j < m.length := by rw [← hq.out]; exact hlt
        obtain ⟨off, rfl, y0, y1, y2, y3, y4, y5⟩ := (hT.only hor (by simp)).at hlt
        obtain ⟨off2, rfl, z0, z1, z2, z3, z4, z5⟩ := (hM.only hor (by simp)).at hlt2
        clear hT hM
        have hnx : l[j] = m[j] → l.take (j + 1) = m.take (j + 1) := by
          intro e
          rw [List.take_succ_eq_append_getElem hlt, List.take_succ_eq_append_getElem hlt2, hpre, e]
        have hno : l[j] ≠ m[j] → l ≠ m := by
          intro e1 e2
          apply e1
          simp [e2]
        have hqt := neq_entry l[j] m[j]
        generalize l[j] = s at *
        generalize m[j] = t at *
        obtain ⟨k0, t0, n0, a0, b0, c0⟩ := s
        obtain ⟨k1, t1, n1, a1, b1, c1⟩ := t
        simp only [enV] at hqt
        clear hpre hlt2
        by_cases hs : ((k0, t0, n0, a0, b0, c0) : En) = (k1, t1, n1, a1, b1, c1)
        · have hnx := hid (hnx hs)
          rw [decide_eq_true hs] at hqt
          simp only [Bool.not_true] at hqt
          clear hs hno
          go_wp2_with fail
          go_region
          go_wp2
          exact ⟨⟨j + 1, by omega, by go_num, hnx.out, hor.drew⟩, by simp [intOf]; omega⟩
        · have e1 : Hid (decide (l = m) = false) := by simp [Hid, hno hs]
          rw [decide_eq_false hs] at hqt
          simp only [Bool.not_false] at hqt
          clear hs hno hnx
          go_wp2_with fail
          go_region
          go_wp2
          go_ret
          exact ⟨by rw [e1.out]; rfl, hor.drew⟩
      · have g2 : ¬ ((j : Int) < (l.length : Int)) := by omega
        obtain rfl : j = l.length := by omega
        have e1 : Hid (decide (l = m) = true) := by
          rw [List.take_of_length_le (Nat.le_refl _), List.take_of_length_le (by rw [hq.out]; exact Nat.le_refl _)] at hpre
          simp [Hid, hpre]
        clear hpre
        go_wp2
        go_ret
        exact ⟨by rw [e1.out]; rfl, hor⟩
  · have g1 : ¬ ((l.length : Int) = (m.length : Int)) := by omega
    have g2 : ((l.length : Int) != (m.length : Int)) = true := by simpa using g1
    have hne : ¬ (l = m) := fun e => hq (by rw [e])
    have e1 : Hid (decide (l = m) = false) := by simp [Hid, hne]
    rw [e1.out]
    clear hne e1
    go_enter Try.func11, Try.ntmps11
    go_wp2
    go_ret
    exact ⟨rfl, Only.refl _ _⟩

end Go.Proofs.Ytcdjddakdlflmab
