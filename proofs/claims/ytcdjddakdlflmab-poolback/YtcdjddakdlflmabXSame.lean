/-
  The contract of the second program's Same. No conditions.
-/
import Derived.Test.YtcdjddakdlflmabQPlain
namespace Go.Proofs.Ytcdjddakdlflmab
open Go.RowKit

set_option maxHeartbeats 400000 in
set_option maxRecDepth 100000 in
theorem rsame_any {w : World} {ao bo : Option Addr} {l m : List Ty} {d k cap bap : Nat} (hT : TS w ao l d) (hM : TS w bo m k) (hl : l.length ≤ 9223372036854775807) (v u : Bool) (s t : Ty) :
    Calls Try.prog 27 #[sigV (.slice ao l.length cap) v s, sigV (.slice bo m.length bap) u t] w fun e w' => e = .returned (.bool (sameR (l, v, s) (m, u, t))) ∧ Only [] w w' := by
  have hq := neq_type s t
  have hst : ∃ b, b = decide (s = t) := ⟨_, rfl⟩
  obtain ⟨b, hb⟩ := hst
  rw [← hb] at hq
  replace hb := hid hb
  obtain ⟨d0, n0⟩ := s
  obtain ⟨d1, n1⟩ := t
  simp only [tyV] at hq
  simp only [sigV]
  have o1 := ((Only.refl [] w).alloc (.cells #[.slice ao l.length cap, .bool v, .int .i64 d0, .string (str n0)] 34)).alloc (.cells #[.slice bo m.length bap, .bool u, .int .i64 d1, .string (str n1)] 34)
  have hfin : Hid (sameR (l, v, (d0, n0)) (m, u, (d1, n1)) = (decide (v = u) && (b && decide (l = m)))) := by
    rw [hb.out]
    unfold Hid sameR
    by_cases h1 : l = m <;> by_cases h2 : v = u <;> by_cases h3 : ((d0, n0) : Ty) = (d1, n1) <;> simp [h1, h2, h3]
  have hno : (v = u ∧ b = true ∧ l.length = m.length) ∨ ¬ (v = u ∧ b = true ∧ l.length = m.length) := Classical.em _
  rcases hno with ⟨rfl, rfl, hlm⟩ | hno
  · have SA := hid ((sig_new w (.slice ao l.length cap) v d0 n0).only ((Only.refl [] _).alloc (.cells #[.slice bo m.length bap, .bool v, .int .i64 d1, .string (str n1)] 34)) (by simp))
    have SB := sig_new (w.alloc (.cells #[.slice ao l.length cap, .bool v, .int .i64 d0, .string (str n0)] 34)) (.slice bo m.length bap) v d1 n1
    rw [World.size_alloc] at SB
    rw [← hlm] at SB o1 SA ⊢
    replace SB := hid SB
    replace hlm := hid hlm
    simp only [Bool.not_true] at hq
    go_enter Try.func27, Try.ntmps27
    go_wp2
    go_loopw [5] (fun i wr => ∃ j : Nat, j ≤ l.length ∧ i = .int .i64 (j : Int) ∧ l.take j = m.take j ∧ SigAt wr w.heap.size (.slice ao l.length cap) v (d0, n0) ∧ SigAt wr (w.heap.size + 1) (.slice bo l.length bap) v (d1, n1) ∧ Only [] w wr) (fun i _ => l.length - (intOf i).toNat)
    case atStart => exact ⟨0, by omega, rfl, by simp, SA.out, SB.out, o1⟩
    case round =>
      obtain ⟨j, hj, rfl, hpre, hSA, hSB, hor⟩ := hrel
      clear SA SB o1
      replace hSA := hid hSA
      replace hSB := hid hSB
      obtain ⟨a0, a1, a2, a3, _, _, _, _⟩ := hSA.out
      obtain ⟨e0, e1, e2, e3, _, _, _, _⟩ := hSB.out
      by_cases hlt : j < l.length
      · have g2 : ((j : Int) < (l.length : Int)) := by omega
        have hne : l ≠ [] := by intro e; simp [e] at hlt
        have hlt2 : j < m.length := by rw [← hlm.out]; exact hlt
        have hne2 : m ≠ [] := by intro e; simp [e] at hlt2
        rcases hT.only hor (by simp) with h | ⟨off, rfl, hc⟩
        · exact absurd h hne
        rcases hM.only hor (by simp) with h | ⟨off2, rfl, hc2⟩
        · exact absurd h hne2
        obtain ⟨y0, y1⟩ := hc j hlt
        obtain ⟨z0, z1⟩ := hc2 j hlt2
        clear hc hc2 hT hM
        have hnx : l[j] = m[j] → l.take (j + 1) = m.take (j + 1) := by
          intro e
          rw [List.take_succ_eq_append_getElem hlt, List.take_succ_eq_append_getElem hlt2, hpre, e]
        have hno : l[j] ≠ m[j] → l ≠ m := by
          intro e1 e2
          apply e1
          simp [e2]
        have hqt := neq_type l[j] m[j]
        generalize l[j] = s at *
        generalize m[j] = t at *
        obtain ⟨sd, sn⟩ := s
        obtain ⟨td, tn⟩ := t
        simp only [tyV] at hqt
        clear hpre hne hne2 hlt2 hq
        by_cases hs : (sd, sn) = (td, tn)
        · have hnx := hid (hnx hs)
          simp only [hs, decide_true, Bool.not_true] at hqt
          clear hs hno
          go_wp2_with fail
          go_region
          go_wp2
          exact ⟨⟨j + 1, by omega, by go_num, hnx.out, hSA.out.only (Only.refl [] _).drew (by simp), hSB.out.only (Only.refl [] _).drew (by simp), hor.drew⟩, by simp [intOf]; omega⟩
        · have e1 : Hid (decide (l = m) = false) := by simp [Hid, hno hs]
          simp only [hs, decide_false, Bool.not_false] at hqt
          clear hs hno hnx
          go_wp2_with fail
          go_region
          go_wp2
          go_ret
          exact ⟨by rw [hfin.out, e1.out]; simp, hor.drew⟩
      · have g2 : ¬ ((j : Int) < (l.length : Int)) := by omega
        obtain rfl : j = l.length := by omega
        have e1 : Hid (decide (l = m) = true) := by
          rw [List.take_of_length_le (Nat.le_refl _), List.take_of_length_le (by rw [hlm.out]; exact Nat.le_refl _)] at hpre
          simp [Hid, hpre]
        clear hpre
        go_wp2
        go_ret
        exact ⟨by rw [hfin.out, e1.out]; simp, hor⟩
  · have e0 : Hid (sameR (l, v, (d0, n0)) (m, u, (d1, n1)) = false) := by
      unfold Hid
      rw [hfin.out]
      by_cases h1 : v = u
      · by_cases h2 : b = true
        · have h3 : l ≠ m := fun e => hno ⟨h1, h2, by rw [e]⟩
          simp [h3]
        · simp [h2]
      · simp [h1]
    rw [e0.out]
    by_cases h1 : v = u
    · subst h1
      by_cases h2 : b = true
      · subst h2
        have h3 : ¬ ((l.length : Int) = (m.length : Int)) := fun e => hno ⟨rfl, rfl, by omega⟩
        have g3 : ((l.length : Int) == (m.length : Int)) = false := by simpa using h3
        simp only [Bool.not_true] at hq
        clear hno h3
        go_enter Try.func27, Try.ntmps27
        go_wp2
        go_ret
        exact ⟨rfl, o1⟩
      · have h3 : b = false := by simpa using h2
        subst h3
        simp only [Bool.not_false] at hq
        clear hno h2
        go_enter Try.func27, Try.ntmps27
        go_wp2
        go_ret
        exact ⟨rfl, o1⟩
    · have h3 : (v == u) = false := by simpa using h1
      clear hno
      cases v <;> cases u
      all_goals first
        | exact absurd rfl h1
        | (clear h1 h3
           go_enter Try.func27, Try.ntmps27
           go_wp2
           go_ret
           exact ⟨rfl, o1⟩)

end Go.Proofs.Ytcdjddakdlflmab
