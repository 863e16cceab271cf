/-
  The walk of DescNamed: it answers true of whatever text, and writes nothing that was there. No conditions.
-/
import Derived.Test.YtfpdgfgbonbpjabDKnown
namespace Go.Proofs.Ytfpdgfgbonbpjab
open Go.RowKit

def okTo (l : List UInt8) : Nat → Bool
  | 0 => true
  | j + 1 => okTo l j && (letter (l.getD j 0) || (digit (l.getD j 0) && decide (0 < j)))
def goodTo (l : List UInt8) (j : Nat) : Bool := decide (0 < l.length) && decide (l.length ≤ 32) && okTo l j

theorem letter_sign (c : UInt8) : letter c = (sign c && !digit c) := by
  unfold sign letter digit
  by_cases h1 : 65 ≤ c.toNat <;> by_cases h2 : c.toNat ≤ 90 <;> by_cases h3 : 97 ≤ c.toNat <;> by_cases h4 : c.toNat ≤ 122 <;> by_cases h5 : c.toNat = 95 <;> by_cases h6 : 48 ≤ c.toNat <;> by_cases h7 : c.toNat ≤ 57
  all_goals first | omega | simp [h1, h2, h3, h4, h5, h6, h7]

theorem okTo_eq (l : List UInt8) (j : Nat) (h : j < l.length) : okTo l (j + 1) = ((l.take (j + 1)).all sign && !digit (l.headD 0)) := by
  have hne : l ≠ [] := by intro e; simp [e] at h
  induction j with
  | zero =>
    cases l with
    | nil => exact absurd rfl hne
    | cons a t => simp [okTo, letter_sign]
  | succ j ih =>
    have hj : l.getD (j + 1) 0 = l[j + 1] := by simp [List.getD, h]
    rw [okTo, ih (by omega), all_take_succ l (j + 1) h, hj]
    have : (letter l[j + 1] || digit l[j + 1] && decide (0 < j + 1)) = sign l[j + 1] := by simp [sign]
    rw [this]
    cases (l.take (j + 1)).all sign <;> cases digit (l.headD 0) <;> cases sign l[j + 1] <;> rfl

theorem good_name (l : List UInt8) : goodTo l l.length = nameOK l := by
  cases l with
  | nil => rfl
  | cons a t =>
    unfold goodTo nameOK
    rw [List.length_cons, okTo_eq (a :: t) t.length (by simp), List.take_of_length_le (by simp)]
    simp
    cases decide (t.length ≤ 31) <;> cases sign a <;> cases t.all sign <;> cases digit a <;> rfl

set_option maxHeartbeats 4000000 in
set_option maxRecDepth 100000 in
theorem named_walk (l : List UInt8) (hl : l.length ≤ 9223372036854775807) (w : World) : Calls Try.prog 4 #[.string (str l)] w fun e w' => e = .returned (.bool true) ∧ Below w.heap.size w w' := by
  have hs := str_size l
  go_enter Try.func4, Try.ntmps4
  go_wp2_with fail
  refine (known_any w).mono ?_
  rintro e w1 ⟨rfl, ho1⟩
  have h0 : ∃ g, g = goodTo l 0 := ⟨_, rfl⟩
  obtain ⟨g, hg⟩ := h0
  have hg2 : g = (decide (0 < (l.length : Int)) && decide ((l.length : Int) ≤ 32)) := by
    rw [hg]
    unfold goodTo okTo
    rw [Bool.and_true]
    congr 1
    · exact decide_eq_decide.2 (by omega)
    · exact decide_eq_decide.2 (by omega)
  by_cases hp : 0 < (l.length : Int)
  all_goals
    go_wp2
    go_loopw [3, 4] (fun gv i wr => ∃ j : Nat, j ≤ l.length ∧ i = .int .i64 (j : Int) ∧ gv = .bool (goodTo l j) ∧ wr = w1) (fun _ i _ => l.length - (intOf i).toNat)
    case atStart =>
      refine ⟨0, by omega, rfl, ?_, rfl⟩
      rw [← hg, hg2]
      simp
      try omega
    case round =>
      obtain ⟨j, hj, rfl, rfl, rfl⟩ := hrel
      clear hg hg2
      by_cases hlt : j < l.length
      · have g2 : ((j : Int) < (l.length : Int)) := by omega
        have aj := run_at l j hlt
        have hgd : l.getD j 0 = l[j] := by simp [List.getD, hlt]
        have hst : Hid (goodTo l (j + 1) = (goodTo l j && (letter l[j] || (digit l[j] && decide (0 < j))))) := by
          unfold Hid goodTo
          rw [okTo, hgd]
          simp only [Bool.and_assoc]
        generalize l[j] = c at *
        generalize hG : goodTo l j = G at *
        have hj0 : (0 < (j : Int)) = (0 < j) := by simp
        clear hG hgd
        by_cases h1 : 65 ≤ c.toNat <;> by_cases h2 : c.toNat ≤ 90 <;> by_cases h3 : 97 ≤ c.toNat <;> by_cases h4 : c.toNat ≤ 122 <;> by_cases h5 : c.toNat = 95 <;> by_cases h6 : 48 ≤ c.toNat <;> by_cases h7 : c.toNat ≤ 57
        all_goals try omega
        all_goals cases G
        all_goals
          go_wp2
          all_goals
            refine ⟨⟨j + 1, by omega, by go_num, ?_, trivial⟩, by simp [intOf]; omega⟩
            rw [hst.out]
            simp [letter, digit, h1, h2, h3, h4, h5, h6, h7]
            try omega
      · have g2 : ¬ ((j : Int) < (l.length : Int)) := by omega
        obtain rfl : j = l.length := by omega
        rw [good_name l]
        have ht := str_toList l
        have HN := hid (name_any l hl wr)
        have HM := hid (method_any l hl wr)
        have HC := check_any (0, l) hl wr
        simp only [tyV] at HC
        have HC := hid HC
        cases hn : nameOK l with
        | true =>
          have hm : methodOK l = true := by simp [methodOK, hn]
          have hc : tyCheck (0, l) = 0 := by simp [tyCheck, hn]
          rw [hn] at HN
          rw [hm] at HM
          rw [hc] at HC
          go_wp2_with (first | (go_at_call 14; refine HN.out.mono ?_; rintro e w2 ⟨rfl, rfl⟩) | (go_at_call 15; refine HM.out.mono ?_; rintro e w2 ⟨rfl, rfl⟩) | (go_at_call 16; refine HC.out.mono ?_; rintro e w3 ⟨rfl, ho3⟩))
          go_ret
          exact ⟨by simp, (ho1.next ho3 (by simp)).below (Nat.le_refl _) (by simp)⟩
        | false =>
          by_cases hi : l = initL
          · subst hi
            have ht2 : (str initL).toList = [60, 105, 110, 105, 116, 62] := str_toList _
            have hm : methodOK initL = true := by decide
            have hc : tyCheck (0, initL) = 14 := by decide
            rw [hn] at HN
            rw [hm] at HM
            rw [hc] at HC
            clear ht
            go_wp2_with (first | (go_at_call 14; refine HN.out.mono ?_; rintro e w2 ⟨rfl, rfl⟩) | (go_at_call 15; refine HM.out.mono ?_; rintro e w2 ⟨rfl, rfl⟩) | (go_at_call 16; refine HC.out.mono ?_; rintro e w3 ⟨rfl, ho3⟩))
            go_ret
            exact ⟨by simp, (ho1.next ho3 (by simp)).below (Nat.le_refl _) (by simp)⟩
          · have hi2 : (l == [60, 105, 110, 105, 116, 62]) = false := by
              rw [beq_eq_false_iff_ne]
              exact hi
            have hm : methodOK l = false := by simp [methodOK, hn, hi]
            by_cases hz : l = []
            · subst hz
              have hc : tyCheck (0, []) = 0 := by decide
              rw [hn] at HN
              rw [hm] at HM
              rw [hc] at HC
              go_wp2_with (first | (go_at_call 14; refine HN.out.mono ?_; rintro e w2 ⟨rfl, rfl⟩) | (go_at_call 15; refine HM.out.mono ?_; rintro e w2 ⟨rfl, rfl⟩) | (go_at_call 16; refine HC.out.mono ?_; rintro e w3 ⟨rfl, ho3⟩))
              go_ret
              exact ⟨by simp, (ho1.next ho3 (by simp)).below (Nat.le_refl _) (by simp)⟩
            · have hzi : l.isEmpty = false := by simpa using hz
              have hc : tyCheck (0, l) = 14 := by simp [tyCheck, hn, hz]
              rw [hn] at HN
              rw [hm] at HM
              rw [hc] at HC
              go_wp2_with (first | (go_at_call 14; refine HN.out.mono ?_; rintro e w2 ⟨rfl, rfl⟩) | (go_at_call 15; refine HM.out.mono ?_; rintro e w2 ⟨rfl, rfl⟩) | (go_at_call 16; refine HC.out.mono ?_; rintro e w3 ⟨rfl, ho3⟩))
              go_ret
              exact ⟨by simp, (ho1.next ho3 (by simp)).below (Nat.le_refl _) (by simp)⟩

end Go.Proofs.Ytfpdgfgbonbpjab
