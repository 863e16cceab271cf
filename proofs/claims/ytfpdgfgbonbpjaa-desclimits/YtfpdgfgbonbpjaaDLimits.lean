/-
  The walk of DescLimits: it answers true of whatever numbers and text, and writes nothing that was there. No conditions.
-/
import Derived.Test.YtfpdgfgbonbpjaaDLim
namespace Go.Proofs.Ytfpdgfgbonbpjaa
open Go.RowKit

theorem within_any (a n : Int) (hn : 0 < n ∧ n < 1000) (w : World) : Calls Try.prog 38 #[.int .i64 a, .int .i64 n] w fun e w' => e = .returned (.int .i64 (a % n)) ∧ w' = w := by
  have hz : ¬ (n = 0) := by omega
  have hm : ¬ (n = -1) := by omega
  have b1 := Int.tmod_lt_of_pos a hn.1
  have b2 : -n < a.tmod n := Int.lt_tmod_of_pos a hn.1
  by_cases h : a.tmod n < 0
  · have e : a % n = a.tmod n + n := by
      have q := @Int.emod_eq_tmod a n
      have e0 := Int.emod_nonneg a (by omega : n ≠ 0)
      have e1 : (n.natAbs : Int) = n := Int.natAbs_of_nonneg (by omega)
      split at q
      · omega
      · omega
    go_enter Try.func38, Try.ntmps38
    go_wp2
    go_ret
    first
      | exact ⟨rfl, rfl⟩
      | (rw [e]; exact ⟨rfl, rfl⟩)
  · have e : a % n = a.tmod n := by
      have q := @Int.emod_eq_tmod a n
      have e0 := Int.emod_lt_of_pos a hn.1
      have e1 : (n.natAbs : Int) = n := Int.natAbs_of_nonneg (by omega)
      split at q
      · omega
      · omega
    go_enter Try.func38, Try.ntmps38
    go_wp2
    go_ret
    first
      | exact ⟨rfl, rfl⟩
      | (rw [e]; exact ⟨rfl, rfl⟩)

set_option maxHeartbeats 600000 in
set_option maxRecDepth 100000 in
theorem limits_walk (a b : Int) (n : List UInt8) (hl : n.length ≤ 9223372036854775807) (w : World) : Calls Try.prog 8 #[.int .i64 a, .int .i64 b, .string (str n)] w fun e w' => e = .returned (.bool true) ∧ Below w.heap.size w w' := by
  have ea : ∃ D : Nat, a % 12 = (D : Int) ∧ D < 12 := ⟨(a % 12).toNat, by omega, by omega⟩
  have eb : ∃ P : Nat, b % 22 = (P : Int) ∧ P < 22 := ⟨(b % 22).toNat, by omega, by omega⟩
  obtain ⟨D, hD, hD12⟩ := ea
  obtain ⟨P, hP, hP22⟩ := eb
  go_enter Try.func8, Try.ntmps8
  go_wp2_with fail
  refine (known_any w).mono ?_
  rintro e w1 ⟨rfl, ho1⟩
  have HA := within_any a 12 (by omega) w1
  have HB := within_any b 22 (by omega) w1
  rw [hD] at HA
  rw [hP] at HB
  have HA := hid HA
  have HB := hid HB
  have HN := hid (name_any n hl w1)
  clear hD hP
  cases hn : nameOK n with
  | false =>
    rw [hn] at HN
    go_wp2_with fail
    refine HA.out.mono ?_
    rintro e w2 ⟨rfl, rfl⟩
    go_wp2_with fail
    refine HB.out.mono ?_
    rintro e w2 ⟨rfl, rfl⟩
    go_wp2_with (go_at_call 13; refine HN.out.mono ?_; rintro e w2 ⟨rfl, rfl⟩)
    have hO : One ([73] : List UInt8) ([] : List UInt8) := one_number
    have HO := hid hO
    have hsl := hO.len
    clear hO
    go_loopw [8, 9] (fun tv i wr => ∃ j : Nat, j ≤ D ∧ i = .int .i64 (j : Int) ∧ tv = .string (str (List.replicate j 91 ++ ([73] : List UInt8))) ∧ wr = w2) (fun _ i _ => D - (intOf i).toNat)
    case atStart => exact ⟨0, by omega, rfl, rfl, rfl⟩
    case round =>
      obtain ⟨j, hj, rfl, rfl, rfl⟩ := hrel
      by_cases hlt : j < D
      · have g2 : ((j : Int) < (D : Int)) := by omega
        have kc : ∀ w, (Op.stringOp .add ⟨#[91]⟩ (str (List.replicate j 91 ++ ([73] : List UInt8)))).run Try.prog w = .ok (.string (str (List.replicate (j + 1) 91 ++ ([73] : List UInt8)))) w := fun w => run_cat [91] (List.replicate j 91 ++ ([73] : List UInt8)) (by simp at hsl ⊢; omega) w
        go_wp2
        exact ⟨⟨j + 1, by omega, by go_num, rfl, trivial⟩, by simp [intOf]; omega⟩
      · have g2 : ¬ ((j : Int) < (D : Int)) := by omega
        obtain rfl : j = D := by omega
        have HT := type_any (List.replicate j 91 ++ ([73] : List UInt8)) (by simp at hsl ⊢; omega) wr
        rw [type_dims HO.out] at HT
        by_cases h8 : j ≤ 8
        · have g8 : ¬ (8 < (j : Int)) := by omega
          have g9 : ((j : Int) ≤ 8) := by omega
          rw [if_pos h8] at HT
          simp only [tyV] at HT
          have HT := hid HT
          go_wp2_with fail
          refine HT.out.mono ?_
          rintro e w3 ⟨rfl, ho3⟩
          have htn := str_toList ([] : List UInt8)
          go_wp2
          have ho4 : Only [] w (w3.alloc (.cells #[.int .i64 (j : Int), .string (str ([] : List UInt8))] 23)) := (ho1.next ho3 (by simp)).alloc _
          generalize hW4 : w3.alloc (.cells #[.int .i64 (j : Int), .string (str ([] : List UInt8))] 23) = w4 at *
          clear hW4
          go_loopw [12, 13] (fun gv i wr' => ∃ k : Nat, k ≤ P ∧ i = .int .i64 (k : Int) ∧ gv = .string (str (40 :: rep k ([73] : List UInt8))) ∧ wr' = w4) (fun _ i _ => P - (intOf i).toNat)
          case atStart => exact ⟨0, by omega, rfl, rfl, rfl⟩
          case round =>
            obtain ⟨k, hk, rfl, rfl, hw⟩ := hrel
            obtain rfl := hw.symm
            have hfk := rep_len k ([73] : List UInt8) (by omega) hsl
            by_cases hlt : k < P
            · have g2 : ((k : Int) < (P : Int)) := by omega
              have kc : ∀ w, (Op.stringOp .add (str (40 :: rep k ([73] : List UInt8))) (⟨#[73]⟩)).run Try.prog w = .ok (.string (str (40 :: rep (k + 1) ([73] : List UInt8)))) w := by
                intro w
                have q := run_cat (40 :: rep k ([73] : List UInt8)) ([73] : List UInt8) (by rw [List.length_cons]; omega) w
                rw [rep_succ]
                exact q
              go_wp2
              exact ⟨⟨k + 1, by omega, by go_num, rfl, trivial⟩, by simp [intOf]; omega⟩
            · have g2 : ¬ ((k : Int) < (P : Int)) := by omega
              obtain rfl : k = P := by omega
              have m1 : ∀ w, (Op.stringOp .add (str (40 :: rep k ([73] : List UInt8))) ⟨#[41]⟩).run Try.prog w = .ok (.string (str (40 :: (rep k ([73] : List UInt8) ++ [41])))) w := fun w => run_cat (40 :: rep k ([73] : List UInt8)) [41] (by rw [List.length_cons, List.length_cons, List.length_nil]; omega) w
              have m2 : ∀ w, (Op.stringOp .add (str (40 :: (rep k ([73] : List UInt8) ++ [41]))) (⟨#[73]⟩)).run Try.prog w = .ok (.string (str (40 :: (rep k ([73] : List UInt8) ++ 41 :: ([73] : List UInt8))))) w := by
                intro w
                have q := run_cat (40 :: (rep k ([73] : List UInt8) ++ [41])) ([73] : List UInt8) (by rw [List.length_cons, List.length_append, List.length_cons, List.length_nil]; omega) w
                simp only [List.cons_append, List.append_assoc, List.nil_append] at q
                exact q
              have HS := sig_any (40 :: (rep k ([73] : List UInt8) ++ 41 :: ([73] : List UInt8))) (by rw [List.length_cons, List.length_append, List.length_cons]; omega) w4
              rw [sigR_rep' HO.out] at HS
              have hq := eq_type (0, ([] : List UInt8)) (0, ([] : List UInt8))
              simp only [tyV] at hq
              by_cases h16 : 16 < k
              · have g16 : (16 < (k : Int)) := by omega
                rw [if_pos h16] at HS
                simp only [sigV] at HS
                have HS := hid HS
                go_wp2_with fail
                refine HS.out.mono ?_
                rintro e w5 ⟨v, rfl, hown, ho5⟩
                obtain ⟨ao, cap, rfl⟩ := own_slice hown
                go_wp2
                go_ret
                exact ⟨by simp, ((ho4.next ho5 (by simp)).alloc _).below (Nat.le_refl _) (by simp)⟩
              · have g16 : ¬ (16 < (k : Int)) := by omega
                rw [if_neg h16] at HS
                simp only [sigV] at HS
                have HS := hid HS
                go_wp2_with fail
                refine HS.out.mono ?_
                rintro e w5 ⟨v, rfl, hown, ho5⟩
                obtain ⟨ao, cap, rfl⟩ := own_slice hown
                simp only [List.length_replicate]
                go_wp2
                go_ret
                exact ⟨by simp, ((ho4.next ho5 (by simp)).alloc _).below (Nat.le_refl _) (by simp)⟩
        · have g8 : (8 < (j : Int)) := by omega
          have g9 : ¬ ((j : Int) ≤ 8) := by omega
          rw [if_neg h8] at HT
          simp only [tyV] at HT
          have HT := hid HT
          go_wp2_with fail
          refine HT.out.mono ?_
          rintro e w3 ⟨rfl, ho3⟩
          have ht0 := str_toList []
          go_wp2
          have ho4 : Only [] w (w3.alloc (.cells #[.int .i64 0, .string (str [])] 23)) := (ho1.next ho3 (by simp)).alloc _
          generalize hW4 : w3.alloc (.cells #[.int .i64 0, .string (str [])] 23) = w4 at *
          clear hW4
          go_loopw [12, 13] (fun gv i wr' => ∃ k : Nat, k ≤ P ∧ i = .int .i64 (k : Int) ∧ gv = .string (str (40 :: rep k ([73] : List UInt8))) ∧ wr' = w4) (fun _ i _ => P - (intOf i).toNat)
          case atStart => exact ⟨0, by omega, rfl, rfl, rfl⟩
          case round =>
            obtain ⟨k, hk, rfl, rfl, hw⟩ := hrel
            obtain rfl := hw.symm
            have hfk := rep_len k ([73] : List UInt8) (by omega) hsl
            by_cases hlt : k < P
            · have g2 : ((k : Int) < (P : Int)) := by omega
              have kc : ∀ w, (Op.stringOp .add (str (40 :: rep k ([73] : List UInt8))) (⟨#[73]⟩)).run Try.prog w = .ok (.string (str (40 :: rep (k + 1) ([73] : List UInt8)))) w := by
                intro w
                have q := run_cat (40 :: rep k ([73] : List UInt8)) ([73] : List UInt8) (by rw [List.length_cons]; omega) w
                rw [rep_succ]
                exact q
              go_wp2
              exact ⟨⟨k + 1, by omega, by go_num, rfl, trivial⟩, by simp [intOf]; omega⟩
            · have g2 : ¬ ((k : Int) < (P : Int)) := by omega
              obtain rfl : k = P := by omega
              have m1 : ∀ w, (Op.stringOp .add (str (40 :: rep k ([73] : List UInt8))) ⟨#[41]⟩).run Try.prog w = .ok (.string (str (40 :: (rep k ([73] : List UInt8) ++ [41])))) w := fun w => run_cat (40 :: rep k ([73] : List UInt8)) [41] (by rw [List.length_cons, List.length_cons, List.length_nil]; omega) w
              have m2 : ∀ w, (Op.stringOp .add (str (40 :: (rep k ([73] : List UInt8) ++ [41]))) (⟨#[73]⟩)).run Try.prog w = .ok (.string (str (40 :: (rep k ([73] : List UInt8) ++ 41 :: ([73] : List UInt8))))) w := by
                intro w
                have q := run_cat (40 :: (rep k ([73] : List UInt8) ++ [41])) ([73] : List UInt8) (by rw [List.length_cons, List.length_append, List.length_cons, List.length_nil]; omega) w
                simp only [List.cons_append, List.append_assoc, List.nil_append] at q
                exact q
              have HS := sig_any (40 :: (rep k ([73] : List UInt8) ++ 41 :: ([73] : List UInt8))) (by rw [List.length_cons, List.length_append, List.length_cons]; omega) w4
              rw [sigR_rep' HO.out] at HS
              have hq := eq_type (0, ([] : List UInt8)) (0, ([] : List UInt8))
              simp only [tyV] at hq
              by_cases h16 : 16 < k
              · have g16 : (16 < (k : Int)) := by omega
                rw [if_pos h16] at HS
                simp only [sigV] at HS
                have HS := hid HS
                go_wp2_with fail
                refine HS.out.mono ?_
                rintro e w5 ⟨v, rfl, hown, ho5⟩
                obtain ⟨ao, cap, rfl⟩ := own_slice hown
                go_wp2
                go_ret
                exact ⟨by simp, ((ho4.next ho5 (by simp)).alloc _).below (Nat.le_refl _) (by simp)⟩
              · have g16 : ¬ (16 < (k : Int)) := by omega
                rw [if_neg h16] at HS
                simp only [sigV] at HS
                have HS := hid HS
                go_wp2_with fail
                refine HS.out.mono ?_
                rintro e w5 ⟨v, rfl, hown, ho5⟩
                obtain ⟨ao, cap, rfl⟩ := own_slice hown
                simp only [List.length_replicate]
                go_wp2
                go_ret
                exact ⟨by simp, ((ho4.next ho5 (by simp)).alloc _).below (Nat.le_refl _) (by simp)⟩
  | true =>
    rw [hn] at HN
    have hn32 := (one_class n hn).len
    simp at hn32
    have k1 : ∀ w, (Op.stringOp .add ⟨#[76]⟩ (str n)).run Try.prog w = .ok (.string (str (76 :: n))) w := fun w => run_cat [76] n (by simp; omega) w
    have k2 : ∀ w, (Op.stringOp .add (str (76 :: n)) ⟨#[59]⟩).run Try.prog w = .ok (.string (str (76 :: (n ++ [59])))) w := fun w => run_cat (76 :: n) [59] (by simp; omega) w
    go_wp2_with fail
    refine HA.out.mono ?_
    rintro e w2 ⟨rfl, rfl⟩
    go_wp2_with fail
    refine HB.out.mono ?_
    rintro e w2 ⟨rfl, rfl⟩
    go_wp2_with (go_at_call 13; refine HN.out.mono ?_; rintro e w2 ⟨rfl, rfl⟩)
    have hO : One (76 :: (n ++ [59])) n := one_class n hn
    have HO := hid hO
    have hsl := hO.len
    clear hO
    go_loopw [8, 9] (fun tv i wr => ∃ j : Nat, j ≤ D ∧ i = .int .i64 (j : Int) ∧ tv = .string (str (List.replicate j 91 ++ (76 :: (n ++ [59])))) ∧ wr = w2) (fun _ i _ => D - (intOf i).toNat)
    case atStart => exact ⟨0, by omega, rfl, rfl, rfl⟩
    case round =>
      obtain ⟨j, hj, rfl, rfl, rfl⟩ := hrel
      by_cases hlt : j < D
      · have g2 : ((j : Int) < (D : Int)) := by omega
        have kc : ∀ w, (Op.stringOp .add ⟨#[91]⟩ (str (List.replicate j 91 ++ (76 :: (n ++ [59]))))).run Try.prog w = .ok (.string (str (List.replicate (j + 1) 91 ++ (76 :: (n ++ [59]))))) w := fun w => run_cat [91] (List.replicate j 91 ++ (76 :: (n ++ [59]))) (by simp at hsl ⊢; omega) w
        go_wp2
        exact ⟨⟨j + 1, by omega, by go_num, rfl, trivial⟩, by simp [intOf]; omega⟩
      · have g2 : ¬ ((j : Int) < (D : Int)) := by omega
        obtain rfl : j = D := by omega
        have HT := type_any (List.replicate j 91 ++ (76 :: (n ++ [59]))) (by simp at hsl ⊢; omega) wr
        rw [type_dims HO.out] at HT
        by_cases h8 : j ≤ 8
        · have g8 : ¬ (8 < (j : Int)) := by omega
          have g9 : ((j : Int) ≤ 8) := by omega
          rw [if_pos h8] at HT
          simp only [tyV] at HT
          have HT := hid HT
          go_wp2_with fail
          refine HT.out.mono ?_
          rintro e w3 ⟨rfl, ho3⟩
          have htn := str_toList n
          go_wp2
          have ho4 : Only [] w (w3.alloc (.cells #[.int .i64 (j : Int), .string (str n)] 23)) := (ho1.next ho3 (by simp)).alloc _
          generalize hW4 : w3.alloc (.cells #[.int .i64 (j : Int), .string (str n)] 23) = w4 at *
          clear hW4
          go_loopw [12, 13] (fun gv i wr' => ∃ k : Nat, k ≤ P ∧ i = .int .i64 (k : Int) ∧ gv = .string (str (40 :: rep k (76 :: (n ++ [59])))) ∧ wr' = w4) (fun _ i _ => P - (intOf i).toNat)
          case atStart => exact ⟨0, by omega, rfl, rfl, rfl⟩
          case round =>
            obtain ⟨k, hk, rfl, rfl, hw⟩ := hrel
            obtain rfl := hw.symm
            have hfk := rep_len k (76 :: (n ++ [59])) (by omega) hsl
            by_cases hlt : k < P
            · have g2 : ((k : Int) < (P : Int)) := by omega
              have kc : ∀ w, (Op.stringOp .add (str (40 :: rep k (76 :: (n ++ [59])))) (str (76 :: (n ++ [59])))).run Try.prog w = .ok (.string (str (40 :: rep (k + 1) (76 :: (n ++ [59]))))) w := by
                intro w
                have q := run_cat (40 :: rep k (76 :: (n ++ [59]))) (76 :: (n ++ [59])) (by rw [List.length_cons]; omega) w
                rw [rep_succ]
                exact q
              go_wp2
              exact ⟨⟨k + 1, by omega, by go_num, rfl, trivial⟩, by simp [intOf]; omega⟩
            · have g2 : ¬ ((k : Int) < (P : Int)) := by omega
              obtain rfl : k = P := by omega
              have m1 : ∀ w, (Op.stringOp .add (str (40 :: rep k (76 :: (n ++ [59])))) ⟨#[41]⟩).run Try.prog w = .ok (.string (str (40 :: (rep k (76 :: (n ++ [59])) ++ [41])))) w := fun w => run_cat (40 :: rep k (76 :: (n ++ [59]))) [41] (by rw [List.length_cons, List.length_cons, List.length_nil]; omega) w
              have m2 : ∀ w, (Op.stringOp .add (str (40 :: (rep k (76 :: (n ++ [59])) ++ [41]))) (str (76 :: (n ++ [59])))).run Try.prog w = .ok (.string (str (40 :: (rep k (76 :: (n ++ [59])) ++ 41 :: (76 :: (n ++ [59])))))) w := by
                intro w
                have q := run_cat (40 :: (rep k (76 :: (n ++ [59])) ++ [41])) (76 :: (n ++ [59])) (by rw [List.length_cons, List.length_append, List.length_cons, List.length_nil]; omega) w
                simp only [List.cons_append, List.append_assoc, List.nil_append] at q
                exact q
              have HS := sig_any (40 :: (rep k (76 :: (n ++ [59])) ++ 41 :: (76 :: (n ++ [59])))) (by rw [List.length_cons, List.length_append, List.length_cons]; omega) w4
              rw [sigR_rep' HO.out] at HS
              have hq := eq_type (0, n) (0, n)
              simp only [tyV] at hq
              by_cases h16 : 16 < k
              · have g16 : (16 < (k : Int)) := by omega
                rw [if_pos h16] at HS
                simp only [sigV] at HS
                have HS := hid HS
                go_wp2_with fail
                refine HS.out.mono ?_
                rintro e w5 ⟨v, rfl, hown, ho5⟩
                obtain ⟨ao, cap, rfl⟩ := own_slice hown
                go_wp2
                go_ret
                exact ⟨by simp, ((ho4.next ho5 (by simp)).alloc _).below (Nat.le_refl _) (by simp)⟩
              · have g16 : ¬ (16 < (k : Int)) := by omega
                rw [if_neg h16] at HS
                simp only [sigV] at HS
                have HS := hid HS
                go_wp2_with fail
                refine HS.out.mono ?_
                rintro e w5 ⟨v, rfl, hown, ho5⟩
                obtain ⟨ao, cap, rfl⟩ := own_slice hown
                simp only [List.length_replicate]
                go_wp2
                go_ret
                exact ⟨by simp, ((ho4.next ho5 (by simp)).alloc _).below (Nat.le_refl _) (by simp)⟩
        · have g8 : (8 < (j : Int)) := by omega
          have g9 : ¬ ((j : Int) ≤ 8) := by omega
          rw [if_neg h8] at HT
          simp only [tyV] at HT
          have HT := hid HT
          go_wp2_with fail
          refine HT.out.mono ?_
          rintro e w3 ⟨rfl, ho3⟩
          have ht0 := str_toList []
          go_wp2
          have ho4 : Only [] w (w3.alloc (.cells #[.int .i64 0, .string (str [])] 23)) := (ho1.next ho3 (by simp)).alloc _
          generalize hW4 : w3.alloc (.cells #[.int .i64 0, .string (str [])] 23) = w4 at *
          clear hW4
          go_loopw [12, 13] (fun gv i wr' => ∃ k : Nat, k ≤ P ∧ i = .int .i64 (k : Int) ∧ gv = .string (str (40 :: rep k (76 :: (n ++ [59])))) ∧ wr' = w4) (fun _ i _ => P - (intOf i).toNat)
          case atStart => exact ⟨0, by omega, rfl, rfl, rfl⟩
          case round =>
            obtain ⟨k, hk, rfl, rfl, hw⟩ := hrel
            obtain rfl := hw.symm
            have hfk := rep_len k (76 :: (n ++ [59])) (by omega) hsl
            by_cases hlt : k < P
            · have g2 : ((k : Int) < (P : Int)) := by omega
              have kc : ∀ w, (Op.stringOp .add (str (40 :: rep k (76 :: (n ++ [59])))) (str (76 :: (n ++ [59])))).run Try.prog w = .ok (.string (str (40 :: rep (k + 1) (76 :: (n ++ [59]))))) w := by
                intro w
                have q := run_cat (40 :: rep k (76 :: (n ++ [59]))) (76 :: (n ++ [59])) (by rw [List.length_cons]; omega) w
                rw [rep_succ]
                exact q
              go_wp2
              exact ⟨⟨k + 1, by omega, by go_num, rfl, trivial⟩, by simp [intOf]; omega⟩
            · have g2 : ¬ ((k : Int) < (P : Int)) := by omega
              obtain rfl : k = P := by omega
              have m1 : ∀ w, (Op.stringOp .add (str (40 :: rep k (76 :: (n ++ [59])))) ⟨#[41]⟩).run Try.prog w = .ok (.string (str (40 :: (rep k (76 :: (n ++ [59])) ++ [41])))) w := fun w => run_cat (40 :: rep k (76 :: (n ++ [59]))) [41] (by rw [List.length_cons, List.length_cons, List.length_nil]; omega) w
              have m2 : ∀ w, (Op.stringOp .add (str (40 :: (rep k (76 :: (n ++ [59])) ++ [41]))) (str (76 :: (n ++ [59])))).run Try.prog w = .ok (.string (str (40 :: (rep k (76 :: (n ++ [59])) ++ 41 :: (76 :: (n ++ [59])))))) w := by
                intro w
                have q := run_cat (40 :: (rep k (76 :: (n ++ [59])) ++ [41])) (76 :: (n ++ [59])) (by rw [List.length_cons, List.length_append, List.length_cons, List.length_nil]; omega) w
                simp only [List.cons_append, List.append_assoc, List.nil_append] at q
                exact q
              have HS := sig_any (40 :: (rep k (76 :: (n ++ [59])) ++ 41 :: (76 :: (n ++ [59])))) (by rw [List.length_cons, List.length_append, List.length_cons]; omega) w4
              rw [sigR_rep' HO.out] at HS
              have hq := eq_type (0, n) (0, n)
              simp only [tyV] at hq
              by_cases h16 : 16 < k
              · have g16 : (16 < (k : Int)) := by omega
                rw [if_pos h16] at HS
                simp only [sigV] at HS
                have HS := hid HS
                go_wp2_with fail
                refine HS.out.mono ?_
                rintro e w5 ⟨v, rfl, hown, ho5⟩
                obtain ⟨ao, cap, rfl⟩ := own_slice hown
                go_wp2
                go_ret
                exact ⟨by simp, ((ho4.next ho5 (by simp)).alloc _).below (Nat.le_refl _) (by simp)⟩
              · have g16 : ¬ (16 < (k : Int)) := by omega
                rw [if_neg h16] at HS
                simp only [sigV] at HS
                have HS := hid HS
                go_wp2_with fail
                refine HS.out.mono ?_
                rintro e w5 ⟨v, rfl, hown, ho5⟩
                obtain ⟨ao, cap, rfl⟩ := own_slice hown
                simp only [List.length_replicate]
                go_wp2
                go_ret
                exact ⟨by simp, ((ho4.next ho5 (by simp)).alloc _).below (Nat.le_refl _) (by simp)⟩

end Go.Proofs.Ytfpdgfgbonbpjaa
