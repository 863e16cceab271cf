/-
  The walk of MapsBack. No conditions beyond the arguments' own shape.
-/
import Derived.Test.YtmghmmkjcgopaaaGKnown
namespace Go.Proofs.Ytmghmmkjcgopaaa
open Go.RowKit

theorem decM_errs (bs : List UInt8) : (decM bs).2.1 = 0 ∨ (decM bs).2.1 = 1 ∨ (decM bs).2.1 = 11 := by
  match bs with
  | a :: b :: c :: d :: r =>
    rw [decM_eq]
    by_cases q : r.length < (c.toNat + d.toNat + 7) / 8
    · rw [if_pos q]
      simp
    · rw [if_neg q]
      by_cases p : ((unpack (r.take ((c.toNat + d.toNat + 7) / 8))).drop (c.toNat + d.toNat)).any id = true
      · rw [if_pos p]
        simp
      · rw [if_neg p]
        simp
  | [] => simp [decM]
  | [_] => simp [decM]
  | [_, _] => simp [decM]
  | [_, _, _] => simp [decM]

theorem parse_errs : ∀ (f : Nat) (acc : List Mp) (bs : List UInt8), (parseB f acc bs).2 = 0 ∨ (parseB f acc bs).2 = 1 ∨ (parseB f acc bs).2 = 11 := by
  intro f
  induction f with
  | zero => intro acc bs; exact .inl rfl
  | succ f ih =>
    intro acc bs
    simp only [parseB]
    by_cases h0 : bs.length = 0
    · rw [if_pos h0]
      exact .inl rfl
    · rw [if_neg h0]
      by_cases he : (decM bs).2.1 = 0
      · rw [if_pos he]
        exact ih _ _
      · rw [if_neg he]
        exact decM_errs bs

set_option maxHeartbeats 4000000 in
theorem back_walk {w : World} {Z : Nat → Prop} {v : Value} {l : List Mp} {ao : Option Addr} {bs : List UInt8} {cap d0 : Nat} (hm : MpsV w Z v l) (hb : BS w ao bs d0) (hn : ao = none → cap = 0) (hll : l.length ≤ 9223372036854775807) (hbl : bs.length ≤ 9223372036854775807) (hpl : ∀ m ∈ l, m.2.1.length ≤ 9223372036854775807 ∧ m.2.2.length ≤ 9223372036854775807) :
    Calls Try.prog 4 #[v, .slice ao bs.length cap] w fun e w' => e = .returned (.bool true) ∧ Below w.heap.size w w' := by
  suffices hh : Calls Try.prog 4 #[v, .slice ao bs.length cap] w fun e w' => e = .returned (.bool true) ∧ Only [] w w' from hh.mono fun _ _ ⟨h1, h2⟩ => ⟨h1, h2.below (Nat.le_refl _) (by simp)⟩
  obtain ⟨lo, lc, rfl⟩ : ∃ ao cap, v = .slice ao l.length cap := by
    obtain ⟨cs, ⟨ao, cap, d, hv, _⟩, _⟩ := hm
    exact ⟨ao, cap, hv⟩
  have HK := hid (known12 w)
  have HM := hid hm
  have HBS := hid hb
  clear hm hb
  by_cases h2 : 200 < l.length
  · have g2 : (200 : Int) < (l.length : Int) := by omega
    go_enter Try.func4, Try.ntmps4
    go_wp2_with (go_at_call 5; refine HK.out.mono ?_; rintro e w1 ⟨rfl, ho1⟩)
    go_ret
    exact ⟨rfl, ho1⟩
  · have g2 : ¬ (200 : Int) < (l.length : Int) := by omega
    by_cases h5 : 5000 < bs.length
    · have g5 : (5000 : Int) < (bs.length : Int) := by omega
      go_enter Try.func4, Try.ntmps4
      go_wp2_with (go_at_call 5; refine HK.out.mono ?_; rintro e w1 ⟨rfl, ho1⟩)
      go_ret
      exact ⟨rfl, ho1⟩
    · have g5 : ¬ (5000 : Int) < (bs.length : Int) := by omega
      go_enter Try.func4, Try.ntmps4
      go_wp2_with (go_at_call 5; refine HK.out.mono ?_; rintro e w1 ⟨rfl, ho1⟩)
      go_loopw [5] (fun i wr => ∃ k : Nat, k ≤ l.length ∧ i = .int .i64 (k : Int) ∧ Hid (∀ m ∈ l.take k, Fit m) ∧ wr = w1) (fun i _ => l.length - (intOf i).toNat)
      case atStart => exact ⟨0, Nat.zero_le _, rfl, hid (by simp), rfl⟩
      case round =>
        obtain ⟨k, hk, rfl, hfit, rfl⟩ := hrel
        by_cases hlt : k < l.length
        · obtain ⟨d, off, cp, v1, v2, hv, _, c0, c1, c2, s1, s2, hcp⟩ := (HM.out.only ho1 (by simp)).at hlt
          obtain ⟨hv1, hv2⟩ := hpl _ (List.getElem_mem hlt)
          have htk : l.take (k + 1) = l.take k ++ [l[k]] := List.take_succ_eq_append_getElem hlt
          simp only [Value.slice.injEq, true_and] at hv
          obtain ⟨rfl, rfl⟩ := hv
          generalize l[k] = m at *
          obtain ⟨a1, cp1, e1, rfl, _⟩ := s1
          obtain ⟨a2, cp2, e2, rfl, _⟩ := s2
          obtain ⟨mA, mL, mS⟩ := m
          simp only at c0 c1 c2 hv1 hv2
          have HT := hid htk
          clear htk
          by_cases q1 : 255 < mL.length
          · have r1 : (255 : Int) < (mL.length : Int) := by omega
            go_wp2
            go_ret
            exact ⟨rfl, ho1⟩
          · have r1 : ¬ (255 : Int) < (mL.length : Int) := by omega
            by_cases q2 : 255 < mS.length
            · have r2 : (255 : Int) < (mS.length : Int) := by omega
              go_wp2
              go_ret
              exact ⟨rfl, ho1⟩
            · have r2 : ¬ (255 : Int) < (mS.length : Int) := by omega
              by_cases q3 : mA < 0
              · go_wp2
                go_ret
                exact ⟨rfl, ho1⟩
              · by_cases q4 : 65535 < mA
                · go_wp2
                  go_ret
                  exact ⟨rfl, ho1⟩
                · go_wp2
                  refine ⟨⟨k + 1, by omega, by go_num, hid ?_, by first | rfl | trivial⟩, by simp [intOf]; omega⟩
                  rw [HT.out]
                  intro x hx
                  rcases List.mem_append.1 hx with hx | hx
                  · exact hfit.out x hx
                  · simp at hx
                    subst hx
                    exact ⟨by simp only; omega, by simp only; omega, by simp only; omega, by simp only; omega⟩
        · have ht : l.take k = l := List.take_of_length_le (by omega)
          rw [ht] at hfit
          have HMr := hid (HM.out.only ho1 (by simp))
          have HB := hid (mbits_any HMr.out (by omega) (fun m hm => by have := hfit.out m hm; obtain ⟨_, _, h3, h4⟩ := this; omega))
          have hb1 := back_one l hfit.out
          obtain ⟨E, hE⟩ : ∃ E, E = bitsR l := ⟨_, rfl⟩
          have hEl : E.length ≤ 700000 := by
            have := fold_len l (fun m hm => by have := hfit.out m hm; obtain ⟨_, _, h3, h4⟩ := this; omega) l.length
            rw [List.take_length] at this
            rw [hE]
            unfold bitsR wDone
            split
            · omega
            · simp
          rw [← hE] at HB hb1
          replace hE := hid hE
          replace hb1 := hid hb1
          have hfl : ∀ m ∈ l, m.2.1.length ≤ 1000000 ∧ m.2.2.length ≤ 1000000 := fun m hm => by have := hfit.out m hm; obtain ⟨_, _, h3, h4⟩ := this; omega
          have hll2 : l.length ≤ 1000000 := by omega
          replace hfl := hid hfl
          obtain ⟨R, hR⟩ : ∃ R, R = parseB bs.length [] bs := ⟨_, rfl⟩
          replace hR := hid hR
          go_wp2_with (first
            | (go_at_call 8; refine HB.out.mono ?_; rintro e w2 ⟨ao2, cap2, rfl, hown2, ho2⟩; obtain ⟨hbs2, hc2, hm2, hn2, _⟩ := BS.of_owns (bs := E) hown2; have HP0 := parse_any hbs2 hn2 (by omega); rw [hb1.out] at HP0; have HP := hid HP0; clear HP0 hbs2 hown2; have ho12 := hid (ho1.trans ho2 (by simp)); clear ho1 ho2 HMr)
            | (go_at_call 6; refine HP.out.mono ?_; rintro e w3 ⟨v3, rfl, hv3, ho3⟩; have ho13 := hid (ho12.out.trans ho3 (by simp)); have HS0 := same_any hv3 (HM.out.only ho13.out (by simp)) hll2 hfl.out; rw [decide_eq_true (rfl : l = l)] at HS0; have HS := hid HS0; clear HS0 hv3 HP ho3; have HP5 := hid (fun n => parse_any (HBS.out.only (ho13.out.trans (only_drewN w3 n) (by simp)) (by simp)) hn (by omega)); rw [← hR.out] at HP5)
            | (go_at_call 10; refine HS.out.mono ?_; rintro e w4 ⟨rfl, n4, rfl⟩)
            | (go_at_call 6; refine (HP5.out n4).mono ?_; rintro e w5 ⟨v5, rfl, hv5, ho5⟩; have ho15 := hid ((ho13.out.trans (only_drewN w3 n4) (by simp)).trans ho5 (by simp))))
          obtain ⟨Rl, Re⟩ := R
          replace hR := hR.out
          obtain ⟨a5, c5, rfl⟩ : ∃ ao cap, v5 = .slice ao Rl.length cap := by
            obtain ⟨cs, ⟨ao, cap, d, hv, _⟩, _⟩ := hv5
            exact ⟨ao, cap, hv⟩
          have HV5 : Hid (MpsV w5 (fun b => (w3.drewN n4).heap.size ≤ b) (.slice a5 Rl.length c5) Rl) := hid hv5
          clear hv5 HB HS HP5
          by_cases he : Re = 0
          · subst he
            obtain ⟨g1, g2', g3⟩ := back_two bs (by rw [← hR])
            rw [← hR] at g1 g2' g3
            simp only at g1 g2' g3
            have HB5 : Hid (∀ W, Only [] w5 W → Calls Try.prog 8 #[.slice a5 Rl.length c5] W fun e w' => ∃ ao cap, e = .returned (.slice ao bs.length cap) ∧ w'.ownsRow W.heap.size 5 1 (.slice ao bs.length cap) bs.length (bcs bs) ∧ Only [] W w') := by
              intro W hW
              have := mbits_any (HV5.out.only hW (by simp)) (by omega) (fun m hm => by have := g2' m hm; obtain ⟨_, _, h3, h4⟩ := this; omega)
              rw [g1] at this
              exact this
            have cv5d := conv_str (HBS.out.only ho15.out.drew (by simp)) cap
            have t1 := str_toList bs
            have O5d : Hid (Only [] w5 w5.drew) := (Only.refl [] w5).drew
            clear g1 g2' g3 hR HV5
            refine wp_region_held_drew (S := (fun w' => (convert 23 9 (.slice ao bs.length cap)).run Try.prog w' = .ok (.string (str bs)) w' ∧ Only [] w w')) (by kernel_rfl) ?hSb (fun hHeld => ?restb)
            case hSb => exact ⟨cv5d, ho15.out.drew⟩
            refine wpAnyH_take (i := 0) (v := ?v0) rfl (by kernel_rfl) (by kernel_rfl) (by kernel_rfl) (fun _ _ _ h => h) (Or.inl ⟨by kernel_rfl, ?hy0⟩) (by assumption) ?rest0
            case hy0 =>
              intro w hSw
              try dsimp only at hSw
              go_simp
              try with_reducible rfl
            refine wpAnyH_take (i := 1) (v := ?v1) rfl (by kernel_rfl) (by kernel_rfl) (by kernel_rfl) (fun _ _ _ h => h) (Or.inl ⟨by kernel_rfl, ?hy1⟩) (by assumption) ?rest1
            case hy1 =>
              intro w hSw
              try dsimp only at hSw
              go_simp
              try with_reducible rfl
            refine wpAnyH_take (i := 2) (v := ?v2) rfl (by kernel_rfl) (by kernel_rfl) (by kernel_rfl) (fun _ _ _ h => h) (Or.inl ⟨by kernel_rfl, ?hy2⟩) (by assumption) ?rest2
            case hy2 =>
              intro w hSw
              try dsimp only at hSw
              go_simp
              try with_reducible rfl
            refine wpAnyH_take (i := 3) (v := undef) rfl (by kernel_rfl) (by kernel_rfl) (by kernel_rfl) (fun _ _ _ h => h) (Or.inr ⟨by kernel_rfl, rfl⟩) (by assumption) ?_
            refine wpAnyH_take (i := 4) (v := undef) rfl (by kernel_rfl) (by kernel_rfl) (by kernel_rfl) (fun _ _ _ h => h) (Or.inr ⟨by kernel_rfl, rfl⟩) (by assumption) ?_
            refine wpAnyH_take (i := 5) (v := undef) rfl (by kernel_rfl) (by kernel_rfl) (by kernel_rfl) (fun _ _ _ h => h) (Or.inr ⟨by kernel_rfl, rfl⟩) (by assumption) ?_
            refine wpAnyH_take (i := 6) (v := ?v6) rfl (by kernel_rfl) (by kernel_rfl) (by kernel_rfl) (fun _ _ _ h => h) (Or.inl ⟨by kernel_rfl, ?hy6⟩) (by assumption) ?rest6
            case hy6 =>
              intro w hSw
              try dsimp only at hSw
              go_simp
              try with_reducible rfl
            refine wpAnyH_take (i := 7) (v := ?v7) rfl (by kernel_rfl) (by kernel_rfl) (by kernel_rfl) (fun _ _ _ h => h) (Or.inl ⟨by kernel_rfl, ?hy7⟩) (by assumption) ?rest7
            case hy7 =>
              intro w hSw
              try dsimp only at hSw
              go_simp
              try with_reducible rfl
            refine wpAnyH_take (i := 8) (v := ?v8) rfl (by kernel_rfl) (by kernel_rfl) (by kernel_rfl) (fun _ _ _ h => h) (Or.inl ⟨by kernel_rfl, ?hy8⟩) (by assumption) ?rest8
            case hy8 =>
              intro w hSw
              try dsimp only at hSw
              go_simp
              try with_reducible rfl
            refine wpAnyH_take (i := 9) (v := ?v9) rfl (by kernel_rfl) (by kernel_rfl) (by kernel_rfl) (fun _ _ _ h => h) (Or.inl ⟨by kernel_rfl, ?hy9⟩) (by assumption) ?rest9
            case hy9 =>
              intro w hSw
              try dsimp only at hSw
              go_simp
              try with_reducible rfl
            refine wpAnyH_take (i := 10) (v := ?v10) rfl (by kernel_rfl) (by kernel_rfl) (by kernel_rfl) (fun _ _ _ h => h) (Or.inl ⟨by kernel_rfl, ?hy10⟩) (by assumption) ?rest10
            case hy10 =>
              intro w hSw
              try dsimp only at hSw
              go_simp
              try with_reducible rfl
            refine wpAnyH_take (i := 11) (v := ?v11) rfl (by kernel_rfl) (by kernel_rfl) (by kernel_rfl) (fun _ _ _ h => h) (Or.inl ⟨by kernel_rfl, ?hy11⟩) (by assumption) ?rest11
            case hy11 =>
              intro w hSw
              try dsimp only at hSw
              go_simp
              try with_reducible rfl
            refine wpAnyH_take (i := 14) (v := ?v14) rfl (by kernel_rfl) (by kernel_rfl) (by kernel_rfl) (fun _ _ _ h => h) (Or.inl ⟨by kernel_rfl, ?hy14⟩) (by assumption) ?rest14
            case hy14 =>
              intro w hSw
              try dsimp only at hSw
              go_simp
              try with_reducible rfl
            refine wpAnyH_take (i := 15) (v := ?v15) rfl (by kernel_rfl) (by kernel_rfl) (by kernel_rfl) (fun _ _ _ h => h) (Or.inl ⟨by kernel_rfl, ?hy15⟩) (by assumption) ?rest15
            case hy15 =>
              intro w hSw
              try dsimp only at hSw
              go_simp
              try with_reducible rfl
            refine wpAnyH_ready (rs := [12]) (by kernel_rfl) (by simp) ?_
            refine AllReadyH.cons rfl (fun K hK => ?_) AllReadyH.nil
            rw [if_pos (by kernel_rfl)]
            go_simp
            go_at_call 8; with_reducible refine (HB5.out _ O5d.out).mono ?_; rintro e w6 ⟨ao6, cap6, rfl, hown6, ho6⟩; have cv6 := conv_str (BS.of_owns hown6).1 cap6; have o56 := hid (ho15.out.drew.trans ho6 (by simp)); clear hown6
            go_wp2_with fail
            refine hK.out _ _ ?hS12 (fun hHeld => ?rest12)
            case hS12 => exact ⟨conv_str (HBS.out.only o56.out (by simp)) cap, o56.out⟩
            clear hK K
            refine wpAnyH_ready (rs := [13]) (by kernel_rfl) (by simp) ?_
            refine AllReadyH.cons rfl (fun K hK => ?_) AllReadyH.nil
            rw [if_pos (by kernel_rfl)]
            go_simp
            refine hK.out _ _ ?hS13 (fun hHeld => ?rest13)
            case hS13 => exact ⟨conv_str (HBS.out.only o56.out (by simp)) cap, o56.out⟩
            clear hK K
            refine wpAnyH_take (i := 16) (v := ?v16) rfl (by kernel_rfl) (by kernel_rfl) (by kernel_rfl) (fun _ _ _ h => h) (Or.inl ⟨by kernel_rfl, ?hy16⟩) (by assumption) ?rest16
            case hy16 =>
              intro w hSw
              try dsimp only at hSw
              go_simp
              try with_reducible rfl
            refine wpAnyH_take (i := 17) (v := ?v17) rfl (by kernel_rfl) (by kernel_rfl) (by kernel_rfl) (fun _ _ _ h => h) (Or.inl ⟨by kernel_rfl, ?hy17⟩) (by assumption) ?rest17
            case hy17 =>
              intro w hSw
              try dsimp only at hSw
              go_simp
              try with_reducible rfl
            refine wpAnyH_take (i := 18) (v := ?v18) rfl (by kernel_rfl) (by kernel_rfl) (by kernel_rfl) (fun _ _ _ h => h) (Or.inl ⟨by kernel_rfl, ?hy18⟩) (by assumption) ?rest18
            case hy18 =>
              intro w hSw
              try dsimp only at hSw
              go_simp
              try with_reducible rfl
            refine wpAnyH_take (i := 19) (v := ?v19) rfl (by kernel_rfl) (by kernel_rfl) (by kernel_rfl) (fun _ _ _ h => h) (Or.inl ⟨by kernel_rfl, ?hy19⟩) (by assumption) ?rest19
            case hy19 =>
              intro w hSw
              try dsimp only at hSw
              go_simp
              try with_reducible rfl
            refine wpAnyH_done (by kernel_rfl) ?_ _
            go_wp2
            go_ret
            exact ⟨by first | kernel_rfl | rfl | simp [Act.put], o56.out⟩
          · have hre : Re = 1 ∨ Re = 11 := by
              have := parse_errs bs.length [] bs
              rw [← hR] at this
              simp only at this
              omega
            have hl0 : Rl = [] := by
              have := parse_none bs.length [] bs (by rw [← hR]; exact he)
              rw [← hR] at this
              exact this
            subst hl0
            clear hR he HV5 hfit hb1 hE
            rcases hre with rfl | rfl
            · simp only [List.length_nil]
              refine wp_region_held_drew (S := (fun w' => Only [] w w')) (by kernel_rfl) ?hSbA (fun hHeld => ?restbA)
              case hSbA => exact ho15.out.drew
              refine wpAnyH_take (i := 0) (v := ?vA0) rfl (by kernel_rfl) (by kernel_rfl) (by kernel_rfl) (fun _ _ _ h => h) (Or.inl ⟨by kernel_rfl, ?hyA0⟩) (by assumption) ?restA0
              case hyA0 =>
                intro w hSw
                try dsimp only at hSw
                go_simp
                try with_reducible rfl
              refine wpAnyH_take (i := 1) (v := ?vA1) rfl (by kernel_rfl) (by kernel_rfl) (by kernel_rfl) (fun _ _ _ h => h) (Or.inl ⟨by kernel_rfl, ?hyA1⟩) (by assumption) ?restA1
              case hyA1 =>
                intro w hSw
                try dsimp only at hSw
                go_simp
                try with_reducible rfl
              refine wpAnyH_take (i := 2) (v := ?vA2) rfl (by kernel_rfl) (by kernel_rfl) (by kernel_rfl) (fun _ _ _ h => h) (Or.inl ⟨by kernel_rfl, ?hyA2⟩) (by assumption) ?restA2
              case hyA2 =>
                intro w hSw
                try dsimp only at hSw
                go_simp
                try with_reducible rfl
              refine wpAnyH_take (i := 3) (v := ?vA3) rfl (by kernel_rfl) (by kernel_rfl) (by kernel_rfl) (fun _ _ _ h => h) (Or.inl ⟨by kernel_rfl, ?hyA3⟩) (by assumption) ?restA3
              case hyA3 =>
                intro w hSw
                try dsimp only at hSw
                go_simp
                try with_reducible rfl
              refine wpAnyH_take (i := 4) (v := ?vA4) rfl (by kernel_rfl) (by kernel_rfl) (by kernel_rfl) (fun _ _ _ h => h) (Or.inl ⟨by kernel_rfl, ?hyA4⟩) (by assumption) ?restA4
              case hyA4 =>
                intro w hSw
                try dsimp only at hSw
                go_simp
                try with_reducible rfl
              refine wpAnyH_take (i := 5) (v := ?vA5) rfl (by kernel_rfl) (by kernel_rfl) (by kernel_rfl) (fun _ _ _ h => h) (Or.inl ⟨by kernel_rfl, ?hyA5⟩) (by assumption) ?restA5
              case hyA5 =>
                intro w hSw
                try dsimp only at hSw
                go_simp
                try with_reducible rfl
              refine wpAnyH_take (i := 6) (v := ?vA6) rfl (by kernel_rfl) (by kernel_rfl) (by kernel_rfl) (fun _ _ _ h => h) (Or.inl ⟨by kernel_rfl, ?hyA6⟩) (by assumption) ?restA6
              case hyA6 =>
                intro w hSw
                try dsimp only at hSw
                go_simp
                try with_reducible rfl
              refine wpAnyH_take (i := 7) (v := ?vA7) rfl (by kernel_rfl) (by kernel_rfl) (by kernel_rfl) (fun _ _ _ h => h) (Or.inl ⟨by kernel_rfl, ?hyA7⟩) (by assumption) ?restA7
              case hyA7 =>
                intro w hSw
                try dsimp only at hSw
                go_simp
                try with_reducible rfl
              refine wpAnyH_take (i := 8) (v := undef) rfl (by kernel_rfl) (by kernel_rfl) (by kernel_rfl) (fun _ _ _ h => h) (Or.inr ⟨by kernel_rfl, rfl⟩) (by assumption) ?_
              refine wpAnyH_take (i := 9) (v := undef) rfl (by kernel_rfl) (by kernel_rfl) (by kernel_rfl) (fun _ _ _ h => h) (Or.inr ⟨by kernel_rfl, rfl⟩) (by assumption) ?_
              refine wpAnyH_take (i := 10) (v := undef) rfl (by kernel_rfl) (by kernel_rfl) (by kernel_rfl) (fun _ _ _ h => h) (Or.inr ⟨by kernel_rfl, rfl⟩) (by assumption) ?_
              refine wpAnyH_take (i := 11) (v := undef) rfl (by kernel_rfl) (by kernel_rfl) (by kernel_rfl) (fun _ _ _ h => h) (Or.inr ⟨by kernel_rfl, rfl⟩) (by assumption) ?_
              refine wpAnyH_take (i := 12) (v := undef) rfl (by kernel_rfl) (by kernel_rfl) (by kernel_rfl) (fun _ _ _ h => h) (Or.inr ⟨by kernel_rfl, rfl⟩) (by assumption) ?_
              refine wpAnyH_take (i := 13) (v := undef) rfl (by kernel_rfl) (by kernel_rfl) (by kernel_rfl) (fun _ _ _ h => h) (Or.inr ⟨by kernel_rfl, rfl⟩) (by assumption) ?_
              refine wpAnyH_take (i := 14) (v := undef) rfl (by kernel_rfl) (by kernel_rfl) (by kernel_rfl) (fun _ _ _ h => h) (Or.inr ⟨by kernel_rfl, rfl⟩) (by assumption) ?_
              refine wpAnyH_take (i := 15) (v := undef) rfl (by kernel_rfl) (by kernel_rfl) (by kernel_rfl) (fun _ _ _ h => h) (Or.inr ⟨by kernel_rfl, rfl⟩) (by assumption) ?_
              refine wpAnyH_take (i := 16) (v := undef) rfl (by kernel_rfl) (by kernel_rfl) (by kernel_rfl) (fun _ _ _ h => h) (Or.inr ⟨by kernel_rfl, rfl⟩) (by assumption) ?_
              refine wpAnyH_take (i := 17) (v := undef) rfl (by kernel_rfl) (by kernel_rfl) (by kernel_rfl) (fun _ _ _ h => h) (Or.inr ⟨by kernel_rfl, rfl⟩) (by assumption) ?_
              refine wpAnyH_take (i := 18) (v := ?vA18) rfl (by kernel_rfl) (by kernel_rfl) (by kernel_rfl) (fun _ _ _ h => h) (Or.inl ⟨by kernel_rfl, ?hyA18⟩) (by assumption) ?restA18
              case hyA18 =>
                intro w hSw
                try dsimp only at hSw
                go_simp
                try with_reducible rfl
              refine wpAnyH_take (i := 19) (v := ?vA19) rfl (by kernel_rfl) (by kernel_rfl) (by kernel_rfl) (fun _ _ _ h => h) (Or.inl ⟨by kernel_rfl, ?hyA19⟩) (by assumption) ?restA19
              case hyA19 =>
                intro w hSw
                try dsimp only at hSw
                go_simp
                try with_reducible rfl
              refine wpAnyH_done (by kernel_rfl) ?_ _
              go_wp2
              go_ret
              exact ⟨by first | kernel_rfl | rfl | simp [Act.put], hHeld⟩
            · simp only [List.length_nil]
              refine wp_region_held_drew (S := (fun w' => Only [] w w')) (by kernel_rfl) ?hSbB (fun hHeld => ?restbB)
              case hSbB => exact ho15.out.drew
              refine wpAnyH_take (i := 0) (v := ?vB0) rfl (by kernel_rfl) (by kernel_rfl) (by kernel_rfl) (fun _ _ _ h => h) (Or.inl ⟨by kernel_rfl, ?hyB0⟩) (by assumption) ?restB0
              case hyB0 =>
                intro w hSw
                try dsimp only at hSw
                go_simp
                try with_reducible rfl
              refine wpAnyH_take (i := 1) (v := ?vB1) rfl (by kernel_rfl) (by kernel_rfl) (by kernel_rfl) (fun _ _ _ h => h) (Or.inl ⟨by kernel_rfl, ?hyB1⟩) (by assumption) ?restB1
              case hyB1 =>
                intro w hSw
                try dsimp only at hSw
                go_simp
                try with_reducible rfl
              refine wpAnyH_take (i := 2) (v := ?vB2) rfl (by kernel_rfl) (by kernel_rfl) (by kernel_rfl) (fun _ _ _ h => h) (Or.inl ⟨by kernel_rfl, ?hyB2⟩) (by assumption) ?restB2
              case hyB2 =>
                intro w hSw
                try dsimp only at hSw
                go_simp
                try with_reducible rfl
              refine wpAnyH_take (i := 3) (v := ?vB3) rfl (by kernel_rfl) (by kernel_rfl) (by kernel_rfl) (fun _ _ _ h => h) (Or.inl ⟨by kernel_rfl, ?hyB3⟩) (by assumption) ?restB3
              case hyB3 =>
                intro w hSw
                try dsimp only at hSw
                go_simp
                try with_reducible rfl
              refine wpAnyH_take (i := 4) (v := ?vB4) rfl (by kernel_rfl) (by kernel_rfl) (by kernel_rfl) (fun _ _ _ h => h) (Or.inl ⟨by kernel_rfl, ?hyB4⟩) (by assumption) ?restB4
              case hyB4 =>
                intro w hSw
                try dsimp only at hSw
                go_simp
                try with_reducible rfl
              refine wpAnyH_take (i := 5) (v := ?vB5) rfl (by kernel_rfl) (by kernel_rfl) (by kernel_rfl) (fun _ _ _ h => h) (Or.inl ⟨by kernel_rfl, ?hyB5⟩) (by assumption) ?restB5
              case hyB5 =>
                intro w hSw
                try dsimp only at hSw
                go_simp
                try with_reducible rfl
              refine wpAnyH_take (i := 6) (v := ?vB6) rfl (by kernel_rfl) (by kernel_rfl) (by kernel_rfl) (fun _ _ _ h => h) (Or.inl ⟨by kernel_rfl, ?hyB6⟩) (by assumption) ?restB6
              case hyB6 =>
                intro w hSw
                try dsimp only at hSw
                go_simp
                try with_reducible rfl
              refine wpAnyH_take (i := 7) (v := ?vB7) rfl (by kernel_rfl) (by kernel_rfl) (by kernel_rfl) (fun _ _ _ h => h) (Or.inl ⟨by kernel_rfl, ?hyB7⟩) (by assumption) ?restB7
              case hyB7 =>
                intro w hSw
                try dsimp only at hSw
                go_simp
                try with_reducible rfl
              refine wpAnyH_take (i := 8) (v := undef) rfl (by kernel_rfl) (by kernel_rfl) (by kernel_rfl) (fun _ _ _ h => h) (Or.inr ⟨by kernel_rfl, rfl⟩) (by assumption) ?_
              refine wpAnyH_take (i := 9) (v := undef) rfl (by kernel_rfl) (by kernel_rfl) (by kernel_rfl) (fun _ _ _ h => h) (Or.inr ⟨by kernel_rfl, rfl⟩) (by assumption) ?_
              refine wpAnyH_take (i := 10) (v := undef) rfl (by kernel_rfl) (by kernel_rfl) (by kernel_rfl) (fun _ _ _ h => h) (Or.inr ⟨by kernel_rfl, rfl⟩) (by assumption) ?_
              refine wpAnyH_take (i := 11) (v := undef) rfl (by kernel_rfl) (by kernel_rfl) (by kernel_rfl) (fun _ _ _ h => h) (Or.inr ⟨by kernel_rfl, rfl⟩) (by assumption) ?_
              refine wpAnyH_take (i := 12) (v := undef) rfl (by kernel_rfl) (by kernel_rfl) (by kernel_rfl) (fun _ _ _ h => h) (Or.inr ⟨by kernel_rfl, rfl⟩) (by assumption) ?_
              refine wpAnyH_take (i := 13) (v := undef) rfl (by kernel_rfl) (by kernel_rfl) (by kernel_rfl) (fun _ _ _ h => h) (Or.inr ⟨by kernel_rfl, rfl⟩) (by assumption) ?_
              refine wpAnyH_take (i := 14) (v := undef) rfl (by kernel_rfl) (by kernel_rfl) (by kernel_rfl) (fun _ _ _ h => h) (Or.inr ⟨by kernel_rfl, rfl⟩) (by assumption) ?_
              refine wpAnyH_take (i := 15) (v := undef) rfl (by kernel_rfl) (by kernel_rfl) (by kernel_rfl) (fun _ _ _ h => h) (Or.inr ⟨by kernel_rfl, rfl⟩) (by assumption) ?_
              refine wpAnyH_take (i := 16) (v := undef) rfl (by kernel_rfl) (by kernel_rfl) (by kernel_rfl) (fun _ _ _ h => h) (Or.inr ⟨by kernel_rfl, rfl⟩) (by assumption) ?_
              refine wpAnyH_take (i := 17) (v := undef) rfl (by kernel_rfl) (by kernel_rfl) (by kernel_rfl) (fun _ _ _ h => h) (Or.inr ⟨by kernel_rfl, rfl⟩) (by assumption) ?_
              refine wpAnyH_take (i := 18) (v := ?vB18) rfl (by kernel_rfl) (by kernel_rfl) (by kernel_rfl) (fun _ _ _ h => h) (Or.inl ⟨by kernel_rfl, ?hyB18⟩) (by assumption) ?restB18
              case hyB18 =>
                intro w hSw
                try dsimp only at hSw
                go_simp
                try with_reducible rfl
              refine wpAnyH_take (i := 19) (v := ?vB19) rfl (by kernel_rfl) (by kernel_rfl) (by kernel_rfl) (fun _ _ _ h => h) (Or.inl ⟨by kernel_rfl, ?hyB19⟩) (by assumption) ?restB19
              case hyB19 =>
                intro w hSw
                try dsimp only at hSw
                go_simp
                try with_reducible rfl
              refine wpAnyH_done (by kernel_rfl) ?_ _
              go_wp2
              go_ret
              exact ⟨by first | kernel_rfl | rfl | simp [Act.put], hHeld⟩

theorem mps_bounds {w : World} {P : Nat → Prop} {v : Value} {l : List Mp} (h : MpsV w P v l) : l.length ≤ 9223372036854775807 ∧ ∀ m ∈ l, m.2.1.length ≤ 9223372036854775807 ∧ m.2.2.length ≤ 9223372036854775807 := by
  obtain ⟨cs, ⟨ao, cap, d, _, hS⟩, hE⟩ := h
  refine ⟨Nat.le_trans hS.le hS.max, fun m hm => ?_⟩
  obtain ⟨j, hj, rfl⟩ := List.getElem_of_mem hm
  obtain ⟨v1, v2, _, ⟨_, _, _, _, h1⟩, ⟨_, _, _, _, h2⟩⟩ := hE.el j hj
  exact ⟨Nat.le_trans h1.le h1.max, Nat.le_trans h2.le h2.max⟩

theorem mback_walk {w : World} {Z : Nat → Prop} {v : Value} {l : List Mp} {ao : Option Addr} {bs : List UInt8} {cap d0 : Nat} (hm : MpsV w Z v l) (hb : BS w ao bs d0) (hn : ao = none → cap = 0) (hbl : bs.length ≤ 9223372036854775807) :
    Calls Try.prog 4 #[v, .slice ao bs.length cap] w fun e w' => e = .returned (.bool true) ∧ Below w.heap.size w w' := back_walk hm hb hn (mps_bounds hm).1 hbl (mps_bounds hm).2

end Go.Proofs.Ytmghmmkjcgopaaa
