/-
  The walk of MapsBytes. No conditions beyond the arguments' own shape.
-/
import Derived.Test.YtmghmmkjcgopaaaGXP3
namespace Go.Proofs.Ytmghmmkjcgopaaa
open Go.RowKit

theorem mps_bounds2 {w : World} {P : Nat → Prop} {v : Value} {l : List Mp} (h : MpsV w P v l) : l.length ≤ 9223372036854775807 ∧ ∀ m ∈ l, m.2.1.length ≤ 9223372036854775807 ∧ m.2.2.length ≤ 9223372036854775807 := by
  obtain ⟨cs, ⟨ao, cap, d, _, hS⟩, hE⟩ := h
  refine ⟨Nat.le_trans hS.le hS.max, fun m hm => ?_⟩
  obtain ⟨j, hj, rfl⟩ := List.getElem_of_mem hm
  obtain ⟨v1, v2, _, ⟨_, _, _, _, h1⟩, ⟨_, _, _, _, h2⟩⟩ := hE.el j hj
  exact ⟨Nat.le_trans h1.le h1.max, Nat.le_trans h2.le h2.max⟩

theorem parse_small (bs : List UInt8) : (parseB bs.length [] bs).1.length ≤ bs.length ∧ ∀ m ∈ (parseB bs.length [] bs).1, m.2.1.length ≤ 1000000 ∧ m.2.2.length ≤ 1000000 := by
  by_cases he : (parseB bs.length [] bs).2 = 0
  · obtain ⟨_, g2, g3⟩ := back_two bs he
    exact ⟨g3, fun m hm => by have := g2 m hm; obtain ⟨_, _, h3, h4⟩ := this; omega⟩
  · rw [parse_none _ _ _ he]
    simp

set_option maxHeartbeats 4000000 in
set_option maxRecDepth 100000 in
theorem mbytes_walk {w : World} {Z : Nat → Prop} {v : Value} {l : List Mp} {ao : Option Addr} {bs : List UInt8} {cap d0 : Nat} (hm : MpsV w Z v l) (hb : BS w ao bs d0) (hn : ao = none → cap = 0) (hbl : bs.length ≤ 9223372036854775807) (hcb : bs.length ≤ cap ∧ cap ≤ 9223372036854775807) :
    Calls Try.prog 3 #[v, .slice ao bs.length cap] w fun e w' => e = .returned (.bool true) ∧ Below w.heap.size w w' := by
  suffices hh : Calls Try.prog 3 #[v, .slice ao bs.length cap] w fun e w' => e = .returned (.bool true) ∧ Only [] w w' from hh.mono fun _ _ ⟨h1, h2⟩ => ⟨h1, h2.below (Nat.le_refl _) (by simp)⟩
  obtain ⟨hll, hpl⟩ := mps_bounds2 hm
  obtain ⟨lo, lc, rfl⟩ : ∃ ao cap, v = .slice ao l.length cap := by
    obtain ⟨cs, ⟨ao, cap, d, hv, _⟩, _⟩ := hm
    exact ⟨ao, cap, hv⟩
  have HK := hid (known12 w)
  have HM := hid hm
  have HBS := hid hb
  clear hm hb
  by_cases h2 : 200 < l.length
  · have g2 : (200 : Int) < (l.length : Int) := by omega
    go_enter Try.func3, Try.ntmps3
    go_wp2_with (go_at_call 5; refine HK.out.mono ?_; rintro e w1 ⟨rfl, ho1⟩)
    go_ret
    exact ⟨rfl, ho1⟩
  · have g2 : ¬ (200 : Int) < (l.length : Int) := by omega
    by_cases h5 : 5000 < bs.length
    · have g5 : (5000 : Int) < (bs.length : Int) := by omega
      go_enter Try.func3, Try.ntmps3
      go_wp2_with (go_at_call 5; refine HK.out.mono ?_; rintro e w1 ⟨rfl, ho1⟩)
      go_ret
      exact ⟨rfl, ho1⟩
    · have g5 : ¬ (5000 : Int) < (bs.length : Int) := by omega
      go_enter Try.func3, Try.ntmps3
      go_wp2_with (go_at_call 5; refine HK.out.mono ?_; rintro e w1 ⟨rfl, ho1⟩)
      go_loopw [5] (fun i wr => ∃ k : Nat, k ≤ l.length ∧ i = .int .i64 (k : Int) ∧ Hid (∀ m ∈ l.take k, m.2.1.length ≤ 1000 ∧ m.2.2.length ≤ 1000) ∧ wr = w1) (fun i _ => l.length - (intOf i).toNat)
      case atStart => exact ⟨0, Nat.zero_le _, rfl, hid (by simp), rfl⟩
      case round =>
        obtain ⟨k, hk, rfl, hfit, rfl⟩ := hrel
        by_cases hlt : k < l.length
        · obtain ⟨d, off, cp, v1, v2, hv, _, c0, c1, c2, s1, s2, hcp⟩ := (HM.out.only ho1 (by simp)).at hlt
          obtain ⟨hv1, hv2⟩ := hpl _ (List.getElem_mem hlt)
          have htk : l.take (k + 1) = l.take k ++ [l[k]] := List.take_succ_eq_append_getElem hlt
          simp only [Value.slice.injEq, true_and] at hv
          obtain ⟨rfl, rfl⟩ := hv
          generalize l[k] = m at *
          obtain ⟨a1, cp1, e1, rfl, _⟩ := s1
          obtain ⟨a2, cp2, e2, rfl, _⟩ := s2
          obtain ⟨mA, mL, mS⟩ := m
          simp only at c0 c1 c2 hv1 hv2
          have HT := hid htk
          clear htk
          by_cases q1 : 300 < mL.length
          · have r1 : (300 : Int) < (mL.length : Int) := by omega
            go_wp2
            go_ret
            exact ⟨rfl, ho1⟩
          · have r1 : ¬ (300 : Int) < (mL.length : Int) := by omega
            by_cases q2 : 300 < mS.length
            · have r2 : (300 : Int) < (mS.length : Int) := by omega
              go_wp2
              go_ret
              exact ⟨rfl, ho1⟩
            · have r2 : ¬ (300 : Int) < (mS.length : Int) := by omega
              go_wp2
              refine ⟨⟨k + 1, by omega, by go_num, hid ?_, by first | rfl | trivial⟩, by simp [intOf]; omega⟩
              rw [HT.out]
              intro x hx
              rcases List.mem_append.1 hx with hx | hx
              · exact hfit.out x hx
              · simp at hx
                subst hx
                exact ⟨by simp only; omega, by simp only; omega⟩
        · have ht : l.take k = l := List.take_of_length_le (by omega)
          rw [ht] at hfit
          obtain ⟨R, hR⟩ : ∃ R, R = parseB bs.length [] bs := ⟨_, rfl⟩
          obtain ⟨hsm1, hsm2⟩ := parse_small bs
          rw [← hR] at hsm1 hsm2
          replace hR := hid hR
          replace hsm2 := hid hsm2
          have hB1 := HBS.out.only (ho1.alloc (.cells #[] 5)) (by simp)
          have ho1' := hid ho1
          go_wp2_with (first
            | (at_builtin; refine wpList_append_bytes rfl (.tmp 43) (.tmp 44) rfl rfl rfl (World.ownsRow_made wr #[] 0 (Nat.le_refl _) (by decide) rfl) hB1 hn (by omega) (by simp) ?_; rintro ao2 cap2 w2 hown2 hgr2 _ _; rw [Nat.zero_add] at hown2 ⊢; rw [List.nil_append] at hown2; obtain ⟨hbs2, hc2, hm2, hn2, _⟩ := BS.of_owns hown2; have HP := hid (parse_any hbs2 hn2 (by omega)); rw [← hR.out] at HP; have ho2 : Hid (Only [] w w2) := (ho1'.out.alloc _).next (Only.of_grown hgr2) (by have := ho1'.out.size; simp [Value.ownBlock]; omega); clear hbs2 hown2 hgr2)
            | (go_at_call 6; refine HP.out.mono ?_; rintro e w3 ⟨v3, rfl, hv3, ho3⟩; have ho13 := hid (ho2.out.trans ho3 (by simp)); have HV3 := hid hv3; have HP5 := hid (xparse_any (HBS.out.only ho13.out (by simp)) hcb.1 hcb.2 hn (by omega)); rw [← hR.out] at HP5; clear hv3 HP)
            | (go_at_call 7; refine HP5.out.mono ?_; rintro e w5 ⟨v5, rfl, hv5, ho5⟩; have ho15 := hid (ho13.out.trans ho5 (by simp)); have HV5 := hid hv5; clear hv5))
          obtain ⟨E, hE⟩ : ∃ E, E = bitsR l := ⟨_, rfl⟩
          have HB6 : Hid (∀ W, Only [] w5 W → Calls Try.prog 8 #[.slice lo l.length lc] W fun e w' => ∃ ao cap, e = .returned (.slice ao E.length cap) ∧ w'.ownsRow W.heap.size 5 1 (.slice ao E.length cap) E.length (bcs E) ∧ Only [] W w') := by
            intro W hW
            rw [hE]
            exact mbits_any (HM.out.only (ho15.out.trans hW (by simp)) (by simp)) (by omega) hfit.out
          have HX6 : Hid (∀ W, Only [] w5 W → Calls Try.prog 9 #[.slice lo l.length lc] W fun e w' => ∃ ao cap, e = .returned (.slice ao E.length cap) ∧ w'.ownsRow W.heap.size 5 1 (.slice ao E.length cap) E.length (bcs E) ∧ Only [] W w') := by
            intro W hW
            rw [hE]
            exact xbits_any (HM.out.only (ho15.out.trans hW (by simp)) (by simp)) (by omega) hfit.out
          have HS : Hid (∀ W, Only [] w5 W → Calls Try.prog 10 #[v3, v5] W fun e w' => e = .returned (.bool true) ∧ ∃ n, w' = W.drewN n) := by
            intro W hW
            have := same_any (HV3.out.only (ho5.trans hW (by simp)) (by simp)) (HV5.out.only hW (by simp)) (by omega) hsm2.out
            rw [decide_eq_true (rfl : R.1 = R.1)] at this
            exact this
          have O5 : Hid (Only [] w5 w5) := Only.refl [] w5
          have O5d : Hid (Only [] w5 w5.drew) := (Only.refl [] w5).drew
          have t1 := str_toList E
          obtain ⟨re, hre⟩ : ∃ re, re = R.2 := ⟨_, rfl⟩
          rw [← hre]
          clear hE hre hfit HP5 HV3 HV5 ho5 ho3 hB1 hsm1
          refine wp_region_held_drew (S := (fun w' => Only [] w5 w')) (by kernel_rfl) ?hSb (fun hHeld => ?restb)
          case hSb => exact O5d.out
          refine wpAnyH_take (i := 0) (v := ?vq1) rfl (by kernel_rfl) (by kernel_rfl) (by kernel_rfl) (fun _ _ _ h => h) (Or.inl ⟨by kernel_rfl, ?hyq1⟩) (by assumption) ?restq1
          case hyq1 =>
            intro w hSw
            try dsimp only at hSw
            go_simp
            try with_reducible rfl
          refine wpAnyH_take (i := 3) (v := ?vq2) rfl (by kernel_rfl) (by kernel_rfl) (by kernel_rfl) (fun _ _ _ h => h) (Or.inl ⟨by kernel_rfl, ?hyq2⟩) (by assumption) ?restq2
          case hyq2 =>
            intro w hSw
            try dsimp only at hSw
            go_simp
            try with_reducible rfl
          refine wpAnyH_ready (rs := [1]) (by kernel_rfl) (by simp) ?_
          refine AllReadyH.cons rfl (fun K hK => ?_) AllReadyH.nil
          go_simp
          go_at_call 8; (with_reducible refine (HB6.out _ O5d.out).mono ?_); rintro e w6 ⟨ao6, cap6, rfl, hown6, ho6⟩; have o6 := hid (O5d.out.trans ho6 (by simp)); have HB66 := hid (BS.of_owns hown6).1; have cv6 := conv_str HB66.out cap6; clear hown6 ho6
          go_wp2_with fail
          refine hK.out _ _ ?hSq3 (fun hHeld => ?restq3)
          case hSq3 => exact o6.out
          clear hK K
          refine wpAnyH_ready (rs := [2, 4]) (by kernel_rfl) (by simp) ?_
          refine AllReadyH.cons rfl (fun K hK => ?_) (AllReadyH.cons rfl (fun K hK => ?_) AllReadyH.nil)
          · go_simp
            refine hK.out _ _ ?hSq4 (fun hHeld => ?restq4)
            case hSq4 => exact o6.out
            clear hK K
            refine wpAnyH_ready (rs := [4]) (by kernel_rfl) (by simp) ?_
            refine AllReadyH.cons rfl (fun K hK => ?_) AllReadyH.nil
            go_simp
            go_at_call 9; (with_reducible refine (HX6.out _ o6.out).mono ?_); rintro e w7 ⟨ao7, cap7, rfl, hown7, ho7⟩; have o7 := hid (o6.out.trans ho7 (by simp)); have cv7 := conv_str (BS.of_owns hown7).1 cap7; have cv67 := conv_str (HB66.out.only ho7 (by simp)) cap6; clear hown7 ho7
            go_wp2_with fail
            refine hK.out _ _ ?hSq5 (fun hHeld => ?restq5)
            case hSq5 => exact o7.out
            clear hK K
            refine wpAnyH_ready (rs := [5]) (by kernel_rfl) (by simp) ?_
            refine AllReadyH.cons rfl (fun K hK => ?_) AllReadyH.nil
            go_simp
            refine hK.out _ _ ?hSq6 (fun hHeld => ?restq6)
            case hSq6 => exact o7.out
            clear hK K
            refine wpAnyH_take (i := 6) (v := ?vq7) rfl (by kernel_rfl) (by kernel_rfl) (by kernel_rfl) (fun _ _ _ h => h) (Or.inl ⟨by kernel_rfl, ?hyq7⟩) (by assumption) ?restq7
            case hyq7 =>
              intro w hSw
              try dsimp only at hSw
              go_simp
              try with_reducible rfl
            refine wpAnyH_take (i := 7) (v := ?vq8) rfl (by kernel_rfl) (by kernel_rfl) (by kernel_rfl) (fun _ _ _ h => h) (Or.inl ⟨by kernel_rfl, ?hyq8⟩) (by assumption) ?restq8
            case hyq8 =>
              intro w hSw
              try dsimp only at hSw
              go_simp
              try with_reducible rfl
            refine wpAnyH_take (i := 8) (v := ?vq9) rfl (by kernel_rfl) (by kernel_rfl) (by kernel_rfl) (fun _ _ _ h => h) (Or.inl ⟨by kernel_rfl, ?hyq9⟩) (by assumption) ?restq9
            case hyq9 =>
              intro w hSw
              try dsimp only at hSw
              go_simp
              try with_reducible rfl
            refine wpAnyH_take (i := 9) (v := ?vq10) rfl (by kernel_rfl) (by kernel_rfl) (by kernel_rfl) (fun _ _ _ h => h) (Or.inl ⟨by kernel_rfl, ?hyq10⟩) (by assumption) ?restq10
            case hyq10 =>
              intro w hSw
              try dsimp only at hSw
              go_simp
              try with_reducible rfl
            refine wpAnyH_ready (rs := [10]) (by kernel_rfl) (by simp) ?_
            refine AllReadyH.cons rfl (fun K hK => ?_) AllReadyH.nil
            rw [if_pos (by kernel_rfl)]
            go_simp
            go_at_call 10; (with_reducible refine (HS.out _ o7.out).mono ?_); rintro e w8 ⟨rfl, n8, rfl⟩
            go_wp2_with fail
            refine hK.out _ _ ?hSq11 (fun hHeld => ?restq11)
            case hSq11 => exact o7.out.drewN n8
            clear hK K
            refine wpAnyH_take (i := 11) (v := ?vq12) rfl (by kernel_rfl) (by kernel_rfl) (by kernel_rfl) (fun _ _ _ h => h) (Or.inl ⟨by kernel_rfl, ?hyq12⟩) (by assumption) ?restq12
            case hyq12 =>
              intro w hSw
              try dsimp only at hSw
              go_simp
              try with_reducible rfl
            refine wpAnyH_take (i := 12) (v := ?vq13) rfl (by kernel_rfl) (by kernel_rfl) (by kernel_rfl) (fun _ _ _ h => h) (Or.inl ⟨by kernel_rfl, ?hyq13⟩) (by assumption) ?restq13
            case hyq13 =>
              intro w hSw
              try dsimp only at hSw
              go_simp
              try with_reducible rfl
            refine wpAnyH_take (i := 13) (v := ?vq14) rfl (by kernel_rfl) (by kernel_rfl) (by kernel_rfl) (fun _ _ _ h => h) (Or.inl ⟨by kernel_rfl, ?hyq14⟩) (by assumption) ?restq14
            case hyq14 =>
              intro w hSw
              try dsimp only at hSw
              go_simp
              try with_reducible rfl
            refine wpAnyH_take (i := 14) (v := ?vq15) rfl (by kernel_rfl) (by kernel_rfl) (by kernel_rfl) (fun _ _ _ h => h) (Or.inl ⟨by kernel_rfl, ?hyq15⟩) (by assumption) ?restq15
            case hyq15 =>
              intro w hSw
              try dsimp only at hSw
              go_simp
              try with_reducible rfl
            refine wpAnyH_take (i := 15) (v := ?vq16) rfl (by kernel_rfl) (by kernel_rfl) (by kernel_rfl) (fun _ _ _ h => h) (Or.inl ⟨by kernel_rfl, ?hyq16⟩) (by assumption) ?restq16
            case hyq16 =>
              intro w hSw
              try dsimp only at hSw
              go_simp
              try with_reducible rfl
            refine wpAnyH_take (i := 16) (v := ?vq17) rfl (by kernel_rfl) (by kernel_rfl) (by kernel_rfl) (fun _ _ _ h => h) (Or.inl ⟨by kernel_rfl, ?hyq17⟩) (by assumption) ?restq17
            case hyq17 =>
              intro w hSw
              try dsimp only at hSw
              go_simp
              try with_reducible rfl
            refine wpAnyH_take (i := 17) (v := ?vq18) rfl (by kernel_rfl) (by kernel_rfl) (by kernel_rfl) (fun _ _ _ h => h) (Or.inl ⟨by kernel_rfl, ?hyq18⟩) (by assumption) ?restq18
            case hyq18 =>
              intro w hSw
              try dsimp only at hSw
              go_simp
              try with_reducible rfl
            refine wpAnyH_done (by kernel_rfl) ?_ _
            go_wp2
            go_ret
            exact ⟨by first | kernel_rfl | rfl | simp [Act.put], (ho15.out.trans o7.out (by simp)).drewN _⟩
          · go_simp
            go_at_call 9; (with_reducible refine (HX6.out _ o6.out).mono ?_); rintro e w7 ⟨ao7, cap7, rfl, hown7, ho7⟩; have o7 := hid (o6.out.trans ho7 (by simp)); have cv7 := conv_str (BS.of_owns hown7).1 cap7; have cv67 := conv_str (HB66.out.only ho7 (by simp)) cap6; clear hown7 ho7
            go_wp2_with fail
            refine hK.out _ _ ?hSq19 (fun hHeld => ?restq19)
            case hSq19 => exact o7.out
            clear hK K
            refine wpAnyH_ready (rs := [2, 5]) (by kernel_rfl) (by simp) ?_
            refine AllReadyH.cons rfl (fun K hK => ?_) (AllReadyH.cons rfl (fun K hK => ?_) AllReadyH.nil)
            · go_simp
              refine hK.out _ _ ?hSq20 (fun hHeld => ?restq20)
              case hSq20 => exact o7.out
              clear hK K
              refine wpAnyH_ready (rs := [5]) (by kernel_rfl) (by simp) ?_
              refine AllReadyH.cons rfl (fun K hK => ?_) AllReadyH.nil
              go_simp
              refine hK.out _ _ ?hSq21 (fun hHeld => ?restq21)
              case hSq21 => exact o7.out
              clear hK K
              refine wpAnyH_take (i := 6) (v := ?vq22) rfl (by kernel_rfl) (by kernel_rfl) (by kernel_rfl) (fun _ _ _ h => h) (Or.inl ⟨by kernel_rfl, ?hyq22⟩) (by assumption) ?restq22
              case hyq22 =>
                intro w hSw
                try dsimp only at hSw
                go_simp
                try with_reducible rfl
              refine wpAnyH_take (i := 7) (v := ?vq23) rfl (by kernel_rfl) (by kernel_rfl) (by kernel_rfl) (fun _ _ _ h => h) (Or.inl ⟨by kernel_rfl, ?hyq23⟩) (by assumption) ?restq23
              case hyq23 =>
                intro w hSw
                try dsimp only at hSw
                go_simp
                try with_reducible rfl
              refine wpAnyH_take (i := 8) (v := ?vq24) rfl (by kernel_rfl) (by kernel_rfl) (by kernel_rfl) (fun _ _ _ h => h) (Or.inl ⟨by kernel_rfl, ?hyq24⟩) (by assumption) ?restq24
              case hyq24 =>
                intro w hSw
                try dsimp only at hSw
                go_simp
                try with_reducible rfl
              refine wpAnyH_take (i := 9) (v := ?vq25) rfl (by kernel_rfl) (by kernel_rfl) (by kernel_rfl) (fun _ _ _ h => h) (Or.inl ⟨by kernel_rfl, ?hyq25⟩) (by assumption) ?restq25
              case hyq25 =>
                intro w hSw
                try dsimp only at hSw
                go_simp
                try with_reducible rfl
              refine wpAnyH_ready (rs := [10]) (by kernel_rfl) (by simp) ?_
              refine AllReadyH.cons rfl (fun K hK => ?_) AllReadyH.nil
              rw [if_pos (by kernel_rfl)]
              go_simp
              go_at_call 10; (with_reducible refine (HS.out _ o7.out).mono ?_); rintro e w8 ⟨rfl, n8, rfl⟩
              go_wp2_with fail
              refine hK.out _ _ ?hSq26 (fun hHeld => ?restq26)
              case hSq26 => exact o7.out.drewN n8
              clear hK K
              refine wpAnyH_take (i := 11) (v := ?vq27) rfl (by kernel_rfl) (by kernel_rfl) (by kernel_rfl) (fun _ _ _ h => h) (Or.inl ⟨by kernel_rfl, ?hyq27⟩) (by assumption) ?restq27
              case hyq27 =>
                intro w hSw
                try dsimp only at hSw
                go_simp
                try with_reducible rfl
              refine wpAnyH_take (i := 12) (v := ?vq28) rfl (by kernel_rfl) (by kernel_rfl) (by kernel_rfl) (fun _ _ _ h => h) (Or.inl ⟨by kernel_rfl, ?hyq28⟩) (by assumption) ?restq28
              case hyq28 =>
                intro w hSw
                try dsimp only at hSw
                go_simp
                try with_reducible rfl
              refine wpAnyH_take (i := 13) (v := ?vq29) rfl (by kernel_rfl) (by kernel_rfl) (by kernel_rfl) (fun _ _ _ h => h) (Or.inl ⟨by kernel_rfl, ?hyq29⟩) (by assumption) ?restq29
              case hyq29 =>
                intro w hSw
                try dsimp only at hSw
                go_simp
                try with_reducible rfl
              refine wpAnyH_take (i := 14) (v := ?vq30) rfl (by kernel_rfl) (by kernel_rfl) (by kernel_rfl) (fun _ _ _ h => h) (Or.inl ⟨by kernel_rfl, ?hyq30⟩) (by assumption) ?restq30
              case hyq30 =>
                intro w hSw
                try dsimp only at hSw
                go_simp
                try with_reducible rfl
              refine wpAnyH_take (i := 15) (v := ?vq31) rfl (by kernel_rfl) (by kernel_rfl) (by kernel_rfl) (fun _ _ _ h => h) (Or.inl ⟨by kernel_rfl, ?hyq31⟩) (by assumption) ?restq31
              case hyq31 =>
                intro w hSw
                try dsimp only at hSw
                go_simp
                try with_reducible rfl
              refine wpAnyH_take (i := 16) (v := ?vq32) rfl (by kernel_rfl) (by kernel_rfl) (by kernel_rfl) (fun _ _ _ h => h) (Or.inl ⟨by kernel_rfl, ?hyq32⟩) (by assumption) ?restq32
              case hyq32 =>
                intro w hSw
                try dsimp only at hSw
                go_simp
                try with_reducible rfl
              refine wpAnyH_take (i := 17) (v := ?vq33) rfl (by kernel_rfl) (by kernel_rfl) (by kernel_rfl) (fun _ _ _ h => h) (Or.inl ⟨by kernel_rfl, ?hyq33⟩) (by assumption) ?restq33
              case hyq33 =>
                intro w hSw
                try dsimp only at hSw
                go_simp
                try with_reducible rfl
              refine wpAnyH_done (by kernel_rfl) ?_ _
              go_wp2
              go_ret
              exact ⟨by first | kernel_rfl | rfl | simp [Act.put], (ho15.out.trans o7.out (by simp)).drewN _⟩
            · go_simp
              refine hK.out _ _ ?hSq34 (fun hHeld => ?restq34)
              case hSq34 => exact o7.out
              clear hK K
              refine wpAnyH_ready (rs := [2]) (by kernel_rfl) (by simp) ?_
              refine AllReadyH.cons rfl (fun K hK => ?_) AllReadyH.nil
              go_simp
              refine hK.out _ _ ?hSq35 (fun hHeld => ?restq35)
              case hSq35 => exact o7.out
              clear hK K
              refine wpAnyH_take (i := 6) (v := ?vq36) rfl (by kernel_rfl) (by kernel_rfl) (by kernel_rfl) (fun _ _ _ h => h) (Or.inl ⟨by kernel_rfl, ?hyq36⟩) (by assumption) ?restq36
              case hyq36 =>
                intro w hSw
                try dsimp only at hSw
                go_simp
                try with_reducible rfl
              refine wpAnyH_take (i := 7) (v := ?vq37) rfl (by kernel_rfl) (by kernel_rfl) (by kernel_rfl) (fun _ _ _ h => h) (Or.inl ⟨by kernel_rfl, ?hyq37⟩) (by assumption) ?restq37
              case hyq37 =>
                intro w hSw
                try dsimp only at hSw
                go_simp
                try with_reducible rfl
              refine wpAnyH_take (i := 8) (v := ?vq38) rfl (by kernel_rfl) (by kernel_rfl) (by kernel_rfl) (fun _ _ _ h => h) (Or.inl ⟨by kernel_rfl, ?hyq38⟩) (by assumption) ?restq38
              case hyq38 =>
                intro w hSw
                try dsimp only at hSw
                go_simp
                try with_reducible rfl
              refine wpAnyH_take (i := 9) (v := ?vq39) rfl (by kernel_rfl) (by kernel_rfl) (by kernel_rfl) (fun _ _ _ h => h) (Or.inl ⟨by kernel_rfl, ?hyq39⟩) (by assumption) ?restq39
              case hyq39 =>
                intro w hSw
                try dsimp only at hSw
                go_simp
                try with_reducible rfl
              refine wpAnyH_ready (rs := [10]) (by kernel_rfl) (by simp) ?_
              refine AllReadyH.cons rfl (fun K hK => ?_) AllReadyH.nil
              rw [if_pos (by kernel_rfl)]
              go_simp
              go_at_call 10; (with_reducible refine (HS.out _ o7.out).mono ?_); rintro e w8 ⟨rfl, n8, rfl⟩
              go_wp2_with fail
              refine hK.out _ _ ?hSq40 (fun hHeld => ?restq40)
              case hSq40 => exact o7.out.drewN n8
              clear hK K
              refine wpAnyH_take (i := 11) (v := ?vq41) rfl (by kernel_rfl) (by kernel_rfl) (by kernel_rfl) (fun _ _ _ h => h) (Or.inl ⟨by kernel_rfl, ?hyq41⟩) (by assumption) ?restq41
              case hyq41 =>
                intro w hSw
                try dsimp only at hSw
                go_simp
                try with_reducible rfl
              refine wpAnyH_take (i := 12) (v := ?vq42) rfl (by kernel_rfl) (by kernel_rfl) (by kernel_rfl) (fun _ _ _ h => h) (Or.inl ⟨by kernel_rfl, ?hyq42⟩) (by assumption) ?restq42
              case hyq42 =>
                intro w hSw
                try dsimp only at hSw
                go_simp
                try with_reducible rfl
              refine wpAnyH_take (i := 13) (v := ?vq43) rfl (by kernel_rfl) (by kernel_rfl) (by kernel_rfl) (fun _ _ _ h => h) (Or.inl ⟨by kernel_rfl, ?hyq43⟩) (by assumption) ?restq43
              case hyq43 =>
                intro w hSw
                try dsimp only at hSw
                go_simp
                try with_reducible rfl
              refine wpAnyH_take (i := 14) (v := ?vq44) rfl (by kernel_rfl) (by kernel_rfl) (by kernel_rfl) (fun _ _ _ h => h) (Or.inl ⟨by kernel_rfl, ?hyq44⟩) (by assumption) ?restq44
              case hyq44 =>
                intro w hSw
                try dsimp only at hSw
                go_simp
                try with_reducible rfl
              refine wpAnyH_take (i := 15) (v := ?vq45) rfl (by kernel_rfl) (by kernel_rfl) (by kernel_rfl) (fun _ _ _ h => h) (Or.inl ⟨by kernel_rfl, ?hyq45⟩) (by assumption) ?restq45
              case hyq45 =>
                intro w hSw
                try dsimp only at hSw
                go_simp
                try with_reducible rfl
              refine wpAnyH_take (i := 16) (v := ?vq46) rfl (by kernel_rfl) (by kernel_rfl) (by kernel_rfl) (fun _ _ _ h => h) (Or.inl ⟨by kernel_rfl, ?hyq46⟩) (by assumption) ?restq46
              case hyq46 =>
                intro w hSw
                try dsimp only at hSw
                go_simp
                try with_reducible rfl
              refine wpAnyH_take (i := 17) (v := ?vq47) rfl (by kernel_rfl) (by kernel_rfl) (by kernel_rfl) (fun _ _ _ h => h) (Or.inl ⟨by kernel_rfl, ?hyq47⟩) (by assumption) ?restq47
              case hyq47 =>
                intro w hSw
                try dsimp only at hSw
                go_simp
                try with_reducible rfl
              refine wpAnyH_done (by kernel_rfl) ?_ _
              go_wp2
              go_ret
              exact ⟨by first | kernel_rfl | rfl | simp [Act.put], (ho15.out.trans o7.out (by simp)).drewN _⟩

end Go.Proofs.Ytmghmmkjcgopaaa
