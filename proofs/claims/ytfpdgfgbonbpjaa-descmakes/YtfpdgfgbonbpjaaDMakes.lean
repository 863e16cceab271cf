/-
  The walk of DescMakes: it answers true of whatever types, and writes nothing that was there. No conditions.
-/
import Derived.Test.YtfpdgfgbonbpjaaXCls
import Derived.Test.YtfpdgfgbonbpjaaXMake
import Derived.Test.YtfpdgfgbonbpjaaDKnown
namespace Go.Proofs.Ytfpdgfgbonbpjaa
open Go.RowKit

set_option maxHeartbeats 2000000 in
set_option maxRecDepth 100000 in
theorem makes_walk (void : Bool) {w : World} {ao : Option Addr} {cap : Nat} {l : List Ty} {k : Nat} (hT : TS w ao l k) (hz : l.length ≤ 9223372036854775807) (hc : l.length ≤ cap) (hn : ao = none → cap = 0) (hA : ∀ t ∈ l, t.2.length ≤ 9223372036854775807) :
    Calls Try.prog 6 #[.bool void, .slice ao l.length cap] w fun e w' => e = .returned (.bool true) ∧ Below w.heap.size w w' := by
  by_cases h100 : 100 < l.length
  · have g1 : (100 < (l.length : Int)) := by omega
    go_enter Try.func6, Try.ntmps6
    go_wp2_with fail
    refine (known_any _).mono ?_
    rintro e w1 ⟨rfl, ho1⟩
    go_wp2
    go_ret
    exact ⟨by simp, ho1.below (Nat.le_refl _) (by simp)⟩
  · have g1 : ¬ (100 < (l.length : Int)) := by omega
    go_enter Try.func6, Try.ntmps6
    go_wp2_with fail
    refine (known_any _).mono ?_
    rintro e w1 ⟨rfl, ho1⟩
    have hom := hid (own_made w1)
    have hT1 := hid (hT.only (ho1.alloc (.cells #[] 23)) (by simp))
    go_wp2_with (at_builtin; refine wpList_append_types rfl (.tmp 19) (.tmp 20) rfl rfl rfl hom.out hT1.out hn (by simp; omega) (by simp) ?_)
    intro aM cM w2 owM hgrow _ _
    have ho2 : Only [] w1 w2 := ((Only.refl [] _).alloc _).trans (Only.of_grown hgrow) (by simp [Value.ownBlock])
    have o2 := ho1.next ho2 (by simp)
    clear hgrow hom hT1
    obtain ⟨hTM, hcM, hx1, hnM, hx2⟩ := TS.of_owns owM
    clear hx1 hx2
    have H1 := make_any (cap := cM) hTM hz hcM hnM hA void
    have H2 := fun W (hW : Only [] w W) => rmake_any (cap := cap) (hT.only hW (by simp)) (by omega) hc hn hA void
    unfold MakePost at H2
    generalize hdM : (aM.map (·.block)).getD 0 = dM at *
    clear hdM
    have hlR : (makeR void l).1.length ≤ 1000 := by
      unfold makeR
      split
      · simp only [makeP]
        split
        · omega
        · simp
          omega
      · simp
    generalize makeR void l = Y at *
    generalize makeE void l = ye at *
    obtain ⟨cs, cv, cd, cn⟩ := Y
    simp only [sigV] at H1 H2 hlR
    replace H1 := hid H1
    replace H2 := hid H2
    replace hTM := hid hTM
    clear owM hcM hnM
    go_wp2_with fail
    refine H1.out.mono ?_
    rintro e w3 ⟨aA, cA, rfl, owA, ho3⟩
    have SA := hid (sig_new w3 (.slice aA cs.length cA) cv cd cn)
    have q3 := ho3.alloc (.cells #[.slice aA cs.length cA, .bool cv, .int .i64 cd, .string (str cn)] 43)
    have o3 := o2.next q3 (by simp)
    replace hTM := hid (hTM.out.only q3 (by simp))
    replace owA := hid (own_only owA ((Only.refl [] w3).alloc (.cells #[.slice aA cs.length cA, .bool cv, .int .i64 cd, .string (str cn)] 43)) (by simp))
    go_wp2_with fail
    refine (H2.out _ o3).mono ?_
    rintro e w4 ⟨aB, cB, rfl, owB, ho4⟩
    have SB := hid (sig_new w4 (.slice aB cs.length cB) cv cd cn)
    have q4 := ho4.alloc (.cells #[.slice aB cs.length cB, .bool cv, .int .i64 cd, .string (str cn)] 43)
    have o4 := o3.next q4 (by simp)
    replace hTM := hid (hTM.out.only q4 (by simp))
    replace SA := hid (SA.out.only q4 (by simp))
    replace owA := hid (own_only owA.out q4 (by simp))
    replace owB := hid (own_only owB ((Only.refl [] w4).alloc (.cells #[.slice aB cs.length cB, .bool cv, .int .i64 cd, .string (str cn)] 43)) (by simp))
    have H3 := hid (classes_any (cap := cM) hTM.out (by omega) hA)
    go_wp2_with fail
    refine H3.out.mono ?_
    rintro e w5 ⟨vc1, rfl, ow5, ho5⟩
    obtain ⟨co, cc, rfl⟩ := ownS_slice ow5
    have SS5 := hid (SS.of_own ow5)
    have o5 := o4.next ho5 (by simp)
    replace hTM := hid (hTM.out.only ho5 (by simp))
    replace SA := hid (SA.out.only ho5 (by simp))
    replace SB := hid (SB.out.only ho5 (by simp))
    replace owA := hid (own_only owA.out ho5 (by simp))
    replace owB := hid (own_only owB.out ho5 (by simp))
    clear ow5
    have H4 := hid (rclasses_any (cap := cap) (hT.only o5 (by simp)) (by omega))
    go_wp2_with fail
    refine H4.out.mono ?_
    rintro e w6 ⟨vc2, rfl, ow6, ho6⟩
    obtain ⟨do_, dc, rfl⟩ := ownS_slice ow6
    have TT6 := hid (SS.of_own ow6)
    replace SS5 := hid (SS5.out.only ho6)
    have o6 := o5.next ho6 (by simp)
    replace hTM := hid (hTM.out.only ho6 (by simp))
    replace SA := hid (SA.out.only ho6 (by simp))
    replace SB := hid (SB.out.only ho6 (by simp))
    replace owA := hid (own_only owA.out ho6 (by simp))
    replace owB := hid (own_only owB.out ho6 (by simp))
    have hcl := clTo_le l l.length
    clear ow6
    generalize clTo l l.length = cl at *
    have H5 := rsame_any (cap := cA) (bap := cB) (TS.of_owns owA.out).1 (TS.of_owns owB.out).1 (by omega) cv cv (cd, cn) (cd, cn)
    rw [same_self] at H5
    simp only [sigV] at H5
    replace H5 := hid H5
    obtain ⟨a0, a1, a2, a3, _, _, _, _⟩ := SA.out
    obtain ⟨b0, b1, b2, b3, _, _, _, _⟩ := SB.out
    go_wp2_with fail
    refine H5.out.mono ?_
    rintro e w7 ⟨rfl, ho7⟩
    clear a0 a1 a2 a3 b0 b1 b2 b3
    have S7 := SS5.out.only ho7
    have T7 := TT6.out.only ho7
    have o7 := o6.next ho7 (by simp)
    have M7 := hTM.out.only ho7 (by simp)
    clear SS5 TT6 hTM owA owB SA SB
    go_wp2
    clear H1 H2 H3 H4 H5 ho1 ho2 ho3 ho4 ho5 ho6 ho7 q3 q4 o2 o3 o4 o5 o6 hlR hA hc hn
    go_loopw [12] (fun i wx => ∃ j : Nat, j ≤ cl.length ∧ i = .int .i64 (j : Int) ∧ SS wx co cl ∧ SS wx do_ cl ∧ TS wx aM l dM ∧ Only [] w wx) (fun i _ => cl.length - (intOf i).toNat)
    case atStart => exact ⟨0, by omega, rfl, S7, T7, M7, o7⟩
    case round =>
      clear S7 T7 M7 o7
      obtain ⟨j, hj, rfl, hS, hT2, hM, hor⟩ := hrel
      by_cases hlt : j < cl.length
      · have g2 : ((j : Int) < (cl.length : Int)) := by omega
        have hne : cl ≠ [] := by intro e; simp [e] at hlt
        have hS1 := hS
        have hS2 := hT2
        rcases hS1 with h | ⟨g, rfl, hcs⟩
        · exact absurd h hne
        rcases hS2 with h | ⟨g', rfl, hcs'⟩
        · exact absurd h hne
        have y0 := hcs j hlt
        have y1 := hcs' j hlt
        clear hcs hcs'
        have tj := str_toList cl[j]
        generalize cl[j] = nj at *
        replace hS := hid hS
        replace hT2 := hid hT2
        replace hM := hid hM
        go_wp2_with fail
        go_region
        go_wp2
        exact ⟨⟨j + 1, by omega, by go_num, hS.out.only (Only.refl [] _).drew, hT2.out.only (Only.refl [] _).drew, hM.out.only (Only.refl [] _).drew (by simp), hor.drew⟩, by simp [intOf]; omega⟩
      · have g2 : ¬ ((j : Int) < (cl.length : Int)) := by omega
        go_wp2
        go_loopw [13] (fun i wx => ∃ q : Nat, q ≤ l.length ∧ i = .int .i64 (q : Int) ∧ TS wx aM l dM ∧ Only [] w wx) (fun i _ => l.length - (intOf i).toNat)
        case atStart => exact ⟨0, by omega, rfl, hM, hor⟩
        case round =>
          clear hS hT2 hM hor
          obtain ⟨q, hq, rfl, hM, hor⟩ := hrel
          by_cases hql : q < l.length
          · have g4 : ((q : Int) < (l.length : Int)) := by omega
            have hne : l ≠ [] := by intro e; simp [e] at hql
            have hM1 := hM
            rcases hM1 with h | ⟨off, rfl, hcm⟩
            · exact absurd h hne
            rcases hT.only hor (by simp) with h | ⟨off2, rfl, hct⟩
            · exact absurd h hne
            obtain ⟨y0, y1⟩ := hcm q hql
            obtain ⟨z0, z1⟩ := hct q hql
            clear hcm hct hne
            have hqt := neq_type l[q] l[q]
            rw [decide_eq_true rfl, Bool.not_true] at hqt
            generalize l[q] = t at *
            obtain ⟨d0, n0⟩ := t
            simp only [tyV] at hqt
            replace hM := hid hM
            replace hT := hid hT
            replace hor := hid hor
            have hq2 : q < l.length := hql
            clear g2 hj hq hql hcl
            go_wp2_with fail
            go_region
            go_wp2
            exact ⟨⟨q + 1, by omega, by go_num, hM.out.only (Only.refl [] _).drew (by simp), hor.out.drew⟩, by simp [intOf]; omega⟩
          · have g4 : ¬ ((q : Int) < (l.length : Int)) := by omega
            go_wp2
            go_ret
            exact ⟨by simp, hor.below (Nat.le_refl _) (by simp)⟩

end Go.Proofs.Ytfpdgfgbonbpjaa
