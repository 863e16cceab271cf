/-
  The walk of PoolChecks: it answers true of whatever entries, and writes nothing that was there. Texts have at most 1048576 bytes.
-/
import Derived.Test.YtcdjddakdlflmaaPKnown
import Derived.Test.YtcdjddakdlflmaaYWrong
namespace Go.Proofs.Ytcdjddakdlflmaa
open Go.RowKit

set_option maxHeartbeats 1000000 in
set_option maxRecDepth 100000 in
theorem checks_any {w : World} {ao : Option Addr} {l : List En} {d cap : Nat} (hE : ES w ao l d) (hn : ao = none → cap = 0) (hl : l.length ≤ 9223372036854775807) (hA : ∀ e ∈ l, e.2.1.length ≤ 1048576) :
    Calls Try.prog 3 #[.slice ao l.length cap] w fun e w' => e = .returned (.bool true) ∧ Only [] w w' := by
  have HK := hid (known_any w)
  by_cases h4 : 4200 < l.length
  · have g1 : (4200 < (l.length : Int)) := by omega
    clear hE
    go_enter Try.func3, Try.ntmps3
    go_wp2_with (go_at_call 9; refine HK.out.mono ?_; rintro e w1 ⟨rfl, ho1⟩)
    go_ret
    exact ⟨rfl, ho1⟩
  have g1 : ¬ (4200 < (l.length : Int)) := by omega
  have hEl := hid (fun W (hW : Only [] w W) => hE.only hW (by simp))
  replace hA := hid hA
  clear hE
  go_enter Try.func3, Try.ntmps3
  go_wp2_with (first | (go_at_call 9; refine HK.out.mono ?_; rintro e w1 ⟨rfl, ho1⟩; have hz := ho1.size; have hom := hid (owe_mono (C := w.heap.size) (owe_made w1) (by omega)); have hT := hid (hEl.out _ (ho1.alloc (.cells #[] 38)))) | (at_builtin; refine wpList_append_entries rfl (.tmp 13) (.tmp 14) Try.underlying22 rfl rfl rfl hom.out hT.out hn (by simp; omega) (by simp; omega) ?_))
  intro ao1 cap1 w3 hown3 hg3 hao3 hnn3 hold3
  have o3 := hid (ho1.next (((Only.refl [] w1).alloc _).trans (Only.of_grown hg3) (by simp [Value.ownBlock])) (by simp))
  clear hg3 hao3 hnn3 hold3 hom hT HK
  replace hown3 := hid hown3
  have hS3 := hid (fun W (hW : Only [] w3 W) => (ES.of_owns hown3.out).1.only hW (by simp))
  have HC := hid (pcheck_any (cap := cap1) (hS3.out w3 (Only.refl _ _)) hl (fun e he => by have := hA.out e he; omega))
  clear hown3
  go_wp2_with fail
  refine HC.out.mono ?_
  rintro e w4 ⟨rfl, ho4⟩
  have o4 := hid (o3.out.next ho4 (by simp))
  have HR := hid (rcheckE_any (cap := cap) (hEl.out _ o4.out) hl hA.out)
  clear HC
  go_wp2_with fail
  refine HR.out.mono ?_
  rintro e w5 ⟨rfl, ho5⟩
  have o5 := hid (o4.out.next ho5 (by simp))
  have HS := same_any (cap := cap1) (bap := cap) (hS3.out w5 (ho4.next ho5 (by simp))) (hEl.out _ o5.out) hl
  rw [decide_eq_true rfl] at HS
  replace HS := hid HS
  clear HR
  generalize checkE l = X at *
  obtain ⟨xi, xe⟩ := X
  go_wp2_with (go_at_call 12; refine HS.out.mono ?_; rintro e w6 ⟨rfl, ho6⟩)
  go_ret
  exact ⟨by simp, o5.out.next ho6 (by simp)⟩

theorem checks_walk {w : World} {ao : Option Addr} {l : List En} {d cap : Nat} (hE : ES w ao l d) (hn : ao = none → cap = 0) (hl : l.length ≤ 9223372036854775807) (hA : ∀ e ∈ l, e.2.1.length ≤ 1048576) :
    Calls Try.prog 3 #[.slice ao l.length cap] w fun e w' => e = .returned (.bool true) ∧ Below w.heap.size w w' :=
  (checks_any hE hn hl hA).mono fun _ _ h => ⟨h.1, h.2.below (Nat.le_refl _) (by simp)⟩

end Go.Proofs.Ytcdjddakdlflmaa
