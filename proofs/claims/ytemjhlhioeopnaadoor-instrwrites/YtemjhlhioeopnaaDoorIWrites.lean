/-
  The walk of InstrWrites: it answers true of whatever instructions, and writes nothing that was there. The table of words holds the words.
-/
import Derived.Test.YtemjhlhioeopnaaDoorIReads
import Derived.Test.YtemjhlhioeopnaaDoorIREnc
namespace Go.Proofs.YtemjhlhioeopnaaDoor
open Go.RowKit

set_option maxHeartbeats 1000000 in
set_option maxRecDepth 100000 in
theorem writes_any {w : World} (hL : Laid w) {ao : Option Addr} {l : List In} {d cap : Nat} (hB : RS w ao (qcs l) d) (hn : ao = none → cap = 0) :
    Calls Tryd.prog 5 #[.slice ao l.length cap] w fun e w' => e = .returned (.bool true) ∧ Only [] w w' := by
  have HK := hid (known_any hL)
  clear hL
  by_cases h5 : 2000 < l.length
  · have g1 : (2000 < (l.length : Int)) := by omega
    clear hB
    go_enter Tryd.func5, Tryd.ntmps5
    go_wp2_with (go_at_call 9; refine HK.out.mono ?_; rintro e w1 ⟨rfl, ho1⟩)
    go_ret
    exact ⟨rfl, ho1⟩
  have g1 : ¬ (2000 < (l.length : Int)) := by omega
  have HE := fun W (a : Option Addr) (c k : Nat) (hR : RS W a (qcs l) k) => enc_any (cap := c) hR (by omega)
  have HEr := fun W (a : Option Addr) (c k : Nat) (hR : RS W a (qcs l) k) => renc_any (cap := c) hR (by omega)
  have HS := fun W (a b : Option Addr) (c k p q : Nat) (h1 : RS W a (qcs l) p) (h2 : RS W b (qcs l) q) => same_any (cap := c) (bap := k) h1 h2 (by omega)
  generalize encR l = X at *
  obtain ⟨xl, xe⟩ := X
  simp only [decide_true] at HS
  have hst := str_toList xl
  replace HE := hid HE
  replace HEr := hid HEr
  replace HS := hid HS
  replace hB := hid hB
  go_enter Tryd.func5, Tryd.ntmps5
  go_wp2_with (first | (go_at_call 9; refine HK.out.mono ?_; rintro e w1 ⟨rfl, ho1⟩) | (at_builtin; refine wpList_append_any (ys := qcs l) rfl (.tmp 13) (.tmp 14) elIn Tryd.underlying37 rfl rfl rfl (rows_made w1 23 4 rfl) ((hB.out.only0 ho1).only0 ((Only.refl [] w1).alloc _)) (qcs_length _) (qcs_one _) hn (by omega) (by simp) ?_; rintro ao2 cap2 w2 hA2) | fail)
  have o2 := hid (ho1.next (hA2.next (rows_made w1 23 4 rfl) ((Only.refl [] w1).alloc _)) (by simp))
  have own2 := hA2.own
  simp only [Nat.zero_add, List.nil_append] at own2
  have hR2 := hid (RS.of_owns own2).1
  clear hA2 own2
  refine (HE.out _ _ _ _ hR2.out).mono ?_
  rintro e w3 ⟨ao3, cap3, rfl, hown3, ho3⟩
  have R3 := hid (RS.of_owns hown3).1
  clear HE HK hown3
  go_wp2_with fail
  refine (HEr.out _ _ _ _ ((hB.out.only0 o2.out).only0 ho3)).mono ?_
  rintro e w4 ⟨ao4, cap4, rfl, hown4, ho4⟩
  have R4 := hid (RS.of_owns hown4).1
  have R34 := hid (R3.out.only0 ho4)
  have o4 := hid (ho3.next ho4 (by simp))
  clear HEr hown4 R3
  have HS6 := hid (HS.out w4 ao2 ao cap2 cap _ _ (hR2.out.only0 o4.out) ((hB.out.only0 o2.out).only0 o4.out))
  clear HS
  go_wp2_with (go_at_call 23; refine HS6.out.mono ?_; rintro e w5 ⟨rfl, ho5⟩; have hcv1 := (R34.out.only0 ho5).conv cap3; have hcv2 := (R4.out.only0 ho5).conv cap4)
  go_ret
  exact ⟨by simp, (o2.out.next o4.out (by simp)).next ho5 (by simp)⟩

theorem writes_walk {w : World} (hL : Laid w) {ao : Option Addr} {l : List In} {d cap : Nat} (hB : RS w ao (qcs l) d) (_ : l.length ≤ cap) (_ : cap ≤ 9223372036854775807) (hn : ao = none → cap = 0) :
    Calls Tryd.prog 5 #[.slice ao l.length cap] w fun e w' => e = .returned (.bool true) ∧ Below w.heap.size w w' :=
  (writes_any hL hB hn).mono fun _ _ h => ⟨h.1, h.2.below (Nat.le_refl _) (by simp)⟩

end Go.Proofs.YtemjhlhioeopnaaDoor
