/-
  The walk of InstrChecks: it answers true of whatever bytes, entries and number of locals, and writes nothing that was there. The table of words holds the words; texts have at most 1048576 bytes.
-/
import Derived.Test.YtemjhlhioeopnaaDoorIReads
import Derived.Test.YtemjhlhioeopnaaDoorICRef2
namespace Go.Proofs.YtemjhlhioeopnaaDoor
open Go.RowKit

theorem elEntry : ElT 96 (.agg #[.int .i64 0, .string ⟨#[]⟩, .int .i64 0, .int .i64 0, .int .i64 0, .int .i64 0]) 6 56 := ⟨by kernel_rfl, rfl, by decide, by decide⟩

theorem ES.rs {w : World} {ao : Option Addr} {l : List En} {d : Nat} (h : ES w ao l d) : RS w ao (ecs l) d := by
  cases ao with
  | none =>
    have := h.none_nil
    subst this
    exact .inl rfl
  | some a =>
    by_cases hn : l = []
    · subst hn
      exact .inl rfl
    · obtain ⟨off, ha, _⟩ := h.at (j := 0) (List.length_pos_iff.2 hn)
      cases ha
      refine .inr ⟨off, rfl, fun j u hj => ?_⟩
      have := h.cells j u hj
      rw [Addr.add_lit] at this
      exact this

set_option maxHeartbeats 1000000 in
set_option maxRecDepth 100000 in
theorem checks_any {w : World} (hL : Laid w) {ao eo : Option Addr} {code : List UInt8} {l : List En} {d de cap ecap : Nat} (hB : RS w ao (bcs code) d) (hc : code.length ≤ cap) (hcl : cap ≤ 9223372036854775807) (hn : ao = none → cap = 0)
    (hE : ES w eo l de) (hen : eo = none → ecap = 0) (hl : l.length ≤ 9223372036854775807) (hA : ∀ e ∈ l, e.2.1.length ≤ 1048576) (locals : Int) :
    Calls Tryd.prog 6 #[.slice ao code.length cap, .slice eo l.length ecap, .int .i64 locals] w fun e w' => e = .returned (.bool true) ∧ Only [] w w' := by
  have HK := hid (known_any hL)
  clear hL
  by_cases h5 : 1100 < code.length
  · have g1 : (1100 < (code.length : Int)) := by omega
    clear hB hE
    go_enter Tryd.func6, Tryd.ntmps6
    go_wp2_with (go_at_call 9; refine HK.out.mono ?_; rintro e w1 ⟨rfl, ho1⟩)
    go_ret
    exact ⟨rfl, ho1⟩
  have g1 : ¬ (1100 < (code.length : Int)) := by omega
  by_cases h4 : 400 < l.length
  · have g2 : (400 < (l.length : Int)) := by omega
    clear hB hE
    go_enter Tryd.func6, Tryd.ntmps6
    go_wp2_with (go_at_call 9; refine HK.out.mono ?_; rintro e w1 ⟨rfl, ho1⟩)
    go_ret
    exact ⟨rfl, ho1⟩
  have g2 : ¬ (400 < (l.length : Int)) := by omega
  have hA' : ∀ e ∈ l, e.2.1.length ≤ 9223372036854775807 := fun e he => by have := hA e he; omega
  have HC := fun W (a b : Option Addr) (c ec k q : Nat) (hR : RS W a (bcs code) k) (h1 : code.length ≤ c) (h2 : c ≤ 9223372036854775807) (hS : ES W b l q) => icheck_any (ecap := ec) hR h1 h2 hS hl hA' locals
  have HCr := fun W (hW : Only [] w W) => rcheck4_any (ecap := ecap) (hB.only0 hW) hc hcl (hE.only hW (by simp)) hl hA locals
  generalize checkI code l locals = X at *
  obtain ⟨xa, xe⟩ := X
  replace HC := hid HC
  replace HCr := hid HCr
  replace hB := hid hB
  replace hE := hid hE
  clear hA hA'
  go_enter Tryd.func6, Tryd.ntmps6
  go_wp2_with (first | (go_at_call 9; refine HK.out.mono ?_; rintro e w1 ⟨rfl, ho1⟩) | (at_builtin; refine wpList_append_any (ys := ecs l) rfl (.tmp 25) (.tmp 26) elEntry Tryd.underlying51 rfl rfl rfl (rows_made w2 96 6 rfl) ((hE.out.rs.only0 o2.out).only0 ((Only.refl [] w2).alloc _)) (ecs_length _) (ecs_one _) hen (by omega) (by simp) ?_; rintro ao3 cap3 w3 hA3) | (at_builtin; refine wpList_append_any (ys := bcs code) rfl (.tmp 22) (.tmp 23) elByte Tryd.underlying33 rfl rfl rfl (rows_made w1 5 1 rfl) ((hB.out.only0 ho1).only0 ((Only.refl [] w1).alloc _)) (bcs_length _) (bcs_one _) hn (by omega) (by simp) ?_; rintro ao2 cap2 w2 hA2; have o2 := hid (ho1.next (hA2.next (rows_made w1 5 1 rfl) ((Only.refl [] w1).alloc _)) (by simp))) | fail)
  have q3 := hid (hA3.next (rows_made w2 96 6 rfl) ((Only.refl [] w2).alloc _))
  have o3 := hid (o2.out.next q3.out (by simp))
  have own2 := hA2.own
  have own3 := hA3.own
  simp only [Nat.zero_add, List.nil_append] at own2 own3
  have hR2 := RS.of_owns own2
  have hE3 := (ES.of_owns own3).1
  have HC3 := hid (HC.out w3 ao2 ao3 cap2 cap3 _ _ (hR2.1.only0 q3.out) hR2.2.1 (by have := hR2.2.2.1; simp only [maxLen] at this; omega) hE3)
  clear hA2 hA3 own2 own3 hR2 hE3 HK HC
  refine HC3.out.mono ?_
  rintro e w4 ⟨rfl, ho4⟩
  have o4 := hid (o3.out.next ho4 (by simp))
  clear HC3
  go_wp2_with fail
  refine (HCr.out _ o4.out).mono ?_
  rintro e w5 ⟨rfl, ho5⟩
  clear HCr
  go_wp2
  go_ret
  exact ⟨by simp, o4.out.next ho5 (by simp)⟩

theorem checks_walk {w : World} (hL : Laid w) {ao eo : Option Addr} {code : List UInt8} {l : List En} {d de cap ecap : Nat} (hB : RS w ao (bcs code) d) (hc : code.length ≤ cap) (hcl : cap ≤ 9223372036854775807) (hn : ao = none → cap = 0)
    (hE : ES w eo l de) (hen : eo = none → ecap = 0) (hl : l.length ≤ 9223372036854775807) (hA : ∀ e ∈ l, e.2.1.length ≤ 1048576) (locals : Int) :
    Calls Tryd.prog 6 #[.slice ao code.length cap, .slice eo l.length ecap, .int .i64 locals] w fun e w' => e = .returned (.bool true) ∧ Below w.heap.size w w' :=
  (checks_any hL hB hc hcl hn hE hen hl hA locals).mono fun _ _ h => ⟨h.1, h.2.below (Nat.le_refl _) (by simp)⟩

end Go.Proofs.YtemjhlhioeopnaaDoor
