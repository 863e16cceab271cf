/-
  The contracts of the second program's is, text, Wrong. Texts have at most 1048576 bytes.
-/
import Derived.Test.YtemjhlhioeopnaaDoorXSig
import Derived.Test.YtemjhlhioeopnaaDoorPUsed
import Derived.Test.YtemjhlhioeopnaaDoorPLaws
namespace Go.Proofs.YtemjhlhioeopnaaDoor
open Go.RowKit

theorem ris_any {w : World} {ao : Option Addr} {l : List En} {d cap : Nat} (hE : ES w ao l d) (hl : l.length ≤ 9223372036854775807) (i kind : Int) :
    Calls Tryd.prog 60 #[.slice ao l.length cap, .int .i64 i, .int .i64 kind] w fun e w' => e = .returned (.bool (hasE l i kind)) ∧ w' = w := by
  cases hi : enAt l i with
  | none =>
    have hr : hasE l i kind = false := by simp [hasE, hi]
    rw [hr]
    rcases enAt_none hi with h | h
    · have g1 : ¬ (0 ≤ i) := by omega
      clear hi hr hE
      go_enter Tryd.func60, Tryd.ntmps60
      go_wp2
      go_ret
      exact ⟨rfl, rfl⟩
    · have g1 : 0 ≤ i := by omega
      have g2 : ¬ (i < (l.length : Int)) := by omega
      clear hi hr hE
      go_enter Tryd.func60, Tryd.ntmps60
      go_wp2
      go_ret
      exact ⟨rfl, rfl⟩
  | some e =>
    have hr : hasE l i kind = decide (e.1 = kind) := by simp [hasE, hi]
    rw [hr]
    obtain ⟨j, hj, rfl, rfl⟩ := enAt_some hi
    clear hi hr
    obtain ⟨off, rfl, hc⟩ := hE.at hj
    obtain ⟨y0, _, _, _, _, _⟩ := hc
    generalize l[j] = e at *
    obtain ⟨k, t, n, a, b, c⟩ := e
    clear hE
    simp only at y0
    have g1 : (0 : Int) ≤ (j : Int) := by omega
    have g2 : ((j : Int) < (l.length : Int)) := by omega
    go_enter Tryd.func60, Tryd.ntmps60
    go_wp2
    go_ret
    refine ⟨?_, rfl⟩
    by_cases hk : k = kind <;> simp [hk]

theorem small_text {l : List En} {s : List UInt8} (hA : ∀ e ∈ l, e.2.1.length ≤ 1048576) (h : ∃ e ∈ l, e.2.1 = s) : s.length ≤ 1048576 := by
  obtain ⟨e, he, rfl⟩ := h
  exact hA e he

set_option maxHeartbeats 400000 in
set_option maxRecDepth 100000 in
theorem rtextN_any {w : World} {ao : Option Addr} {l : List En} {d cap : Nat} (hE : ES w ao l d) (hl : l.length ≤ 9223372036854775807) (hA : ∀ e ∈ l, e.2.1.length ≤ 1048576) (i : Int) :
    Calls Tryd.prog 75 #[.slice ao l.length cap, .int .i64 i, .int .i64 1] w fun e w' => e = .returned (.int .i64 (wText l i fName)) ∧ Only [] w w' := by
  have HH := ris_any (cap := cap) hE hl i 1
  rw [hasE_text] at HH
  cases h : textAt l i with
  | none =>
    have e1 : wText l i fName = 16 := by simp [wText, h]
    rw [e1]
    rw [h] at HH
    simp only [Option.isSome_none] at HH
    clear h e1 hE
    replace HH := hid HH
    go_enter Tryd.func75, Tryd.ntmps75
    go_wp2_with (go_at_call 60; refine HH.out.mono ?_; rintro e w' ⟨rfl, rfl⟩)
    go_ret
    exact ⟨rfl, Only.refl _ _⟩
  | some s =>
    have e1 : wText l i fName = fName s := by simp [wText, h]
    rw [e1]
    rw [h] at HH
    simp only [Option.isSome_some] at HH
    obtain ⟨j, off, rfl, hj, rfl, hc, hm⟩ := text_cell hE h
    have hsm := small_text hA hm
    clear h e1 hE hm
    have g2 : ((j : Int) < (l.length : Int)) := by omega
    replace HH := hid HH
    have HN := rname_any s (by omega) w
    cases hn : nameOK s with
    | true =>
      have e2 : fName s = 0 := by simp [fName, hn]
      rw [e2]
      rw [hn] at HN
      clear hn e2
      replace HN := hid HN
      go_enter Tryd.func75, Tryd.ntmps75
      go_wp2_with (first | (go_at_call 60; refine HH.out.mono ?_; rintro e w' ⟨rfl, rfl⟩) | (go_at_call 76; refine HN.out.mono ?_; rintro e w' ⟨rfl, rfl⟩))
      go_ret
      exact ⟨rfl, Only.refl _ _⟩
    | false =>
      have e2 : fName s = 14 := by simp [fName, hn]
      rw [e2]
      rw [hn] at HN
      clear hn e2
      replace HN := hid HN
      go_enter Tryd.func75, Tryd.ntmps75
      go_wp2_with (first | (go_at_call 60; refine HH.out.mono ?_; rintro e w' ⟨rfl, rfl⟩) | (go_at_call 76; refine HN.out.mono ?_; rintro e w' ⟨rfl, rfl⟩))
      go_ret
      exact ⟨rfl, Only.refl _ _⟩

set_option maxHeartbeats 400000 in
set_option maxRecDepth 100000 in
theorem rtextM_any {w : World} {ao : Option Addr} {l : List En} {d cap : Nat} (hE : ES w ao l d) (hl : l.length ≤ 9223372036854775807) (hA : ∀ e ∈ l, e.2.1.length ≤ 1048576) (i : Int) :
    Calls Tryd.prog 75 #[.slice ao l.length cap, .int .i64 i, .int .i64 2] w fun e w' => e = .returned (.int .i64 (wText l i fMethod)) ∧ Only [] w w' := by
  have HH := ris_any (cap := cap) hE hl i 1
  rw [hasE_text] at HH
  cases h : textAt l i with
  | none =>
    have e1 : wText l i fMethod = 16 := by simp [wText, h]
    rw [e1]
    rw [h] at HH
    simp only [Option.isSome_none] at HH
    clear h e1 hE
    replace HH := hid HH
    go_enter Tryd.func75, Tryd.ntmps75
    go_wp2_with (go_at_call 60; refine HH.out.mono ?_; rintro e w' ⟨rfl, rfl⟩)
    go_ret
    exact ⟨rfl, Only.refl _ _⟩
  | some s =>
    have e1 : wText l i fMethod = fMethod s := by simp [wText, h]
    rw [e1]
    rw [h] at HH
    simp only [Option.isSome_some] at HH
    obtain ⟨j, off, rfl, hj, rfl, hc, hm⟩ := text_cell hE h
    have hsm := small_text hA hm
    clear h e1 hE hm
    have g2 : ((j : Int) < (l.length : Int)) := by omega
    replace HH := hid HH
    have HN := rmethod_any s (by omega) w
    cases hn : methodOK s with
    | true =>
      have e2 : fMethod s = 0 := by simp [fMethod, hn]
      rw [e2]
      rw [hn] at HN
      clear hn e2
      replace HN := hid HN
      go_enter Tryd.func75, Tryd.ntmps75
      go_wp2_with (first | (go_at_call 60; refine HH.out.mono ?_; rintro e w' ⟨rfl, rfl⟩) | (go_at_call 82; refine HN.out.mono ?_; rintro e w' ⟨rfl, rfl⟩))
      go_ret
      exact ⟨rfl, Only.refl _ _⟩
    | false =>
      have e2 : fMethod s = 14 := by simp [fMethod, hn]
      rw [e2]
      rw [hn] at HN
      clear hn e2
      replace HN := hid HN
      go_enter Tryd.func75, Tryd.ntmps75
      go_wp2_with (first | (go_at_call 60; refine HH.out.mono ?_; rintro e w' ⟨rfl, rfl⟩) | (go_at_call 82; refine HN.out.mono ?_; rintro e w' ⟨rfl, rfl⟩))
      go_ret
      exact ⟨rfl, Only.refl _ _⟩

set_option maxHeartbeats 400000 in
set_option maxRecDepth 100000 in
theorem rtextT_any {w : World} {ao : Option Addr} {l : List En} {d cap : Nat} (hE : ES w ao l d) (hl : l.length ≤ 9223372036854775807) (hA : ∀ e ∈ l, e.2.1.length ≤ 1048576) (i : Int) :
    Calls Tryd.prog 75 #[.slice ao l.length cap, .int .i64 i, .int .i64 3] w fun e w' => e = .returned (.int .i64 (wText l i fType)) ∧ Only [] w w' := by
  have HH := ris_any (cap := cap) hE hl i 1
  rw [hasE_text] at HH
  cases h : textAt l i with
  | none =>
    have e1 : wText l i fType = 16 := by simp [wText, h]
    rw [e1]
    rw [h] at HH
    simp only [Option.isSome_none] at HH
    clear h e1 hE
    replace HH := hid HH
    go_enter Tryd.func75, Tryd.ntmps75
    go_wp2_with (go_at_call 60; refine HH.out.mono ?_; rintro e w' ⟨rfl, rfl⟩)
    go_ret
    exact ⟨rfl, Only.refl _ _⟩
  | some s =>
    have e1 : wText l i fType = fType s := by simp [wText, h]
    rw [e1]
    rw [h] at HH
    simp only [Option.isSome_some] at HH
    obtain ⟨j, off, rfl, hj, rfl, hc, hm⟩ := text_cell hE h
    have hsm := small_text hA hm
    clear h e1 hE hm
    have g2 : ((j : Int) < (l.length : Int)) := by omega
    replace HH := hid HH
    have HN := rtype_any s (by omega) w
    unfold fType
    generalize typeR s = X at *
    obtain ⟨⟨xd, xn⟩, xe⟩ := X
    simp only [tyV] at HN ⊢
    replace HN := hid HN
    go_enter Tryd.func75, Tryd.ntmps75
    go_wp2_with (first | (go_at_call 60; refine HH.out.mono ?_; rintro e w' ⟨rfl, rfl⟩) | (go_at_call 54; refine HN.out.mono ?_; rintro e w1 ⟨rfl, ho1⟩))
    go_ret
    exact ⟨rfl, ho1.alloc _⟩

set_option maxHeartbeats 400000 in
set_option maxRecDepth 100000 in
theorem rtextS_any {w : World} {ao : Option Addr} {l : List En} {d cap : Nat} (hE : ES w ao l d) (hl : l.length ≤ 9223372036854775807) (hA : ∀ e ∈ l, e.2.1.length ≤ 1048576) (i : Int) :
    Calls Tryd.prog 75 #[.slice ao l.length cap, .int .i64 i, .int .i64 4] w fun e w' => e = .returned (.int .i64 (wText l i fSig)) ∧ Only [] w w' := by
  have HH := ris_any (cap := cap) hE hl i 1
  rw [hasE_text] at HH
  cases h : textAt l i with
  | none =>
    have e1 : wText l i fSig = 16 := by simp [wText, h]
    rw [e1]
    rw [h] at HH
    simp only [Option.isSome_none] at HH
    clear h e1 hE
    replace HH := hid HH
    go_enter Tryd.func75, Tryd.ntmps75
    go_wp2_with (go_at_call 60; refine HH.out.mono ?_; rintro e w' ⟨rfl, rfl⟩)
    go_ret
    exact ⟨rfl, Only.refl _ _⟩
  | some s =>
    have e1 : wText l i fSig = fSig s := by simp [wText, h]
    rw [e1]
    rw [h] at HH
    simp only [Option.isSome_some] at HH
    obtain ⟨j, off, rfl, hj, rfl, hc, hm⟩ := text_cell hE h
    have hsm := small_text hA hm
    clear h e1 hE hm
    have g2 : ((j : Int) < (l.length : Int)) := by omega
    replace HH := hid HH
    have HN := rsig_any s (by omega) w
    unfold fSig
    unfold SigPost at HN
    generalize sigR s = X at *
    obtain ⟨⟨xl, xv, xd, xn⟩, xe⟩ := X
    simp only [sigV] at HN ⊢
    replace HN := hid HN
    go_enter Tryd.func75, Tryd.ntmps75
    go_wp2_with (first | (go_at_call 60; refine HH.out.mono ?_; rintro e w' ⟨rfl, rfl⟩) | (go_at_call 55; refine HN.out.mono ?_; rintro e w1 ⟨v, rfl, hw, ho1⟩; obtain ⟨vo, vc, rfl⟩ := own_slice hw; clear hw))
    go_ret
    exact ⟨rfl, ho1.alloc _⟩

end Go.Proofs.YtemjhlhioeopnaaDoor
