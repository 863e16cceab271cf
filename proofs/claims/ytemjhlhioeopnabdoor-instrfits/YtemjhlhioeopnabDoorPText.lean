/-
  The contracts of wrongName, wrongType, wrongSig, cmp.Or. No conditions.
-/
import Derived.Test.YtemjhlhioeopnabDoorPUsed
namespace Go.Proofs.YtemjhlhioeopnabDoor
open Go.RowKit

theorem byte_text {l : List En} {s : List UInt8} (hA : ∀ e ∈ l, e.2.1.length ≤ 9223372036854775807) (h : ∃ e ∈ l, e.2.1 = s) : s.length ≤ 9223372036854775807 := by
  obtain ⟨e, he, rfl⟩ := h
  exact hA e he

set_option maxHeartbeats 400000 in
set_option maxRecDepth 100000 in
theorem wrongName_any {w : World} {ao : Option Addr} {l : List En} {d cap : Nat} (hE : ES w ao l d) (hl : l.length ≤ 9223372036854775807) (hA : ∀ e ∈ l, e.2.1.length ≤ 9223372036854775807) (i : Int) :
    Calls Tryd.prog 38 #[.slice ao l.length cap, .int .i64 i, .func (.func 39) #[] #[]] w fun e w' => e = .returned (.int .i64 (wText l i fName)) ∧ w' = w := by
  have HH := has_any' (cap := cap) hE hl i 1
  rw [hasE_text] at HH
  cases h : textAt l i with
  | none =>
    have e1 : wText l i fName = 16 := by simp [wText, h]
    rw [e1]
    rw [h] at HH
    simp only [Option.isSome_none] at HH
    clear h e1 hE
    replace HH := hid HH
    go_enter Tryd.func38, Tryd.ntmps38
    go_wp2_with (go_at_call 32; refine HH.out.mono ?_; rintro e w' ⟨rfl, rfl⟩)
    go_ret
    exact ⟨rfl, rfl⟩
  | some s =>
    have e1 : wText l i fName = fName s := by simp [wText, h]
    rw [e1]
    rw [h] at HH
    simp only [Option.isSome_some] at HH
    obtain ⟨j, off, rfl, hj, rfl, hc, hm⟩ := text_cell hE h
    have HN := name_any s (byte_text hA hm) w
    clear h e1 hE hm
    have g2 : ((j : Int) < (l.length : Int)) := by omega
    replace HH := hid HH
    cases hn : nameOK s with
    | true =>
      have e2 : fName s = 0 := by simp [fName, hn]
      rw [e2]
      rw [hn] at HN
      clear hn e2
      replace HN := hid HN
      go_enter Tryd.func38, Tryd.ntmps38
      go_wp2_with (first | (go_at_call 32; refine HH.out.mono ?_; rintro e w' ⟨rfl, rfl⟩) | (go_at_call 39; refine HN.out.mono ?_; rintro e w' ⟨rfl, rfl⟩))
      go_ret
      exact ⟨rfl, rfl⟩
    | false =>
      have e2 : fName s = 14 := by simp [fName, hn]
      rw [e2]
      rw [hn] at HN
      clear hn e2
      replace HN := hid HN
      go_enter Tryd.func38, Tryd.ntmps38
      go_wp2_with (first | (go_at_call 32; refine HH.out.mono ?_; rintro e w' ⟨rfl, rfl⟩) | (go_at_call 39; refine HN.out.mono ?_; rintro e w' ⟨rfl, rfl⟩))
      go_ret
      exact ⟨rfl, rfl⟩

set_option maxHeartbeats 400000 in
set_option maxRecDepth 100000 in
theorem wrongMeth_any {w : World} {ao : Option Addr} {l : List En} {d cap : Nat} (hE : ES w ao l d) (hl : l.length ≤ 9223372036854775807) (hA : ∀ e ∈ l, e.2.1.length ≤ 9223372036854775807) (i : Int) :
    Calls Tryd.prog 38 #[.slice ao l.length cap, .int .i64 i, .func (.func 43) #[] #[]] w fun e w' => e = .returned (.int .i64 (wText l i fMethod)) ∧ w' = w := by
  have HH := has_any' (cap := cap) hE hl i 1
  rw [hasE_text] at HH
  cases h : textAt l i with
  | none =>
    have e1 : wText l i fMethod = 16 := by simp [wText, h]
    rw [e1]
    rw [h] at HH
    simp only [Option.isSome_none] at HH
    clear h e1 hE
    replace HH := hid HH
    go_enter Tryd.func38, Tryd.ntmps38
    go_wp2_with (go_at_call 32; refine HH.out.mono ?_; rintro e w' ⟨rfl, rfl⟩)
    go_ret
    exact ⟨rfl, rfl⟩
  | some s =>
    have e1 : wText l i fMethod = fMethod s := by simp [wText, h]
    rw [e1]
    rw [h] at HH
    simp only [Option.isSome_some] at HH
    obtain ⟨j, off, rfl, hj, rfl, hc, hm⟩ := text_cell hE h
    have HN := method_any s (byte_text hA hm) w
    clear h e1 hE hm
    have g2 : ((j : Int) < (l.length : Int)) := by omega
    replace HH := hid HH
    cases hn : methodOK s with
    | true =>
      have e2 : fMethod s = 0 := by simp [fMethod, hn]
      rw [e2]
      rw [hn] at HN
      clear hn e2
      replace HN := hid HN
      go_enter Tryd.func38, Tryd.ntmps38
      go_wp2_with (first | (go_at_call 32; refine HH.out.mono ?_; rintro e w' ⟨rfl, rfl⟩) | (go_at_call 43; refine HN.out.mono ?_; rintro e w' ⟨rfl, rfl⟩))
      go_ret
      exact ⟨rfl, rfl⟩
    | false =>
      have e2 : fMethod s = 14 := by simp [fMethod, hn]
      rw [e2]
      rw [hn] at HN
      clear hn e2
      replace HN := hid HN
      go_enter Tryd.func38, Tryd.ntmps38
      go_wp2_with (first | (go_at_call 32; refine HH.out.mono ?_; rintro e w' ⟨rfl, rfl⟩) | (go_at_call 43; refine HN.out.mono ?_; rintro e w' ⟨rfl, rfl⟩))
      go_ret
      exact ⟨rfl, rfl⟩

set_option maxHeartbeats 400000 in
set_option maxRecDepth 100000 in
theorem wrongType_any {w : World} {ao : Option Addr} {l : List En} {d cap : Nat} (hE : ES w ao l d) (hl : l.length ≤ 9223372036854775807) (hA : ∀ e ∈ l, e.2.1.length ≤ 9223372036854775807) (i : Int) :
    Calls Tryd.prog 40 #[.slice ao l.length cap, .int .i64 i] w fun e w' => e = .returned (.int .i64 (wText l i fType)) ∧ Only [] w w' := by
  have HH := has_any' (cap := cap) hE hl i 1
  rw [hasE_text] at HH
  cases h : textAt l i with
  | none =>
    have e1 : wText l i fType = 16 := by simp [wText, h]
    rw [e1]
    rw [h] at HH
    simp only [Option.isSome_none] at HH
    clear h e1 hE
    replace HH := hid HH
    go_enter Tryd.func40, Tryd.ntmps40
    go_wp2_with (go_at_call 32; refine HH.out.mono ?_; rintro e w' ⟨rfl, rfl⟩)
    go_ret
    exact ⟨rfl, Only.refl _ _⟩
  | some s =>
    have e1 : wText l i fType = fType s := by simp [wText, h]
    rw [e1]
    rw [h] at HH
    simp only [Option.isSome_some] at HH
    obtain ⟨j, off, rfl, hj, rfl, hc, hm⟩ := text_cell hE h
    have HN := type_any s (byte_text hA hm) w
    unfold fType
    clear h e1 hE hm
    have g2 : ((j : Int) < (l.length : Int)) := by omega
    replace HH := hid HH
    generalize typeR s = X at *
    obtain ⟨⟨xd, xn⟩, xe⟩ := X
    simp only [tyV] at HN ⊢
    replace HN := hid HN
    go_enter Tryd.func40, Tryd.ntmps40
    go_wp2_with (first | (go_at_call 32; refine HH.out.mono ?_; rintro e w' ⟨rfl, rfl⟩) | (go_at_call 28; refine HN.out.mono ?_; rintro e w1 ⟨rfl, ho1⟩))
    go_ret
    exact ⟨rfl, ho1.alloc _⟩

set_option maxHeartbeats 400000 in
set_option maxRecDepth 100000 in
theorem wrongSig_any {w : World} {ao : Option Addr} {l : List En} {d cap : Nat} (hE : ES w ao l d) (hl : l.length ≤ 9223372036854775807) (hA : ∀ e ∈ l, e.2.1.length ≤ 9223372036854775807) (i : Int) :
    Calls Tryd.prog 44 #[.slice ao l.length cap, .int .i64 i] w fun e w' => e = .returned (.int .i64 (wText l i fSig)) ∧ Only [] w w' := by
  have HH := has_any' (cap := cap) hE hl i 1
  rw [hasE_text] at HH
  cases h : textAt l i with
  | none =>
    have e1 : wText l i fSig = 16 := by simp [wText, h]
    rw [e1]
    rw [h] at HH
    simp only [Option.isSome_none] at HH
    clear h e1 hE
    replace HH := hid HH
    go_enter Tryd.func44, Tryd.ntmps44
    go_wp2_with (go_at_call 32; refine HH.out.mono ?_; rintro e w' ⟨rfl, rfl⟩)
    go_ret
    exact ⟨rfl, Only.refl _ _⟩
  | some s =>
    have e1 : wText l i fSig = fSig s := by simp [wText, h]
    rw [e1]
    rw [h] at HH
    simp only [Option.isSome_some] at HH
    obtain ⟨j, off, rfl, hj, rfl, hc, hm⟩ := text_cell hE h
    have HN := sig_any s (byte_text hA hm) w
    unfold fSig
    clear h e1 hE hm
    have g2 : ((j : Int) < (l.length : Int)) := by omega
    replace HH := hid HH
    generalize sigR s = X at *
    obtain ⟨⟨xl, xv, xd, xn⟩, xe⟩ := X
    simp only [sigV] at HN ⊢
    replace HN := hid HN
    go_enter Tryd.func44, Tryd.ntmps44
    go_wp2_with (first | (go_at_call 32; refine HH.out.mono ?_; rintro e w' ⟨rfl, rfl⟩) | (go_at_call 35; refine HN.out.mono ?_; rintro e w1 ⟨v, rfl, hw, ho1⟩; obtain ⟨vo, vc, rfl⟩ := own_slice hw))
    go_ret
    exact ⟨rfl, ho1.alloc _⟩

set_option maxHeartbeats 400000 in
set_option maxRecDepth 100000 in
/-- What cmp.Or answers of three. -/
theorem or_any (x y z : Int) (w : World) : Calls Tryd.prog 41 #[.slice (some ⟨w.heap.size, 0, none⟩) 3 3] (w.alloc (.cells #[.int .i64 x, .int .i64 y, .int .i64 z] 25)) fun e w' => e = .returned (.int .i64 (or3 x y z)) ∧ w' = w.alloc (.cells #[.int .i64 x, .int .i64 y, .int .i64 z] 25) := by
  go_enter Tryd.func41, Tryd.ntmps41
  go_wp2
  go_loopw [8] (fun i wr => ∃ k : Int, 0 ≤ k ∧ k ≤ 3 ∧ i = .int .i64 k ∧ (0 < k → x = 0) ∧ (1 < k → y = 0) ∧ (2 < k → z = 0) ∧ wr = w.alloc (.cells #[.int .i64 x, .int .i64 y, .int .i64 z] 25)) (fun i _ => (3 - intOf i).toNat)
  case atStart => exact ⟨0, by omega, by omega, rfl, by omega, by omega, by omega, rfl⟩
  case round =>
    obtain ⟨k, hk0, hk, rfl, h0, h1, h2, rfl⟩ := hrel
    rcases (by omega : k = 0 ∨ k = 1 ∨ k = 2 ∨ k = 3) with rfl | rfl | rfl | rfl
    · by_cases hx : x = 0
      · subst hx
        go_wp2
        exact ⟨⟨1, by omega, by omega, by go_num, by first | trivial | omega, by first | trivial | omega, by first | trivial | omega, by first | trivial | rfl⟩, by simp [intOf]⟩
      · have g : (x == 0) = false := by simpa using hx
        have e1 : Hid (or3 x y z = x) := by simp [Hid, or3, hx]
        clear hx
        go_wp2
        go_ret
        exact ⟨by rw [e1.out]; rfl, rfl⟩
    · obtain rfl := h0 (by omega)
      by_cases hx : y = 0
      · subst hx
        go_wp2
        exact ⟨⟨2, by omega, by omega, by go_num, by first | trivial | omega, by first | trivial | omega, by first | trivial | omega, by first | trivial | rfl⟩, by simp [intOf]⟩
      · have g : (y == 0) = false := by simpa using hx
        have e1 : Hid (or3 0 y z = y) := by simp [Hid, or3, hx]
        clear hx
        go_wp2
        go_ret
        exact ⟨by rw [e1.out]; rfl, rfl⟩
    · obtain rfl := h0 (by omega)
      obtain rfl := h1 (by omega)
      by_cases hx : z = 0
      · subst hx
        go_wp2
        exact ⟨⟨3, by omega, by omega, by go_num, by first | trivial | omega, by first | trivial | omega, by first | trivial | omega, by first | trivial | rfl⟩, by simp [intOf]⟩
      · have g : (z == 0) = false := by simpa using hx
        have e1 : Hid (or3 0 0 z = z) := by simp [Hid, or3]
        clear hx
        go_wp2
        go_ret
        exact ⟨by rw [e1.out]; rfl, rfl⟩
    · obtain rfl := h0 (by omega)
      obtain rfl := h1 (by omega)
      obtain rfl := h2 (by omega)
      go_wp2
      go_ret
      exact ⟨by simp [or3], rfl⟩

end Go.Proofs.YtemjhlhioeopnabDoor
