/-
  The contracts of wrongMethod and wrong. No conditions.
-/
import Derived.Test.YtemjhlhioeopnabDoorICheck
namespace Go.Proofs.YtemjhlhioeopnabDoor
open Go.RowKit

set_option maxHeartbeats 1000000 in
set_option maxRecDepth 100000 in
theorem wmethod_any {w : World} {ao : Option Addr} {l : List En} {d cap : Nat} (hE : ES w ao l d) (hl : l.length ≤ 9223372036854775807) (hA : ∀ e ∈ l, e.2.1.length ≤ 9223372036854775807) (locals : Int) (g : Value) (a op n s : Int) (hg : ∃ go m c, g = .slice go m c) :
    Calls Tryd.prog 24 #[.agg #[.slice ao l.length cap, .int .i64 locals, g], inV (a, op, n, s)] w fun e w' => e = .returned (.int .i64 (methodW l op n)) ∧ Only [] w w' := by
  obtain ⟨go, gm, gc, rfl⟩ := hg
  have o0 := ((Only.refl [] w).alloc (.cells #[.slice ao l.length cap, .int .i64 locals, .slice go gm gc] 54)).alloc (.cells #[.int .i64 a, .int .i64 op, .int .i64 n, .int .i64 s] 31)
  have I0 := hid (inAt_new (w.alloc (.cells #[.slice ao l.length cap, .int .i64 locals, .slice go gm gc] 54)) a op n s 31)
  rw [World.size_alloc] at I0
  have HM := pmethod_any (cap := cap) (hE.only o0 (by simp)) hl hA n
  unfold methodW
  generalize methodR l n = X at *
  obtain ⟨⟨xc, nm, ps, void, td, tn⟩, er⟩ := X
  simp only [inV, sigV] at HM ⊢
  clear hE hA
  have hst := str_toList nm
  have hci : (⟨#[60, 105, 110, 105, 116, 62]⟩ : ByteArray).toList = initL := str_toList initL
  replace HM := hid HM
  by_cases he : er = 0
  · subst he
    rw [if_pos rfl]
    by_cases hn : nm = initL
    · subst hn
      rw [decide_eq_true rfl]
      have gn : (initL == initL) = true := by decide
      generalize initL = nm at *
      by_cases h41 : op = 41
      · subst h41
        rw [if_pos (by decide)]
        cases void with
        | true =>
          rw [if_neg (by simp)]
          go_enter Tryd.func24, Tryd.ntmps24
          go_wp2_with (go_at_call 31; refine HM.out.mono ?_; rintro e w1 ⟨vo, vc, rfl, hown, ho1⟩; clear hown; obtain ⟨c0, c1, c2, c3⟩ := (I0.out.only ho1 (by simp)).alloc (.cells #[.slice vo ps.length vc, .bool true, .int .i64 td, .string (str tn)] 79); simp only [Nat.zero_add] at c1 c2 c3)
          go_ret
          exact ⟨by simp, (o0.next ho1 (by simp)).alloc _⟩
        | false =>
          rw [if_pos (by simp)]
          go_enter Tryd.func24, Tryd.ntmps24
          go_wp2_with (go_at_call 31; refine HM.out.mono ?_; rintro e w1 ⟨vo, vc, rfl, hown, ho1⟩; clear hown; obtain ⟨c0, c1, c2, c3⟩ := (I0.out.only ho1 (by simp)).alloc (.cells #[.slice vo ps.length vc, .bool false, .int .i64 td, .string (str tn)] 79); simp only [Nat.zero_add] at c1 c2 c3)
          go_ret
          exact ⟨by simp, (o0.next ho1 (by simp)).alloc _⟩
      · have g41 : (op == 41) = false := by simpa using h41
        have e1 : Hid (decide (op = 41) = false) := decide_eq_false h41
        rw [e1.out]
        go_enter Tryd.func24, Tryd.ntmps24
        go_wp2_with (go_at_call 31; refine HM.out.mono ?_; rintro e w1 ⟨vo, vc, rfl, hown, ho1⟩; clear hown; obtain ⟨c0, c1, c2, c3⟩ := (I0.out.only ho1 (by simp)).alloc (.cells #[.slice vo ps.length vc, .bool void, .int .i64 td, .string (str tn)] 79); simp only [Nat.zero_add] at c1 c2 c3)
        go_ret
        exact ⟨by simp, (o0.next ho1 (by simp)).alloc _⟩
    · have gn : (nm == initL) = false := by simpa using hn
      rw [decide_eq_false hn]
      by_cases h41 : op = 41
      · subst h41
        go_enter Tryd.func24, Tryd.ntmps24
        go_wp2_with (go_at_call 31; refine HM.out.mono ?_; rintro e w1 ⟨vo, vc, rfl, hown, ho1⟩; clear hown; obtain ⟨c0, c1, c2, c3⟩ := (I0.out.only ho1 (by simp)).alloc (.cells #[.slice vo ps.length vc, .bool void, .int .i64 td, .string (str tn)] 79); simp only [Nat.zero_add] at c1 c2 c3)
        go_ret
        exact ⟨by simp, (o0.next ho1 (by simp)).alloc _⟩
      · have g41 : (op == 41) = false := by simpa using h41
        have e1 : Hid (decide (op = 41) = false) := decide_eq_false h41
        rw [e1.out]
        go_enter Tryd.func24, Tryd.ntmps24
        go_wp2_with (go_at_call 31; refine HM.out.mono ?_; rintro e w1 ⟨vo, vc, rfl, hown, ho1⟩; clear hown; obtain ⟨c0, c1, c2, c3⟩ := (I0.out.only ho1 (by simp)).alloc (.cells #[.slice vo ps.length vc, .bool void, .int .i64 td, .string (str tn)] 79); simp only [Nat.zero_add] at c1 c2 c3)
        go_ret
        exact ⟨by simp, (o0.next ho1 (by simp)).alloc _⟩
  · have ge : (er == 0) = false := by simpa using he
    rw [if_neg he]
    go_enter Tryd.func24, Tryd.ntmps24
    go_wp2_with (go_at_call 31; refine HM.out.mono ?_; rintro e w1 ⟨vo, vc, rfl, hown, ho1⟩; clear hown)
    go_ret
    exact ⟨rfl, (o0.next ho1 (by simp)).alloc _⟩

set_option maxHeartbeats 1000000 in
set_option maxRecDepth 100000 in
theorem wrong_in {w : World} {ao go : Option Addr} {l : List En} {bl : List Bool} {d dg cap gc : Nat} (hE : ES w ao l d) (hl : l.length ≤ 9223372036854775807) (hA : ∀ e ∈ l, e.2.1.length ≤ 9223372036854775807) (hG : RS w go (lcs bl) dg) (_ : bl.length ≤ 9223372036854775807) (locals a op n s : Int) (hn : 0 ≤ n) :
    Calls Tryd.prog 18 #[.agg #[.slice ao l.length cap, .int .i64 locals, .slice go bl.length gc], inV (a, op, n, s)] w fun e w' => e = .returned (.int .i64 (wrongB bl l locals (a, op, n, s))) ∧ Only [] w w' := by
  have o0 := ((Only.refl [] w).alloc (.cells #[.slice ao l.length cap, .int .i64 locals, .slice go bl.length gc] 54)).alloc (.cells #[.int .i64 a, .int .i64 op, .int .i64 n, .int .i64 s] 31)
  have HR := row_any op ((w.alloc (.cells #[.slice ao l.length cap, .int .i64 locals, .slice go bl.length gc] 54)).alloc (.cells #[.int .i64 a, .int .i64 op, .int .i64 n, .int .i64 s] 31))
  have hE0 := hE.only o0 (by simp)
  have H3 := hid (pnumber_any (cap := cap) hE0 hl hA n)
  have H5 := hid (pclass_any (cap := cap) hE0 hl hA n)
  have H6 := hid (pfield_any (cap := cap) hE0 hl hA n)
  have H7 := hid (fun hr => wtype_any (cap := cap) hE0 hl hA locals (.slice go bl.length gc) a op n s hr ⟨_, _, _, rfl⟩)
  have H8 := hid (wmethod_any (cap := cap) hE0 hl hA locals (.slice go bl.length gc) a op n s ⟨_, _, _, rfl⟩)
  obtain ⟨_, _, r0, r8⟩ := row_op op
  have ew : wrongB bl l locals (a, op, n, s) = if rowI op = 2 then (if locals ≤ n then 43 else 0) else if rowI op = 4 then (if bl.getD n.toNat false = true then 0 else 18) else if rowI op = 3 then (numberR l n).2 else if rowI op = 5 then (classR l n).2 else if rowI op = 6 then (fieldR l n).2 else if rowI op = 7 then typeW l op n else if rowI op = 8 then methodW l op n else 0 := rfl
  rw [ew]
  clear ew hE hE0 hA
  simp only [inV] at H7 H8 ⊢
  generalize rowI op = r at *
  generalize numberR l n = X3 at *
  generalize classR l n = X5 at *
  generalize fieldR l n = X6 at *
  generalize typeW l op n = X7 at *
  generalize methodW l op n = X8 at *
  obtain ⟨x3, e3⟩ := X3
  obtain ⟨x5, e5⟩ := X5
  obtain ⟨⟨x6, y6, z6⟩, e6⟩ := X6
  simp only [tyV] at H3 H5 H6 ⊢
  replace HR := hid HR
  rcases (by omega : r = 0 ∨ r = 1 ∨ r = 2 ∨ r = 3 ∨ r = 4 ∨ r = 5 ∨ r = 6 ∨ r = 7 ∨ r = 8) with rfl | rfl | rfl | rfl | rfl | rfl | rfl | rfl | rfl
  · clear H3 H5 H6 H7 H8
    go_enter Tryd.func18, Tryd.ntmps18
    go_wp2_with (go_at_call 17; refine HR.out.mono ?_; rintro e w' ⟨rfl, rfl⟩)
    go_ret
    exact ⟨rfl, o0⟩
  · clear H3 H5 H6 H7 H8
    go_enter Tryd.func18, Tryd.ntmps18
    go_wp2_with (go_at_call 17; refine HR.out.mono ?_; rintro e w' ⟨rfl, rfl⟩)
    go_ret
    exact ⟨rfl, o0⟩
  · clear H3 H5 H6 H7 H8
    rw [if_pos rfl]
    by_cases h : locals ≤ n
    · rw [if_pos h]
      go_enter Tryd.func18, Tryd.ntmps18
      go_wp2_with (go_at_call 17; refine HR.out.mono ?_; rintro e w' ⟨rfl, rfl⟩)
      go_ret
      exact ⟨rfl, o0⟩
    · rw [if_neg h]
      go_enter Tryd.func18, Tryd.ntmps18
      go_wp2_with (go_at_call 17; refine HR.out.mono ?_; rintro e w' ⟨rfl, rfl⟩)
      go_ret
      exact ⟨rfl, o0⟩
  · clear H5 H6 H7 H8
    go_enter Tryd.func18, Tryd.ntmps18
    go_wp2_with (first | (go_at_call 17; refine HR.out.mono ?_; rintro e w' ⟨rfl, rfl⟩) | (go_at_call 20; refine H3.out.mono ?_; rintro e w2 ⟨rfl, ho2⟩))
    go_ret
    exact ⟨rfl, o0.next ho2 (by simp)⟩
  · clear H3 H5 H6 H7 H8
    rw [if_neg (by decide), if_pos rfl]
    obtain ⟨k, rfl⟩ : ∃ k : Nat, n = (k : Int) := ⟨n.toNat, by omega⟩
    rw [Int.toNat_natCast]
    by_cases hk : k < bl.length
    · obtain ⟨off, rfl, hc⟩ := (hG.only0 o0).at (j := k) (by rw [lcs_length]; omega)
      have y0 := hc k _ (lcs_get bl k hk)
      have g1 : ¬ ((bl.length : Int) ≤ (k : Int)) := by omega
      have g2 : ((k : Int) < (bl.length : Int)) := by omega
      have eg : bl.getD k false = bl[k] := by simp [List.getD, hk]
      rw [eg]
      clear hc hG eg
      generalize bl[k] = z at *
      cases z with
      | true =>
        go_enter Tryd.func18, Tryd.ntmps18
        go_wp2_with (go_at_call 17; refine HR.out.mono ?_; rintro e w' ⟨rfl, rfl⟩)
        go_ret
        exact ⟨rfl, o0⟩
      | false =>
        go_enter Tryd.func18, Tryd.ntmps18
        go_wp2_with (go_at_call 17; refine HR.out.mono ?_; rintro e w' ⟨rfl, rfl⟩)
        go_ret
        exact ⟨rfl, o0⟩
    · have g1 : ((bl.length : Int) ≤ (k : Int)) := by omega
      have eg : bl.getD k false = false := by simp [List.getD, List.getElem?_eq_none (Nat.le_of_not_lt hk)]
      rw [eg]
      clear hG eg
      go_enter Tryd.func18, Tryd.ntmps18
      go_wp2_with (go_at_call 17; refine HR.out.mono ?_; rintro e w' ⟨rfl, rfl⟩)
      go_ret
      exact ⟨rfl, o0⟩
  · clear H3 H6 H7 H8
    go_enter Tryd.func18, Tryd.ntmps18
    go_wp2_with (first | (go_at_call 17; refine HR.out.mono ?_; rintro e w' ⟨rfl, rfl⟩) | (go_at_call 21; refine H5.out.mono ?_; rintro e w2 ⟨rfl, ho2⟩))
    go_ret
    exact ⟨rfl, o0.next ho2 (by simp)⟩
  · clear H3 H5 H7 H8
    go_enter Tryd.func18, Tryd.ntmps18
    go_wp2_with (first | (go_at_call 17; refine HR.out.mono ?_; rintro e w' ⟨rfl, rfl⟩) | (go_at_call 22; refine H6.out.mono ?_; rintro e w2 ⟨rfl, ho2⟩))
    go_ret
    exact ⟨rfl, o0.next ho2 (by simp)⟩
  · clear H3 H5 H6 H8
    replace H7 := hid (H7.out rfl)
    go_enter Tryd.func18, Tryd.ntmps18
    go_wp2_with (first | (go_at_call 17; refine HR.out.mono ?_; rintro e w' ⟨rfl, rfl⟩) | (go_at_call 23; refine H7.out.mono ?_; rintro e w2 ⟨rfl, ho2⟩))
    go_ret
    exact ⟨rfl, o0.next ho2 (by simp)⟩
  · clear H3 H5 H6 H7
    go_enter Tryd.func18, Tryd.ntmps18
    go_wp2_with (first | (go_at_call 17; refine HR.out.mono ?_; rintro e w' ⟨rfl, rfl⟩) | (go_at_call 24; refine H8.out.mono ?_; rintro e w2 ⟨rfl, ho2⟩))
    go_ret
    exact ⟨rfl, o0.next ho2 (by simp)⟩

end Go.Proofs.YtemjhlhioeopnabDoor
