/-
  What the proof leans on, part 13 of 23. The conditions stand in each theorem.
-/
import Derived.Test.YtildemmkhndhjaaGreatDoorB11
import Derived.Test.YtildemmkhndhjaaGreatDoorB12
import Derived.Test.YtildemmkhndhjaaGreatDoorB07
namespace Go.Proofs.YtildemmkhndhjaaGreatDoor
open Go.RowKit

def clV (vf vd vm : Value) (c : Cl) : Value := .agg #[.int .i64 c.flags, .string (str c.name), .string (str c.super), vf, vd, vm]
def meV (vp vc vh : Value) (m : Me) : Value := .agg #[.int .i64 m.flags, .string (str m.name), vp, .bool m.sig.2.1, .int .i64 m.sig.2.2.1, .string (str m.sig.2.2.2), .int .i64 m.stack, .int .i64 m.locals, vc, vh]

set_option maxHeartbeats 4000000 in
theorem checkHead_any (c : Cl) {fo dd : Option Addr} {fc dc : Nat} (vm : Value) (h1 : c.name.length ≤ 9223372036854775807) (h2 : c.super.length ≤ 9223372036854775807) (h3 : c.faces.length ≤ 9223372036854775807) (h4 : c.fields.length ≤ 9223372036854775807) (w : World) :
    Calls Tryz.prog 46 #[clV (.slice fo c.faces.length fc) (.slice dd c.fields.length dc) vm c] w fun e w' => e = .returned (bareV (headE c)) ∧ Only [] w w' := by
  have N1 := fun W => name_any c.name h1 W
  have N2 := fun W => name_any c.super h2 W
  obtain ⟨fl, nm, su, fa, fi, me⟩ := c
  unfold clV headE
  simp only at N1 N2 h1 h2 h3 h4 ⊢
  generalize fa.length = nf at *
  generalize fi.length = nd at *
  have o0 := (Only.refl [] w).alloc (.cells #[.int .i64 fl, .string (str nm), .string (str su), .slice fo nf fc, .slice dd nd dc, vm] 28)
  by_cases hfl : fl ≠ 0 ∧ fl ≠ 1 ∧ fl ≠ 2
  · rw [if_pos hfl]
    obtain ⟨g0, g1, g2⟩ := hfl
    have g0' : (fl == 0) = false := by simpa using g0
    have g1' : (fl == 1) = false := by simpa using g1
    have g2' : (fl == 2) = false := by simpa using g2
    clear N1 N2
    go_enter Tryz.func46, Tryz.ntmps46
    go_wp2
    go_ret
    exact ⟨rfl, o0⟩
  · rw [if_neg hfl]
    have hfl' : fl = 0 ∨ fl = 1 ∨ fl = 2 := by omega
    clear hfl
    generalize nameOK nm = b1 at *
    generalize nameOK su = b2 at *
    replace N1 := hid N1
    replace N2 := hid N2
    rcases hfl' with rfl | rfl | rfl
    · cases b1 with
      | false =>
        rw [if_pos (Or.inl rfl)]
        go_enter Tryz.func46, Tryz.ntmps46
        go_wp2_with fail
        refine (N1.out _).mono ?_
        rintro e w' ⟨rfl, rfl⟩
        go_wp2_with fail
        go_ret
        exact ⟨rfl, o0⟩
      | true =>
        cases b2 with
        | false =>
          rw [if_pos (Or.inr rfl)]
          go_enter Tryz.func46, Tryz.ntmps46
          go_wp2_with fail
          refine (N1.out _).mono ?_
          rintro e w' ⟨rfl, rfl⟩
          go_wp2_with fail
          refine (N2.out _).mono ?_
          rintro e w' ⟨rfl, rfl⟩
          go_wp2_with fail
          go_ret
          exact ⟨rfl, o0⟩
        | true =>
          rw [if_neg (by simp)]
          by_cases hm : 16 < nf
          · rw [if_pos hm]
            have gm : (16 : Int) < (nf : Int) := by omega
            go_enter Tryz.func46, Tryz.ntmps46
            go_wp2_with fail
            refine (N1.out _).mono ?_
            rintro e w' ⟨rfl, rfl⟩
            go_wp2_with fail
            refine (N2.out _).mono ?_
            rintro e w' ⟨rfl, rfl⟩
            go_wp2_with fail
            go_ret
            exact ⟨rfl, o0⟩
          · rw [if_neg hm]
            have gm : ¬ (16 : Int) < (nf : Int) := by omega
            rw [if_neg (by omega), if_neg (by omega)]
            go_enter Tryz.func46, Tryz.ntmps46
            go_wp2_with fail
            refine (N1.out _).mono ?_
            rintro e w' ⟨rfl, rfl⟩
            go_wp2_with fail
            refine (N2.out _).mono ?_
            rintro e w' ⟨rfl, rfl⟩
            go_wp2_with fail
            go_ret
            exact ⟨rfl, o0⟩

    · cases b1 with
      | false =>
        rw [if_pos (Or.inl rfl)]
        go_enter Tryz.func46, Tryz.ntmps46
        go_wp2_with fail
        refine (N1.out _).mono ?_
        rintro e w' ⟨rfl, rfl⟩
        go_wp2_with fail
        go_ret
        exact ⟨rfl, o0⟩
      | true =>
        cases b2 with
        | false =>
          rw [if_pos (Or.inr rfl)]
          go_enter Tryz.func46, Tryz.ntmps46
          go_wp2_with fail
          refine (N1.out _).mono ?_
          rintro e w' ⟨rfl, rfl⟩
          go_wp2_with fail
          refine (N2.out _).mono ?_
          rintro e w' ⟨rfl, rfl⟩
          go_wp2_with fail
          go_ret
          exact ⟨rfl, o0⟩
        | true =>
          rw [if_neg (by simp)]
          by_cases hm : 16 < nf
          · rw [if_pos hm]
            have gm : (16 : Int) < (nf : Int) := by omega
            go_enter Tryz.func46, Tryz.ntmps46
            go_wp2_with fail
            refine (N1.out _).mono ?_
            rintro e w' ⟨rfl, rfl⟩
            go_wp2_with fail
            refine (N2.out _).mono ?_
            rintro e w' ⟨rfl, rfl⟩
            go_wp2_with fail
            go_ret
            exact ⟨rfl, o0⟩
          · rw [if_neg hm]
            have gm : ¬ (16 : Int) < (nf : Int) := by omega
            by_cases hs : su = objL
            · rw [if_neg (by simp [hs])]
              subst hs
              have ht : (str objL).toList = [79, 98, 106, 101, 99, 116] := str_toList _
              by_cases hd : 0 < nd
              · rw [if_pos ⟨rfl, hd⟩]
                have gd : (0 : Int) < (nd : Int) := by omega
                go_enter Tryz.func46, Tryz.ntmps46
                go_wp2_with fail
                refine (N1.out _).mono ?_
                rintro e w' ⟨rfl, rfl⟩
                go_wp2_with fail
                refine (N2.out _).mono ?_
                rintro e w' ⟨rfl, rfl⟩
                go_wp2_with fail
                go_ret
                exact ⟨rfl, o0⟩
              · rw [if_neg (by omega)]
                have gd : ¬ (0 : Int) < (nd : Int) := by omega
                go_enter Tryz.func46, Tryz.ntmps46
                go_wp2_with fail
                refine (N1.out _).mono ?_
                rintro e w' ⟨rfl, rfl⟩
                go_wp2_with fail
                refine (N2.out _).mono ?_
                rintro e w' ⟨rfl, rfl⟩
                go_wp2_with fail
                go_ret
                exact ⟨rfl, o0⟩
            · rw [if_pos ⟨rfl, hs⟩]
              have ht := str_toList su
              have hb2 : ¬ (su = [79, 98, 106, 101, 99, 116]) := hs
              have hb3 : (su == [79, 98, 106, 101, 99, 116]) = false := by simpa using hb2
              go_enter Tryz.func46, Tryz.ntmps46
              go_wp2_with fail
              refine (N1.out _).mono ?_
              rintro e w' ⟨rfl, rfl⟩
              go_wp2_with fail
              refine (N2.out _).mono ?_
              rintro e w' ⟨rfl, rfl⟩
              go_wp2_with fail
              go_ret
              exact ⟨rfl, o0⟩

    · cases b1 with
      | false =>
        rw [if_pos (Or.inl rfl)]
        go_enter Tryz.func46, Tryz.ntmps46
        go_wp2_with fail
        refine (N1.out _).mono ?_
        rintro e w' ⟨rfl, rfl⟩
        go_wp2_with fail
        go_ret
        exact ⟨rfl, o0⟩
      | true =>
        cases b2 with
        | false =>
          rw [if_pos (Or.inr rfl)]
          go_enter Tryz.func46, Tryz.ntmps46
          go_wp2_with fail
          refine (N1.out _).mono ?_
          rintro e w' ⟨rfl, rfl⟩
          go_wp2_with fail
          refine (N2.out _).mono ?_
          rintro e w' ⟨rfl, rfl⟩
          go_wp2_with fail
          go_ret
          exact ⟨rfl, o0⟩
        | true =>
          rw [if_neg (by simp)]
          by_cases hm : 16 < nf
          · rw [if_pos hm]
            have gm : (16 : Int) < (nf : Int) := by omega
            go_enter Tryz.func46, Tryz.ntmps46
            go_wp2_with fail
            refine (N1.out _).mono ?_
            rintro e w' ⟨rfl, rfl⟩
            go_wp2_with fail
            refine (N2.out _).mono ?_
            rintro e w' ⟨rfl, rfl⟩
            go_wp2_with fail
            go_ret
            exact ⟨rfl, o0⟩
          · rw [if_neg hm]
            have gm : ¬ (16 : Int) < (nf : Int) := by omega
            rw [if_neg (by omega), if_neg (by omega)]
            go_enter Tryz.func46, Tryz.ntmps46
            go_wp2_with fail
            refine (N1.out _).mono ?_
            rintro e w' ⟨rfl, rfl⟩
            go_wp2_with fail
            refine (N2.out _).mono ?_
            rintro e w' ⟨rfl, rfl⟩
            go_wp2_with fail
            go_ret
            exact ⟨rfl, o0⟩


set_option maxHeartbeats 1000000 in
theorem checkFace_any {w : World} {ao : Option Addr} {l : List (List UInt8)} {d cap : Nat} (hS : RS w ao (scs l) d) (hl : l.length ≤ 9223372036854775807) (n : List UInt8) (hn : n.length ≤ 9223372036854775807) :
    Calls Tryz.prog 48 #[.slice ao l.length cap, .string (str n)] w fun e w' => e = .returned (bareV (faceE l n)) ∧ Only [] w w' := by
  have N1 := name_any n hn w
  have HC := contains_str (cap := cap) hS hl n
  unfold faceE
  have hin : (decide (n ∈ l)) = true ↔ n ∈ l := by simp
  generalize nameOK n = b1 at *
  replace N1 := hid N1
  replace HC := hid HC
  cases b1 with
  | false =>
    rw [if_neg (by simp)]
    go_enter Tryz.func48, Tryz.ntmps48
    go_wp2_with fail
    refine N1.out.mono ?_
    rintro e w' ⟨rfl, rfl⟩
    go_wp2_with fail
    go_ret
    exact ⟨rfl, Only.refl _ _⟩
  | true =>
    rw [if_pos rfl]
    by_cases h : n ∈ l
    · rw [if_pos h]
      rw [decide_eq_true h] at HC
      go_enter Tryz.func48, Tryz.ntmps48
      go_wp2_with fail
      refine N1.out.mono ?_
      rintro e w' ⟨rfl, rfl⟩
      go_wp2_with fail
      refine HC.out.mono ?_
      rintro e w1 ⟨rfl, ho⟩
      go_wp2_with fail
      go_ret
      exact ⟨rfl, ho⟩
    · rw [if_neg h]
      rw [decide_eq_false h] at HC
      go_enter Tryz.func48, Tryz.ntmps48
      go_wp2_with fail
      refine N1.out.mono ?_
      rintro e w' ⟨rfl, rfl⟩
      go_wp2_with fail
      refine HC.out.mono ?_
      rintro e w1 ⟨rfl, ho⟩
      go_wp2_with fail
      go_ret
      exact ⟨rfl, ho⟩

set_option maxHeartbeats 4000000 in
theorem checkFlags_any (c : Cl) (vf vd vm : Value) (m : Me) (vp vc vh : Value) (w : World) :
    Calls Tryz.prog 54 #[clV vf vd vm c, meV vp vc vh m] w fun e w' => e = .returned (bareV (flagsE c.flags m)) ∧ Only [] w w' := by
  obtain ⟨cf, cn, cs, _, _, _⟩ := c
  obtain ⟨fl, nm, ⟨ps, vo, rt⟩, st, lo, code, hs⟩ := m
  unfold clV meV flagsE
  simp only
  have o0 := ((Only.refl [] w).alloc (.cells #[.int .i64 cf, .string (str cn), .string (str cs), vf, vd, vm] 28)).alloc (.cells #[.int .i64 fl, .string (str nm), vp, .bool vo, .int .i64 rt.1, .string (str rt.2), .int .i64 st, .int .i64 lo, vc, vh] 41)
  by_cases hi : nm = initL
  · subst hi
    have ht : (str initL).toList = [60, 105, 110, 105, 116, 62] := str_toList _
    by_cases f0 : fl = 0
    · subst f0
      rw [if_neg (by simp)]
      cases vo with
      | false =>
        rw [if_pos ⟨rfl, rfl⟩]
        go_enter Tryz.func54, Tryz.ntmps54
        go_wp2_with fail
        go_ret
        exact ⟨rfl, o0⟩
      | true =>
        rw [if_neg (by simp)]
        by_cases c1 : cf = 1
        · subst c1
          rw [if_pos ⟨rfl, by decide⟩]
          go_enter Tryz.func54, Tryz.ntmps54
          go_wp2_with fail
          go_ret
          exact ⟨rfl, o0⟩
        · have g1 : (cf == 1) = false := by simpa using c1
          rw [if_neg (by omega), if_neg (by omega)]
          by_cases c0 : cf = 0
          · subst c0
            go_enter Tryz.func54, Tryz.ntmps54
            go_wp2_with fail
            go_ret
            exact ⟨rfl, o0⟩
          · have g0 : (cf == 0) = false := by simpa using c0
            go_enter Tryz.func54, Tryz.ntmps54
            go_wp2_with fail
            go_ret
            exact ⟨rfl, o0⟩
    · have g0 : (fl == 0) = false := by simpa using f0
      rw [if_pos ⟨rfl, f0⟩]
      go_enter Tryz.func54, Tryz.ntmps54
      go_wp2_with fail
      go_ret
      exact ⟨rfl, o0⟩
  · have ht := str_toList nm
    have hb2 : ¬ (nm = [60, 105, 110, 105, 116, 62]) := hi
    rw [if_neg (fun h => hi h.1), if_neg (fun h => hi h.1)]
    by_cases c1 : cf = 1
    · subst c1
      by_cases f2 : fl = 2
      · subst f2
        rw [if_neg (by omega), if_neg (by omega)]
        go_enter Tryz.func54, Tryz.ntmps54
        go_wp2_with fail
        go_ret
        exact ⟨rfl, o0⟩
      · have g2 : (fl == 2) = false := by simpa using f2
        rw [if_pos ⟨rfl, f2⟩]
        go_enter Tryz.func54, Tryz.ntmps54
        go_wp2_with fail
        go_ret
        exact ⟨rfl, o0⟩
    · have g1 : (cf == 1) = false := by simpa using c1
      rw [if_neg (by omega)]
      by_cases c0 : cf = 0
      · subst c0
        by_cases f2 : fl = 2
        · subst f2
          rw [if_pos ⟨rfl, rfl⟩]
          go_enter Tryz.func54, Tryz.ntmps54
          go_wp2_with fail
          go_ret
          exact ⟨rfl, o0⟩
        · have g2 : (fl == 2) = false := by simpa using f2
          rw [if_neg (by omega)]
          go_enter Tryz.func54, Tryz.ntmps54
          go_wp2_with fail
          go_ret
          exact ⟨rfl, o0⟩
      · have g0 : (cf == 0) = false := by simpa using c0
        rw [if_neg (by omega)]
        by_cases f2 : fl = 2
        · subst f2
          go_enter Tryz.func54, Tryz.ntmps54
          go_wp2_with fail
          go_ret
          exact ⟨rfl, o0⟩
        · have g2 : (fl == 2) = false := by simpa using f2
          go_enter Tryz.func54, Tryz.ntmps54
          go_wp2_with fail
          go_ret
          exact ⟨rfl, o0⟩

theorem handedIn_any (m : Me) {po : Option Addr} {pc : Nat} (hl : m.sig.1.length ≤ 1000000000000000000) (vc vh : Value) (w : World) :
    Calls Tryz.prog 124 #[meV (.slice po m.sig.1.length pc) vc vh m] w fun e w' => e = .returned (.int .i64 (handedE m)) ∧ Only [] w w' := by
  obtain ⟨fl, nm, ⟨ps, vo, rt⟩, st, lo, code, hs⟩ := m
  unfold meV handedE
  simp only at hl ⊢
  have o0 := (Only.refl [] w).alloc (.cells #[.int .i64 fl, .string (str nm), .slice po ps.length pc, .bool vo, .int .i64 rt.1, .string (str rt.2), .int .i64 st, .int .i64 lo, vc, vh] 41)
  by_cases f4 : fl = 4
  · subst f4
    rw [if_pos rfl]
    go_enter Tryz.func124, Tryz.ntmps124
    go_wp2
    go_ret
    exact ⟨rfl, o0⟩
  · have g4 : (fl == 4) = false := by simpa using f4
    rw [if_neg f4]
    go_enter Tryz.func124, Tryz.ntmps124
    go_wp2
    go_ret
    exact ⟨rfl, o0⟩

end Go.Proofs.YtildemmkhndhjaaGreatDoor
namespace Go.Proofs.YtildemmkhndhjaaGreatDoor
open Go.RowKit

set_option maxHeartbeats 400000 in
set_option maxRecDepth 100000 in
theorem equal_any {w : World} {ao bo : Option Addr} {l m : List Ty} {d k cap bap : Nat} (hT : TS w ao l d) (hM : TS w bo m k) (hl : l.length ≤ 9223372036854775807) :
    Calls Tryz.prog 168 #[.slice ao l.length cap, .slice bo m.length bap] w fun e w' => e = .returned (.bool (decide (l = m))) ∧ Only [] w w' := by
  by_cases hq : l.length = m.length
  · rw [← hq]
    replace hq := hid hq
    go_enter Tryz.func168, Tryz.ntmps168
    go_wp2
    go_loopw [13] (fun i wr => ∃ j : Nat, j ≤ l.length ∧ i = .int .i64 (j : Int) ∧ l.take j = m.take j ∧ Only [] w wr) (fun i _ => l.length - (intOf i).toNat)
    case atStart => exact ⟨0, by omega, rfl, by simp, Only.refl _ _⟩
    case round =>
      obtain ⟨j, hj, rfl, hpre, hor⟩ := hrel
      by_cases hlt : j < l.length
      · have g2 : ((j : Int) < (l.length : Int)) := by omega
        have hne : l ≠ [] := by intro e; simp [e] at hlt
        have hlt2 : j < m.length := by rw [← hq.out]; exact hlt
        have hne2 : m ≠ [] := by intro e; simp [e] at hlt2
        rcases hT.only hor (by simp) with h | ⟨off, rfl, hc⟩
        · exact absurd h hne
        rcases hM.only hor (by simp) with h | ⟨off2, rfl, hc2⟩
        · exact absurd h hne2
        obtain ⟨y0, y1⟩ := hc j hlt
        obtain ⟨z0, z1⟩ := hc2 j hlt2
        clear hc hc2 hT hM
        have hnx : l[j] = m[j] → l.take (j + 1) = m.take (j + 1) := by
          intro e
          rw [List.take_succ_eq_append_getElem hlt, List.take_succ_eq_append_getElem hlt2, hpre, e]
        have hno : l[j] ≠ m[j] → l ≠ m := by
          intro e1 e2
          apply e1
          simp [e2]
        have hqt := neq_type l[j] m[j]
        generalize l[j] = s at *
        generalize m[j] = t at *
        obtain ⟨d0, n0⟩ := s
        obtain ⟨d1, n1⟩ := t
        simp only [tyV] at hqt
        clear hpre hne hne2 hlt2
        by_cases hs : (d0, n0) = (d1, n1)
        · have hnx := hid (hnx hs)
          simp only [hs, decide_true, Bool.not_true] at hqt
          clear hs hno
          go_wp2_with fail
          go_region
          go_wp2
          exact ⟨⟨j + 1, by omega, by go_num, hnx.out, hor.drew⟩, by simp [intOf]; omega⟩
        · have e1 : Hid (decide (l = m) = false) := by simp [Hid, hno hs]
          simp only [hs, decide_false, Bool.not_false] at hqt
          clear hs hno hnx
          go_wp2_with fail
          go_region
          go_wp2
          go_ret
          exact ⟨by rw [e1.out]; rfl, hor.drew⟩
      · have g2 : ¬ ((j : Int) < (l.length : Int)) := by omega
        obtain rfl : j = l.length := by omega
        have e1 : Hid (decide (l = m) = true) := by
          rw [List.take_of_length_le (Nat.le_refl _), List.take_of_length_le (by rw [hq.out]; exact Nat.le_refl _)] at hpre
          simp [Hid, hpre]
        clear hpre
        go_wp2
        go_ret
        exact ⟨by rw [e1.out]; rfl, hor⟩
  · have g1 : ¬ ((l.length : Int) = (m.length : Int)) := by omega
    have g2 : ((l.length : Int) != (m.length : Int)) = true := by simpa using g1
    have hne : ¬ (l = m) := fun e => hq (by rw [e])
    have e1 : Hid (decide (l = m) = false) := by simp [Hid, hne]
    rw [e1.out]
    clear hne e1
    go_enter Tryz.func168, Tryz.ntmps168
    go_wp2
    go_ret
    exact ⟨rfl, Only.refl _ _⟩

set_option maxHeartbeats 400000 in
set_option maxRecDepth 100000 in
theorem same_any {w : World} {ao bo : Option Addr} {l m : List Ty} {d k cap bap : Nat} (hT : TS w ao l d) (hM : TS w bo m k) (hl : l.length ≤ 9223372036854775807) (v u : Bool) (s t : Ty) :
    Calls Tryz.prog 123 #[sigV (.slice ao l.length cap) v s, sigV (.slice bo m.length bap) u t] w fun e w' => e = .returned (.bool (sameR (l, v, s) (m, u, t))) ∧ Only [] w w' := by
  have hq := eq_type s t
  have hst : ∃ b, b = decide (s = t) := ⟨_, rfl⟩
  obtain ⟨b, hb⟩ := hst
  rw [← hb] at hq
  replace hb := hid hb
  obtain ⟨d0, n0⟩ := s
  obtain ⟨d1, n1⟩ := t
  simp only [tyV] at hq
  simp only [sigV]
  have o1 := ((Only.refl [] w).alloc (.cells #[.slice ao l.length cap, .bool v, .int .i64 d0, .string (str n0)] 37)).alloc (.cells #[.slice bo m.length bap, .bool u, .int .i64 d1, .string (str n1)] 37)
  have HE := hid (equal_any (cap := cap) (bap := bap) (hT.only o1 (by simp)) (hM.only o1 (by simp)) hl)
  have hfin : Hid (sameR (l, v, (d0, n0)) (m, u, (d1, n1)) = (decide (v = u) && (b && decide (l = m)))) := by
    rw [hb.out]
    unfold Hid sameR
    by_cases h1 : l = m <;> by_cases h2 : v = u <;> by_cases h3 : ((d0, n0) : Ty) = (d1, n1) <;> simp [h1, h2, h3]
  cases v <;> cases u <;> cases b
  all_goals
    go_enter Tryz.func123, Tryz.ntmps123
    go_wp2_with (go_at_call 168; refine HE.out.mono ?_; rintro e w2 ⟨rfl, ho2⟩)
    go_ret
    first
      | exact ⟨by rw [hfin.out]; simp, o1.next ho2 (by simp)⟩
      | exact ⟨by rw [hfin.out]; simp, o1⟩

end Go.Proofs.YtildemmkhndhjaaGreatDoor
namespace Go.Proofs.YtildemmkhndhjaaGreatDoor
open Go.RowKit

theorem any_take_succ {α : Type} (p : α → Bool) (l : List α) (k : Nat) (h : k < l.length) : (l.take (k + 1)).any p = ((l.take k).any p || p l[k]) := by
  rw [List.take_succ_eq_append_getElem h, List.any_append]
  simp

theorem any_of_get {α : Type} (p : α → Bool) (l : List α) (k : Nat) (h : k < l.length) (hp : p l[k] = true) : l.any p = true := List.any_eq_true.2 ⟨l[k], List.getElem_mem h, hp⟩

theorem fd_cells {w : World} {ao : Option Addr} {l : List Fd} {d : Nat} (h : RS w ao (fcs l) d) {j : Nat} (hj : j < l.length) :
    ∃ off, ao = some ⟨d, off, none⟩ ∧ w.cell? ⟨d, off + j * 4, none⟩ = some (.int .i64 l[j].1) ∧ w.cell? ⟨d, off + j * 4 + 1, none⟩ = some (.string (str l[j].2.1)) ∧ w.cell? ⟨d, off + j * 4 + 2, none⟩ = some (.int .i64 l[j].2.2.1) ∧ w.cell? ⟨d, off + j * 4 + 3, none⟩ = some (.string (str l[j].2.2.2)) := by
  obtain ⟨off, ha, hc⟩ := h.piece 4 j ((els_flat fdC (fun _ => rfl) l).el j hj) (by simp [fdC])
  exact ⟨off, ha, hc 0 _ rfl, hc 1 _ rfl, hc 2 _ rfl, hc 3 _ rfl⟩

theorem hd_cells {w : World} {ao : Option Addr} {l : List Hd} {d : Nat} (h : RS w ao (hcs l) d) {j : Nat} (hj : j < l.length) :
    ∃ off, ao = some ⟨d, off, none⟩ ∧ w.cell? ⟨d, off + j * 4, none⟩ = some (.int .i64 l[j].1) ∧ w.cell? ⟨d, off + j * 4 + 1, none⟩ = some (.int .i64 l[j].2.1) ∧ w.cell? ⟨d, off + j * 4 + 2, none⟩ = some (.int .i64 l[j].2.2.1) ∧ w.cell? ⟨d, off + j * 4 + 3, none⟩ = some (.string (str l[j].2.2.2)) := by
  obtain ⟨off, ha, hc⟩ := h.piece 4 j ((els_flat hdC (fun _ => rfl) l).el j hj) (by simp [hdC])
  exact ⟨off, ha, hc 0 _ rfl, hc 1 _ rfl, hc 2 _ rfl, hc 3 _ rfl⟩

theorem me_cells {R : Rp} {w : World} {ao : Option Addr} {l : List Me} {cs : List Value} {d : Nat} (h : RS w ao cs d) (he : Els 10 (MeC R) cs l) {j : Nat} (hj : j < l.length) :
    ∃ off vp vc vh, ao = some ⟨d, off, none⟩ ∧ MeAt R vp vc vh l[j] ∧ w.cell? ⟨d, off + j * 10, none⟩ = some (.int .i64 l[j].flags) ∧ w.cell? ⟨d, off + j * 10 + 1, none⟩ = some (.string (str l[j].name)) ∧ w.cell? ⟨d, off + j * 10 + 2, none⟩ = some vp ∧ w.cell? ⟨d, off + j * 10 + 3, none⟩ = some (.bool l[j].sig.2.1) ∧
      w.cell? ⟨d, off + j * 10 + 4, none⟩ = some (.int .i64 l[j].sig.2.2.1) ∧ w.cell? ⟨d, off + j * 10 + 5, none⟩ = some (.string (str l[j].sig.2.2.2)) ∧ w.cell? ⟨d, off + j * 10 + 6, none⟩ = some (.int .i64 l[j].stack) ∧ w.cell? ⟨d, off + j * 10 + 7, none⟩ = some (.int .i64 l[j].locals) ∧ w.cell? ⟨d, off + j * 10 + 8, none⟩ = some vc ∧ w.cell? ⟨d, off + j * 10 + 9, none⟩ = some vh := by
  obtain ⟨vp, vc, vh, hcs, hm⟩ := he.el j hj
  obtain ⟨off, ha, hc⟩ := h.piece 10 j hcs (by simp [meC])
  exact ⟨off, vp, vc, vh, ha, hm, hc 0 _ rfl, hc 1 _ rfl, hc 2 _ rfl, hc 3 _ rfl, hc 4 _ rfl, hc 5 _ rfl, hc 6 _ rfl, hc 7 _ rfl, hc 8 _ rfl, hc 9 _ rfl⟩

theorem cl_cells {R : Rp} {w : World} {ao : Option Addr} {l : List Cl} {cs : List Value} {d : Nat} (h : RS w ao cs d) (he : Els 6 (ClC R) cs l) {j : Nat} (hj : j < l.length) :
    ∃ off vf vd vm, ao = some ⟨d, off, none⟩ ∧ ClAt R vf vd vm l[j] ∧ w.cell? ⟨d, off + j * 6, none⟩ = some (.int .i64 l[j].flags) ∧ w.cell? ⟨d, off + j * 6 + 1, none⟩ = some (.string (str l[j].name)) ∧ w.cell? ⟨d, off + j * 6 + 2, none⟩ = some (.string (str l[j].super)) ∧ w.cell? ⟨d, off + j * 6 + 3, none⟩ = some vf ∧ w.cell? ⟨d, off + j * 6 + 4, none⟩ = some vd ∧ w.cell? ⟨d, off + j * 6 + 5, none⟩ = some vm := by
  obtain ⟨vf, vd, vm, hcs, hm⟩ := he.el j hj
  obtain ⟨off, ha, hc⟩ := h.piece 6 j hcs (by simp [clC])
  exact ⟨off, vf, vd, vm, ha, hm, hc 0 _ rfl, hc 1 _ rfl, hc 2 _ rfl, hc 3 _ rfl, hc 4 _ rfl, hc 5 _ rfl⟩

set_option maxHeartbeats 1000000 in
theorem fd_clo {w : World} (g : Fd) (b : Nat) (n : List UInt8) (hb : w.cell? ⟨b, 1, none⟩ = some (.string (str n))) :
    Calls Tryz.prog 119 #[fdV g, .pointer (some ⟨b, 0, none⟩)] w fun e w' => e = .returned (.bool (decide (g.2.1 = n))) ∧ Only [] w w' := by
  obtain ⟨fl, nm, td, tn⟩ := g
  unfold fdV
  simp only
  have o0 := (Only.refl [] w).alloc (.cells #[.int .i64 fl, .string (str nm), .int .i64 td, .string (str tn)] 44)
  have hb' := cell_alloc (.cells #[.int .i64 fl, .string (str nm), .int .i64 td, .string (str tn)] 44) hb
  have t1 := str_toList n
  have t2 := str_toList nm
  by_cases hq : nm = n
  · subst hq
    rw [decide_eq_true rfl]
    go_enter Tryz.func119, Tryz.ntmps119
    go_wp2
    go_ret
    exact ⟨rfl, o0⟩
  · rw [decide_eq_false hq]
    have hq' : (nm == n) = false := by simpa using hq
    go_enter Tryz.func119, Tryz.ntmps119
    go_wp2
    go_ret
    exact ⟨rfl, o0⟩

set_option maxHeartbeats 1000000 in
theorem cl_clo {w : World} (g : Cl) (vf vd vm : Value) (b : Nat) (n : List UInt8) (hb : w.cell? ⟨b, 1, none⟩ = some (.string (str n))) :
    Calls Tryz.prog 23 #[clV vf vd vm g, .pointer (some ⟨b, 0, none⟩)] w fun e w' => e = .returned (.bool (decide (g.name = n))) ∧ Only [] w w' := by
  obtain ⟨fl, nm, su, _, _, _⟩ := g
  unfold clV
  simp only
  have o0 := (Only.refl [] w).alloc (.cells #[.int .i64 fl, .string (str nm), .string (str su), vf, vd, vm] 28)
  have hb' := cell_alloc (.cells #[.int .i64 fl, .string (str nm), .string (str su), vf, vd, vm] 28) hb
  have t1 := str_toList n
  have t2 := str_toList nm
  by_cases hq : nm = n
  · subst hq
    rw [decide_eq_true rfl]
    go_enter Tryz.func23, Tryz.ntmps23
    go_wp2
    go_ret
    exact ⟨rfl, o0⟩
  · rw [decide_eq_false hq]
    have hq' : (nm == n) = false := by simpa using hq
    go_enter Tryz.func23, Tryz.ntmps23
    go_wp2
    go_ret
    exact ⟨rfl, o0⟩

/-- A method in a block: what a closure reads of it. -/
structure MeBlk (w : World) (b : Nat) (vp : Value) (m : Me) : Prop where
  c1 : w.cell? ⟨b, 1, none⟩ = some (.string (str m.name))
  c2 : w.cell? ⟨b, 2, none⟩ = some vp
  c3 : w.cell? ⟨b, 3, none⟩ = some (.bool m.sig.2.1)
  c4 : w.cell? ⟨b, 4, none⟩ = some (.int .i64 m.sig.2.2.1)
  c5 : w.cell? ⟨b, 5, none⟩ = some (.string (str m.sig.2.2.2))

theorem MeBlk.only {w w' : World} {S : List Nat} {b : Nat} {vp : Value} {m : Me} (h : MeBlk w b vp m) (ho : Only S w w') (hb : b ∉ S) : MeBlk w' b vp m := by
  have hl : b < w.heap.size := World.block_lt_of_cell? w _ h.c1
  exact ⟨(ho.cell (p := ⟨b, 1, none⟩) hl hb).trans h.c1, (ho.cell (p := ⟨b, 2, none⟩) hl hb).trans h.c2, (ho.cell (p := ⟨b, 3, none⟩) hl hb).trans h.c3, (ho.cell (p := ⟨b, 4, none⟩) hl hb).trans h.c4, (ho.cell (p := ⟨b, 5, none⟩) hl hb).trans h.c5⟩

set_option maxHeartbeats 2000000 in
theorem me_clo {w : World} {P Q : Nat → Prop} (g : Me) {vp vc vh : Value} (hg : SlV w P vp g.sig.1.length (tcs g.sig.1)) (b : Nat) {vq : Value} {m : Me} (hb : MeBlk w b vq m) (hq : SlV w Q vq m.sig.1.length (tcs m.sig.1)) :
    Calls Tryz.prog 122 #[meV vp vc vh g, .pointer (some ⟨b, 0, none⟩)] w fun e w' => e = .returned (.bool (decide (g.name = m.name) && sameR g.sig m.sig)) ∧ Only [] w w' := by
  obtain ⟨ao, ac, ad, rfl, hA⟩ := hg
  obtain ⟨bo, bc, bd, rfl, hB⟩ := hq
  obtain ⟨fl, nm, ⟨ps, vo, td, tn⟩, st, lo, code, hs⟩ := g
  obtain ⟨fl2, nm2, ⟨ps2, vo2, td2, tn2⟩, st2, lo2, code2, hs2⟩ := m
  unfold meV
  simp only at hA hB hb ⊢
  have o0 := (Only.refl [] w).alloc (.cells #[.int .i64 fl, .string (str nm), .slice ao ps.length ac, .bool vo, .int .i64 td, .string (str tn), .int .i64 st, .int .i64 lo, vc, vh] 41)
  have hb' := hb.only o0 (by simp)
  have HS := hid (same_any (cap := ac) (bap := bc) (TS.of_rs (hA.rs.only0 o0)) (TS.of_rs (hB.rs.only0 o0)) (by have := hA.le; have := hA.max; omega) vo vo2 (td, tn) (td2, tn2))
  obtain ⟨k1, k2, k3, k4, k5⟩ := hb'
  simp only at k1 k2 k3 k4 k5
  have t1 := str_toList nm
  have t2 := str_toList nm2
  clear hA hB hb
  by_cases hn : nm = nm2
  · subst hn
    rw [decide_eq_true rfl, Bool.true_and]
    generalize sameR (ps, vo, td, tn) (ps2, vo2, td2, tn2) = z at *
    unfold sigV at HS
    cases z with
    | true =>
      go_enter Tryz.func122, Tryz.ntmps122
      go_wp2_with fail
      refine HS.out.mono ?_
      rintro e w1 ⟨rfl, ho⟩
      go_wp2_with fail
      go_ret
      exact ⟨rfl, o0.next ho (by simp)⟩
    | false =>
      go_enter Tryz.func122, Tryz.ntmps122
      go_wp2_with fail
      refine HS.out.mono ?_
      rintro e w1 ⟨rfl, ho⟩
      go_wp2_with fail
      go_ret
      exact ⟨rfl, o0.next ho (by simp)⟩
  · rw [decide_eq_false hn, Bool.false_and]
    have hn' : (nm == nm2) = false := by simpa using hn
    clear HS
    go_enter Tryz.func122, Tryz.ntmps122
    go_wp2_with fail
    go_ret
    exact ⟨rfl, o0⟩

set_option maxHeartbeats 2000000 in
theorem index_fd {w : World} {ao : Option Addr} {l : List Fd} {d cap : Nat} (hS : RS w ao (fcs l) d) (hl : l.length ≤ 9223372036854775807) (b : Nat) (n : List UInt8) (hb : w.cell? ⟨b, 1, none⟩ = some (.string (str n))) :
    Calls Tryz.prog 164 #[.slice ao l.length cap, .func (.func 119) #[] #[.pointer (some ⟨b, 0, none⟩)]] w fun e w' => ∃ k : Int, e = .returned (.int .i64 k) ∧ decide (0 ≤ k) = l.any (fun g => decide (g.2.1 = n)) ∧ Only [] w w' := by
  have HS := hid hS
  have HB := hid hb
  clear hS hb
  go_enter Tryz.func164, Tryz.ntmps164
  go_wp2
  go_loopw [8] (fun i wr => ∃ k : Nat, k ≤ l.length ∧ i = .int .i64 (k : Int) ∧ (l.take k).any (fun g => decide (g.2.1 = n)) = false ∧ Only [] w wr) (fun i _ => l.length - (intOf i).toNat)
  case atStart => exact ⟨0, Nat.zero_le _, rfl, by simp, Only.refl _ _⟩
  case round =>
    obtain ⟨k, hk, rfl, hn, ho⟩ := hrel
    by_cases hlt : k < l.length
    · have HA := hid (any_take_succ (fun g => decide (g.2.1 = n)) l k hlt)
      have HG := hid (any_of_get (fun g => decide (g.2.1 = n)) l k hlt)
      have HN := hid hn
      obtain ⟨off, rfl, c0, c1, c2, c3⟩ := fd_cells (HS.out.only0 ho) hlt
      have hb2 : wr.cell? ⟨b, 1, none⟩ = some (.string (str n)) := (ho.cell (p := ⟨b, 1, none⟩) (World.block_lt_of_cell? w _ HB.out) (by simp)).trans HB.out
      generalize l[k] = g at *
      have HC := hid (fd_clo g b n hb2)
      unfold fdV at HC
      clear hb2
      go_wp2_with fail
      refine HC.out.mono ?_
      rintro e w1 ⟨rfl, ho1⟩
      by_cases hq : (fun g => decide (g.2.1 = n)) g = true
      · simp only at hq
        rw [hq]
        go_wp2_with fail
        go_ret
        exact ⟨k, rfl, by rw [HG.out hq]; simp, ho.next ho1 (by simp)⟩
      · have hq' : (fun g => decide (g.2.1 = n)) g = false := by simpa using hq
        simp only at hq'
        rw [hq']
        go_wp2_with fail
        refine ⟨⟨k + 1, by omega, by go_num, ?_, ho.next ho1 (by simp)⟩, by simp [intOf]; omega⟩
        rw [HA.out, HN.out]
        simpa using hq'
    · go_wp2
      go_ret
      rw [List.take_of_length_le (by omega)] at hn
      exact ⟨-1, rfl, by rw [hn]; simp, ho⟩

theorem contains_fd {w : World} {ao : Option Addr} {l : List Fd} {d cap : Nat} (hS : RS w ao (fcs l) d) (hl : l.length ≤ 9223372036854775807) (b : Nat) (n : List UInt8) (hb : w.cell? ⟨b, 1, none⟩ = some (.string (str n))) :
    Calls Tryz.prog 118 #[.slice ao l.length cap, .func (.func 119) #[] #[.pointer (some ⟨b, 0, none⟩)]] w fun e w' => e = .returned (.bool (l.any (fun g => decide (g.2.1 = n)))) ∧ Only [] w w' := by
  have HI := hid (index_fd (cap := cap) hS hl b n hb)
  go_enter Tryz.func118, Tryz.ntmps118
  go_wp2_with (go_at_call 164; refine HI.out.mono ?_; rintro e w' ⟨k, rfl, hk, ho⟩; replace hk := hid hk)
  go_ret
  exact ⟨by rw [← hk.out]; rfl, ho⟩

set_option maxHeartbeats 2000000 in
theorem index_cl {w : World} {R : Rp} {ao : Option Addr} {l : List Cl} {cs : List Value} {d cap : Nat} (hS : RS w ao cs d) (hE : Els 6 (ClC R) cs l) (hl : l.length ≤ 9223372036854775807) (b : Nat) (n : List UInt8) (hb : w.cell? ⟨b, 1, none⟩ = some (.string (str n))) :
    Calls Tryz.prog 57 #[.slice ao l.length cap, .func (.func 23) #[] #[.pointer (some ⟨b, 0, none⟩)]] w fun e w' => ∃ k : Int, e = .returned (.int .i64 k) ∧ decide (0 ≤ k) = l.any (fun g => decide (g.name = n)) ∧ Only [] w w' := by
  have HS := hid hS
  have HE := hid hE
  have HB := hid hb
  clear hS hb hE
  go_enter Tryz.func57, Tryz.ntmps57
  go_wp2
  go_loopw [8] (fun i wr => ∃ k : Nat, k ≤ l.length ∧ i = .int .i64 (k : Int) ∧ (l.take k).any (fun g => decide (g.name = n)) = false ∧ Only [] w wr) (fun i _ => l.length - (intOf i).toNat)
  case atStart => exact ⟨0, Nat.zero_le _, rfl, by simp, Only.refl _ _⟩
  case round =>
    obtain ⟨k, hk, rfl, hn, ho⟩ := hrel
    by_cases hlt : k < l.length
    · have HA := hid (any_take_succ (fun g => decide (g.name = n)) l k hlt)
      have HG := hid (any_of_get (fun g => decide (g.name = n)) l k hlt)
      have HN := hid hn
      obtain ⟨off, vf, vd, vm, rfl, _, c0, c1, c2, c3, c4, c5⟩ := cl_cells (HS.out.only0 ho) HE.out hlt
      have hb2 : wr.cell? ⟨b, 1, none⟩ = some (.string (str n)) := (ho.cell (p := ⟨b, 1, none⟩) (World.block_lt_of_cell? w _ HB.out) (by simp)).trans HB.out
      generalize l[k] = g at *
      have HC := hid (cl_clo g vf vd vm b n hb2)
      unfold clV at HC
      clear hb2
      go_wp2_with fail
      refine HC.out.mono ?_
      rintro e w1 ⟨rfl, ho1⟩
      by_cases hq : (fun g => decide (g.name = n)) g = true
      · simp only at hq
        rw [hq]
        go_wp2_with fail
        go_ret
        exact ⟨k, rfl, by rw [HG.out hq]; simp, ho.next ho1 (by simp)⟩
      · have hq' : (fun g => decide (g.name = n)) g = false := by simpa using hq
        simp only at hq'
        rw [hq']
        go_wp2_with fail
        refine ⟨⟨k + 1, by omega, by go_num, ?_, ho.next ho1 (by simp)⟩, by simp [intOf]; omega⟩
        rw [HA.out, HN.out]
        simpa using hq'
    · go_wp2
      go_ret
      rw [List.take_of_length_le (by omega)] at hn
      exact ⟨-1, rfl, by rw [hn]; simp, ho⟩

theorem contains_cl {w : World} {R : Rp} {ao : Option Addr} {l : List Cl} {cs : List Value} {d cap : Nat} (hS : RS w ao cs d) (hE : Els 6 (ClC R) cs l) (hl : l.length ≤ 9223372036854775807) (b : Nat) (n : List UInt8) (hb : w.cell? ⟨b, 1, none⟩ = some (.string (str n))) :
    Calls Tryz.prog 22 #[.slice ao l.length cap, .func (.func 23) #[] #[.pointer (some ⟨b, 0, none⟩)]] w fun e w' => e = .returned (.bool (l.any (fun g => decide (g.name = n)))) ∧ Only [] w w' := by
  have HI := hid (index_cl (cap := cap) hS hE hl b n hb)
  go_enter Tryz.func22, Tryz.ntmps22
  go_wp2_with (go_at_call 57; refine HI.out.mono ?_; rintro e w' ⟨k, rfl, hk, ho⟩; replace hk := hid hk)
  go_ret
  exact ⟨by rw [← hk.out]; rfl, ho⟩

set_option maxHeartbeats 2000000 in
theorem index_me {w : World} {P Q : Nat → Prop} {ao : Option Addr} {l : List Me} {cs : List Value} {d cap : Nat} (hS : RS w ao cs d) (hE : Els 10 (MeC (SlR w P)) cs l) (hl : l.length ≤ 9223372036854775807) (b : Nat) {vq : Value} {m : Me} (hb : MeBlk w b vq m) (hq : SlV w Q vq m.sig.1.length (tcs m.sig.1)) :
    Calls Tryz.prog 167 #[.slice ao l.length cap, .func (.func 122) #[] #[.pointer (some ⟨b, 0, none⟩)]] w fun e w' => ∃ k : Int, e = .returned (.int .i64 k) ∧ decide (0 ≤ k) = l.any (fun g => decide (g.name = m.name) && sameR g.sig m.sig) ∧ Only [] w w' := by
  have HS := hid hS
  have HE := hid hE
  have HB := hid hb
  have HQ := hid hq
  clear hS hb hE hq
  go_enter Tryz.func167, Tryz.ntmps167
  go_wp2
  go_loopw [8] (fun i wr => ∃ k : Nat, k ≤ l.length ∧ i = .int .i64 (k : Int) ∧ (l.take k).any (fun g => decide (g.name = m.name) && sameR g.sig m.sig) = false ∧ Only [] w wr) (fun i _ => l.length - (intOf i).toNat)
  case atStart => exact ⟨0, Nat.zero_le _, rfl, by simp, Only.refl _ _⟩
  case round =>
    obtain ⟨k, hk, rfl, hn, ho⟩ := hrel
    by_cases hlt : k < l.length
    · have HA := hid (any_take_succ (fun g => decide (g.name = m.name) && sameR g.sig m.sig) l k hlt)
      have HG := hid (any_of_get (fun g => decide (g.name = m.name) && sameR g.sig m.sig) l k hlt)
      have HN := hid hn
      obtain ⟨off, vp, vc, vh, rfl, hM, c0, c1, c2, c3, c4, c5, c6, c7, c8, c9⟩ := me_cells (HS.out.only0 ho) HE.out hlt
      have hb2 := HB.out.only ho (by simp)
      have hp := SlV.only hM.params ho (by simp)
      clear hM
      have hq2 := HQ.out.only ho (by simp)
      generalize l[k] = g at *
      have HC := hid (me_clo (vc := vc) (vh := vh) g hp b hb2 hq2)
      unfold meV at HC
      clear hb2 hp hq2
      go_wp2_with fail
      refine HC.out.mono ?_
      rintro e w1 ⟨rfl, ho1⟩
      by_cases hq : (fun g => decide (g.name = m.name) && sameR g.sig m.sig) g = true
      · simp only at hq
        rw [hq]
        go_wp2_with fail
        go_ret
        exact ⟨k, rfl, by rw [HG.out hq]; simp, ho.next ho1 (by simp)⟩
      · have hq' : (fun g => decide (g.name = m.name) && sameR g.sig m.sig) g = false := by simpa using hq
        simp only at hq'
        rw [hq']
        go_wp2_with fail
        refine ⟨⟨k + 1, by omega, by go_num, ?_, ho.next ho1 (by simp)⟩, by simp [intOf]; omega⟩
        rw [HA.out, HN.out]
        simpa using hq'
    · go_wp2
      go_ret
      rw [List.take_of_length_le (by omega)] at hn
      exact ⟨-1, rfl, by rw [hn]; simp, ho⟩

theorem contains_me {w : World} {P Q : Nat → Prop} {ao : Option Addr} {l : List Me} {cs : List Value} {d cap : Nat} (hS : RS w ao cs d) (hE : Els 10 (MeC (SlR w P)) cs l) (hl : l.length ≤ 9223372036854775807) (b : Nat) {vq : Value} {m : Me} (hb : MeBlk w b vq m) (hq : SlV w Q vq m.sig.1.length (tcs m.sig.1)) :
    Calls Tryz.prog 121 #[.slice ao l.length cap, .func (.func 122) #[] #[.pointer (some ⟨b, 0, none⟩)]] w fun e w' => e = .returned (.bool (l.any (fun g => decide (g.name = m.name) && sameR g.sig m.sig))) ∧ Only [] w w' := by
  have HI := hid (index_me (cap := cap) hS hE hl b hb hq)
  go_enter Tryz.func121, Tryz.ntmps121
  go_wp2_with (go_at_call 167; refine HI.out.mono ?_; rintro e w' ⟨k, rfl, hk, ho⟩; replace hk := hid hk)
  go_ret
  exact ⟨by rw [← hk.out]; rfl, ho⟩

end Go.Proofs.YtildemmkhndhjaaGreatDoor
namespace Go.Proofs.YtildemmkhndhjaaGreatDoor
open Go.RowKit

/-- Begins an instruction there, by a table? -/
def plB (bl : List Bool) (k : Int) : Bool := decide (0 ≤ k) && (decide (k < (bl.length : Int)) && bl.getD k.toNat false)

set_option maxHeartbeats 1000000 in
theorem place_clo {w : World} {b g : Nat} {bl : List Bool} {cap : Nat} {go : Option Addr} (hb : w.cell? ⟨b, 0, none⟩ = some (.slice go bl.length cap)) (hR : RS w go (lcs bl) g) (k : Int) :
    Calls Tryz.prog 198 #[.int .i64 k, .pointer (some ⟨b, 0, none⟩)] w fun e w' => e = .returned (.bool (plB bl k)) ∧ w' = w := by
  unfold plB
  by_cases h0 : 0 ≤ k
  · by_cases h1 : k < (bl.length : Int)
    · obtain ⟨j, rfl⟩ := Int.eq_ofNat_of_zero_le h0
      have hj : j < bl.length := by omega
      obtain ⟨off, rfl, hc⟩ := hR.at (j := j) (by rw [lcs_length]; omega)
      have hcj := hc j _ (lcs_get bl j hj)
      rw [decide_eq_true h0, decide_eq_true h1, Bool.true_and, Bool.true_and, Int.toNat_natCast]
      have hg : bl.getD j false = bl[j] := by simp [List.getD, hj]
      rw [hg]
      generalize bl[j] = z at *
      clear hc hR hg
      go_enter Tryz.func198, Tryz.ntmps198
      go_wp2
      go_ret
      exact ⟨rfl, rfl⟩
    · rw [decide_eq_true h0, decide_eq_false h1, Bool.true_and, Bool.false_and]
      clear hR
      go_enter Tryz.func198, Tryz.ntmps198
      go_wp2
      go_ret
      exact ⟨rfl, rfl⟩
  · rw [decide_eq_false h0, Bool.false_and]
    clear hR
    go_enter Tryz.func198, Tryz.ntmps198
    go_wp2
    go_ret
    exact ⟨rfl, rfl⟩

def handB (bl : List Bool) (h : Hd) : Int :=
  if plB bl h.1 = false ∨ (plB bl h.2.1 = false ∧ h.2.1 ≠ (bl.length : Int)) ∨ h.2.1 ≤ h.1 then 19 else if plB bl h.2.2.1 = true then (if nameOK h.2.2.2 = true then 0 else 14) else 18

set_option maxHeartbeats 4000000 in
theorem checkHandler_any {w : World} {g : Nat} {bl : List Bool} {cap : Nat} {go : Option Addr} (hR : RS w go (lcs bl) g) (h : Hd) (hn : h.2.2.2.length ≤ 9223372036854775807) :
    Calls Tryz.prog 171 #[.slice go bl.length cap, hdV h] w fun e w' => e = .returned (.int .i64 (handB bl h)) ∧ Only [] w w' := by
  obtain ⟨h1, h2, h3, cn⟩ := h
  have o0 := hid (((Only.refl [] w).alloc (.cells #[.slice go bl.length cap] 246)).alloc (.cells #[.int .i64 h1, .int .i64 h2, .int .i64 h3, .string (str cn)] 46))
  have bc := fun W (ho : Only [] w W) (hc : W.cell? ⟨w.heap.size, 0, none⟩ = some (.slice go bl.length cap)) k => place_clo (b := w.heap.size) hc (hR.only0 ho) k
  have cc : ((w.alloc (.cells #[.slice go bl.length cap] 246)).alloc (.cells #[.int .i64 h1, .int .i64 h2, .int .i64 h3, .string (str cn)] 46)).cell? ⟨w.heap.size, 0, none⟩ = some (.slice go bl.length cap) := cell_alloc _ (by rw [cell_new]; rfl)
  have H1 := hid (fun W (ho : Only [] w W) => bc _ o0.out cc h1)
  have H2 := hid (fun W (ho : Only [] w W) => bc _ o0.out cc h2)
  have H3 := hid (fun W (ho : Only [] w W) => bc _ o0.out cc h3)
  have N1 := hid (fun W => name_any cn hn W)
  unfold handB hdV
  simp only
  generalize plB bl h1 = p1 at *
  generalize plB bl h2 = p2 at *
  generalize plB bl h3 = p3 at *
  generalize nameOK cn = b1 at *
  generalize bl.length = n at *
  clear bc hR cc
  cases p1 with
  | false =>
    rw [if_pos (Or.inl rfl)]
    go_enter Tryz.func171, Tryz.ntmps171
    go_wp2_with fail
    refine (H1.out _ o0.out).mono ?_
    rintro e w' ⟨rfl, rfl⟩
    go_wp2_with fail
    go_ret
    exact ⟨rfl, o0.out⟩
  | true =>
    cases p2 with
    | false =>
      by_cases hn : h2 = (n : Int)
      · subst hn
        by_cases hft : (n : Int) ≤ h1
        · rw [if_pos (Or.inr (Or.inr hft))]
          have gft : h1 ≥ (n : Int) := hft
          go_enter Tryz.func171, Tryz.ntmps171
          go_wp2_with fail
          refine (H1.out _ o0.out).mono ?_
          rintro e w' ⟨rfl, rfl⟩
          go_wp2_with fail
          refine (H2.out _ o0.out).mono ?_
          rintro e w' ⟨rfl, rfl⟩
          go_wp2_with fail
          go_ret
          exact ⟨rfl, o0.out⟩
        · rw [if_neg (by simp only [ne_eq, not_true_eq_false, and_false, false_or, Bool.true_eq_false]; omega)]
          have gft : ¬ (h1 ≥ (n : Int)) := hft
          cases p3 with
          | false =>
            rw [if_neg (by simp)]
            go_enter Tryz.func171, Tryz.ntmps171
            go_wp2_with fail
            refine (H1.out _ o0.out).mono ?_
            rintro e w' ⟨rfl, rfl⟩
            go_wp2_with fail
            refine (H2.out _ o0.out).mono ?_
            rintro e w' ⟨rfl, rfl⟩
            go_wp2_with fail
            refine (H3.out _ o0.out).mono ?_
            rintro e w' ⟨rfl, rfl⟩
            go_wp2_with fail
            go_ret
            exact ⟨rfl, o0.out⟩
          | true =>
            rw [if_pos rfl]
            cases b1 with
            | false =>
              rw [if_neg (by simp)]
              go_enter Tryz.func171, Tryz.ntmps171
              go_wp2_with fail
              refine (H1.out _ o0.out).mono ?_
              rintro e w' ⟨rfl, rfl⟩
              go_wp2_with fail
              refine (H2.out _ o0.out).mono ?_
              rintro e w' ⟨rfl, rfl⟩
              go_wp2_with fail
              refine (H3.out _ o0.out).mono ?_
              rintro e w' ⟨rfl, rfl⟩
              go_wp2_with fail
              refine (N1.out _).mono ?_
              rintro e w' ⟨rfl, rfl⟩
              go_wp2_with fail
              go_ret
              exact ⟨rfl, o0.out⟩
            | true =>
              rw [if_pos rfl]
              go_enter Tryz.func171, Tryz.ntmps171
              go_wp2_with fail
              refine (H1.out _ o0.out).mono ?_
              rintro e w' ⟨rfl, rfl⟩
              go_wp2_with fail
              refine (H2.out _ o0.out).mono ?_
              rintro e w' ⟨rfl, rfl⟩
              go_wp2_with fail
              refine (H3.out _ o0.out).mono ?_
              rintro e w' ⟨rfl, rfl⟩
              go_wp2_with fail
              refine (N1.out _).mono ?_
              rintro e w' ⟨rfl, rfl⟩
              go_wp2_with fail
              go_ret
              exact ⟨rfl, o0.out⟩
      · rw [if_pos (Or.inr (Or.inl ⟨rfl, hn⟩))]
        have hn' : (h2 == (n : Int)) = false := by simpa using hn
        go_enter Tryz.func171, Tryz.ntmps171
        go_wp2_with fail
        refine (H1.out _ o0.out).mono ?_
        rintro e w' ⟨rfl, rfl⟩
        go_wp2_with fail
        refine (H2.out _ o0.out).mono ?_
        rintro e w' ⟨rfl, rfl⟩
        go_wp2_with fail
        go_ret
        exact ⟨rfl, o0.out⟩
    | true =>
      by_cases hft : h2 ≤ h1
      · rw [if_pos (Or.inr (Or.inr hft))]
        have gft : h1 ≥ h2 := hft
        go_enter Tryz.func171, Tryz.ntmps171
        go_wp2_with fail
        refine (H1.out _ o0.out).mono ?_
        rintro e w' ⟨rfl, rfl⟩
        go_wp2_with fail
        refine (H2.out _ o0.out).mono ?_
        rintro e w' ⟨rfl, rfl⟩
        go_wp2_with fail
        go_ret
        exact ⟨rfl, o0.out⟩
      · rw [if_neg (by simp only [Bool.true_eq_false, false_and, false_or]; omega)]
        have gft : ¬ (h1 ≥ h2) := hft
        cases p3 with
        | false =>
          rw [if_neg (by simp)]
          go_enter Tryz.func171, Tryz.ntmps171
          go_wp2_with fail
          refine (H1.out _ o0.out).mono ?_
          rintro e w' ⟨rfl, rfl⟩
          go_wp2_with fail
          refine (H2.out _ o0.out).mono ?_
          rintro e w' ⟨rfl, rfl⟩
          go_wp2_with fail
          refine (H3.out _ o0.out).mono ?_
          rintro e w' ⟨rfl, rfl⟩
          go_wp2_with fail
          go_ret
          exact ⟨rfl, o0.out⟩
        | true =>
          rw [if_pos rfl]
          cases b1 with
          | false =>
            rw [if_neg (by simp)]
            go_enter Tryz.func171, Tryz.ntmps171
            go_wp2_with fail
            refine (H1.out _ o0.out).mono ?_
            rintro e w' ⟨rfl, rfl⟩
            go_wp2_with fail
            refine (H2.out _ o0.out).mono ?_
            rintro e w' ⟨rfl, rfl⟩
            go_wp2_with fail
            refine (H3.out _ o0.out).mono ?_
            rintro e w' ⟨rfl, rfl⟩
            go_wp2_with fail
            refine (N1.out _).mono ?_
            rintro e w' ⟨rfl, rfl⟩
            go_wp2_with fail
            go_ret
            exact ⟨rfl, o0.out⟩
          | true =>
            rw [if_pos rfl]
            go_enter Tryz.func171, Tryz.ntmps171
            go_wp2_with fail
            refine (H1.out _ o0.out).mono ?_
            rintro e w' ⟨rfl, rfl⟩
            go_wp2_with fail
            refine (H2.out _ o0.out).mono ?_
            rintro e w' ⟨rfl, rfl⟩
            go_wp2_with fail
            refine (H3.out _ o0.out).mono ?_
            rintro e w' ⟨rfl, rfl⟩
            go_wp2_with fail
            refine (N1.out _).mono ?_
            rintro e w' ⟨rfl, rfl⟩
            go_wp2_with fail
            go_ret
            exact ⟨rfl, o0.out⟩

end Go.Proofs.YtildemmkhndhjaaGreatDoor
namespace Go.Proofs.YtildemmkhndhjaaGreatDoor
open Go.RowKit

set_option maxHeartbeats 4000000 in
theorem checkField_any {w : World} {ao : Option Addr} {l : List Fd} {d cap : Nat} (hS : RS w ao (fcs l) d) (hl : l.length ≤ 9223372036854775807) (f : Fd) (h1 : f.2.1.length ≤ 9223372036854775807) (h2 : f.2.2.2.length ≤ 9223372036854775807) :
    Calls Tryz.prog 50 #[.slice ao l.length cap, fdV f] w fun e w' => e = .returned (bareV (fieldE l f)) ∧ Only [] w w' := by
  obtain ⟨fl, nm, td, tn⟩ := f
  simp only at h1 h2
  have o0 := (Only.refl [] w).alloc (.cells #[.int .i64 fl, .string (str nm), .int .i64 td, .string (str tn)] 44)
  have N1 := name_any nm h1 (w.alloc (.cells #[.int .i64 fl, .string (str nm), .int .i64 td, .string (str tn)] 44))
  have K1 := check_any (td, tn) h2 (w.alloc (.cells #[.int .i64 fl, .string (str nm), .int .i64 td, .string (str tn)] 44))
  have bc : (w.alloc (.cells #[.int .i64 fl, .string (str nm), .int .i64 td, .string (str tn)] 44)).cell? ⟨w.heap.size, 1, none⟩ = some (.string (str nm)) := by rw [cell_new]; rfl
  have C1 := fun W (ho : Only [] (w.alloc (.cells #[.int .i64 fl, .string (str nm), .int .i64 td, .string (str tn)] 44)) W) => contains_fd (cap := cap) (hS.only0 (o0.next ho (by simp))) hl w.heap.size nm ((ho.cell (p := ⟨w.heap.size, 1, none⟩) (by simp) (by simp)).trans bc)
  unfold fieldE fdV
  unfold tyV at K1
  simp only
  generalize nameOK nm = b1 at *
  generalize tyCheck (td, tn) = te at *
  generalize (l.any fun g => decide (g.2.1 = nm)) = z at *
  replace N1 := hid N1
  replace K1 := hid K1
  replace C1 := hid C1
  clear bc
  by_cases hf : fl ≠ 0 ∧ fl ≠ 4
  · rw [if_pos hf]
    obtain ⟨g0, g4⟩ := hf
    have g0' : (fl == 0) = false := by simpa using g0
    have g4' : (fl == 4) = false := by simpa using g4
    have g0n : (fl != 0) = true := by simpa using g0
    have g4n : (fl != 4) = true := by simpa using g4
    go_enter Tryz.func50, Tryz.ntmps50
    go_wp2_with fail
    go_ret
    exact ⟨rfl, o0⟩
  · rw [if_neg hf]
    have hf' : fl = 0 ∨ fl = 4 := by omega
    clear hf
    cases b1 with
    | false =>
      rw [if_neg (by simp)]
      rcases hf' with rfl | rfl
      all_goals
        go_enter Tryz.func50, Tryz.ntmps50
        go_wp2_with fail
        refine N1.out.mono ?_
        rintro e w' ⟨rfl, rfl⟩
        go_wp2_with fail
        go_ret
        exact ⟨rfl, o0⟩
    | true =>
      rw [if_pos rfl]
      by_cases he : te = 0
      · subst he
        rw [if_pos rfl]
        cases z with
        | true =>
          rw [if_pos rfl]
          rcases hf' with rfl | rfl
          all_goals
            go_enter Tryz.func50, Tryz.ntmps50
            go_wp2_with fail
            refine N1.out.mono ?_
            rintro e w' ⟨rfl, rfl⟩
            go_wp2_with fail
            refine K1.out.mono ?_
            rintro e w1 ⟨rfl, ho1⟩
            go_wp2_with fail
            refine (C1.out _ ho1).mono ?_
            rintro e w2 ⟨rfl, ho2⟩
            go_wp2_with fail
            go_ret
            exact ⟨rfl, (o0.next ho1 (by simp)).next ho2 (by simp)⟩
        | false =>
          rw [if_neg (by simp)]
          rcases hf' with rfl | rfl
          all_goals
            go_enter Tryz.func50, Tryz.ntmps50
            go_wp2_with fail
            refine N1.out.mono ?_
            rintro e w' ⟨rfl, rfl⟩
            go_wp2_with fail
            refine K1.out.mono ?_
            rintro e w1 ⟨rfl, ho1⟩
            go_wp2_with fail
            refine (C1.out _ ho1).mono ?_
            rintro e w2 ⟨rfl, ho2⟩
            go_wp2_with fail
            go_ret
            exact ⟨rfl, (o0.next ho1 (by simp)).next ho2 (by simp)⟩
      · rw [if_neg he]
        have he' : (te == 0) = false := by simpa using he
        have hbv : bareV te = .iface 63 (.int .i64 te) := by unfold bareV; rw [if_neg he]
        rw [hbv]
        clear hbv
        rcases hf' with rfl | rfl
        all_goals
          go_enter Tryz.func50, Tryz.ntmps50
          go_wp2_with fail
          refine N1.out.mono ?_
          rintro e w' ⟨rfl, rfl⟩
          go_wp2_with fail
          refine K1.out.mono ?_
          rintro e w1 ⟨rfl, ho1⟩
          go_wp2_with fail
          go_ret
          exact ⟨rfl, o0.next ho1 (by simp)⟩

theorem meBlk_new (w : World) (m : Me) (vp vc vh : Value) : MeBlk (w.alloc (.cells #[.int .i64 m.flags, .string (str m.name), vp, .bool m.sig.2.1, .int .i64 m.sig.2.2.1, .string (str m.sig.2.2.2), .int .i64 m.stack, .int .i64 m.locals, vc, vh] 41)) w.heap.size vp m :=
  ⟨by rw [cell_new]; rfl, by rw [cell_new]; rfl, by rw [cell_new]; rfl, by rw [cell_new]; rfl, by rw [cell_new]; rfl⟩

set_option maxHeartbeats 4000000 in
theorem checkHeading_any {w : World} {P Q : Nat → Prop} {ao : Option Addr} {l : List Me} {cs : List Value} {d cap : Nat} (hS : RS w ao cs d) (hE : Els 10 (MeC (SlR w P)) cs l) (hl : l.length ≤ 9223372036854775807) (m : Me) (hF : MeFit m) {vp vc vh : Value} (hq : SlV w Q vp m.sig.1.length (tcs m.sig.1)) :
    Calls Tryz.prog 53 #[.slice ao l.length cap, meV vp vc vh m] w fun e w' => e = .returned (bareV (headingE l m)) ∧ Only [] w w' := by
  have hq0 := hq
  obtain ⟨po, pc, pd, rfl, hP⟩ := hq
  have hB0 := meBlk_new w m (.slice po m.sig.1.length pc) vc vh
  have o0 := (Only.refl [] w).alloc (.cells #[.int .i64 m.flags, .string (str m.name), .slice po m.sig.1.length pc, .bool m.sig.2.1, .int .i64 m.sig.2.2.1, .string (str m.sig.2.2.2), .int .i64 m.stack, .int .i64 m.locals, vc, vh] 41)
  have C1 := fun W (ho : Only [] (w.alloc (.cells #[.int .i64 m.flags, .string (str m.name), .slice po m.sig.1.length pc, .bool m.sig.2.1, .int .i64 m.sig.2.2.1, .string (str m.sig.2.2.2), .int .i64 m.stack, .int .i64 m.locals, vc, vh] 41)) W) =>
    contains_me (P := P) (Q := Q) (cap := cap) (hS.only0 (o0.next ho (by simp))) (hE.imp fun _ _ _ h => h.imp (slr_only (o0.next ho (by simp)) (by simp))) hl w.heap.size (hB0.only ho (by simp)) (hq0.only (o0.next ho (by simp)) (by simp))
  have N1 := method_any m.name hF.name (w.alloc (.cells #[.int .i64 m.flags, .string (str m.name), .slice po m.sig.1.length pc, .bool m.sig.2.1, .int .i64 m.sig.2.2.1, .string (str m.sig.2.2.2), .int .i64 m.stack, .int .i64 m.locals, vc, vh] 41))
  have T1 := sigText_any (cap := pc) (TS.of_rs (hP.rs.only0 o0)) (by have := hP.le; have := hP.max; omega) hF.params m.sig.2.1 m.sig.2.2 hF.res
  unfold headingE
  have hst : sigCheck m.sig.1 m.sig.2.1 m.sig.2.2 = 0 → stR m.sig.1 m.sig.2.1 m.sig.2.2 = sigText m.sig.1 m.sig.2.1 m.sig.2.2 := fun h => by unfold stR; rw [if_pos h]
  clear hS hE hq0 hP hB0 hF
  obtain ⟨fl, nm, ⟨ps, vo, td, tn⟩, st, lo, code, hs⟩ := m
  unfold meV
  unfold sigV at T1
  simp only at C1 N1 T1 o0 hst ⊢
  generalize methodOK nm = b1 at *
  generalize sigCheck ps vo (td, tn) = se at *
  generalize sigText ps vo (td, tn) = tx at *
  generalize stR ps vo (td, tn) = sx at *
  generalize (l.any fun n => decide (n.name = nm) && sameR n.sig (ps, vo, td, tn)) = z at *
  have tsz := str_size sx
  replace N1 := hid N1
  replace T1 := hid T1
  replace C1 := hid C1
  by_cases hf : fl ≠ 0 ∧ fl ≠ 2 ∧ fl ≠ 4
  · rw [if_pos hf]
    obtain ⟨g0, g2, g4⟩ := hf
    have g0' : (fl == 0) = false := by simpa using g0
    have g2' : (fl == 2) = false := by simpa using g2
    have g4' : (fl == 4) = false := by simpa using g4
    go_enter Tryz.func53, Tryz.ntmps53
    go_wp2_with fail
    go_ret
    exact ⟨rfl, o0⟩
  · rw [if_neg hf]
    have hf' : fl = 0 ∨ fl = 2 ∨ fl = 4 := by omega
    clear hf
    cases b1 with
    | false =>
      rw [if_neg (by simp)]
      rcases hf' with rfl | rfl | rfl
      all_goals
        go_enter Tryz.func53, Tryz.ntmps53
        go_wp2_with fail
        refine N1.out.mono ?_
        rintro e w' ⟨rfl, rfl⟩
        go_wp2_with fail
        go_ret
        exact ⟨rfl, o0⟩
    | true =>
      rw [if_pos rfl]
      by_cases he : se = 0
      · subst he
        rw [if_pos rfl]
        obtain rfl := hst rfl
        by_cases hx : 255 < sx.length
        · rw [if_pos hx]
          have gx : (255 : Int) < ((str sx).size : Int) := by omega
          rcases hf' with rfl | rfl | rfl
          all_goals
            go_enter Tryz.func53, Tryz.ntmps53
            go_wp2_with fail
            refine N1.out.mono ?_
            rintro e w' ⟨rfl, rfl⟩
            go_wp2_with fail
            refine T1.out.mono ?_
            rintro e w1 ⟨rfl, ho1⟩
            go_wp2_with fail
            go_ret
            exact ⟨rfl, o0.next ho1 (by simp)⟩
        · rw [if_neg hx]
          have gx : ¬ (255 : Int) < ((str sx).size : Int) := by omega
          cases z with
          | true =>
            rw [if_pos rfl]
            rcases hf' with rfl | rfl | rfl
            all_goals
              go_enter Tryz.func53, Tryz.ntmps53
              go_wp2_with fail
              refine N1.out.mono ?_
              rintro e w' ⟨rfl, rfl⟩
              go_wp2_with fail
              refine T1.out.mono ?_
              rintro e w1 ⟨rfl, ho1⟩
              go_wp2_with fail
              refine (C1.out _ ho1).mono ?_
              rintro e w2 ⟨rfl, ho2⟩
              go_wp2_with fail
              go_ret
              exact ⟨rfl, (o0.next ho1 (by simp)).next ho2 (by simp)⟩
          | false =>
            rw [if_neg (by simp)]
            rcases hf' with rfl | rfl | rfl
            all_goals
              go_enter Tryz.func53, Tryz.ntmps53
              go_wp2_with fail
              refine N1.out.mono ?_
              rintro e w' ⟨rfl, rfl⟩
              go_wp2_with fail
              refine T1.out.mono ?_
              rintro e w1 ⟨rfl, ho1⟩
              go_wp2_with fail
              refine (C1.out _ ho1).mono ?_
              rintro e w2 ⟨rfl, ho2⟩
              go_wp2_with fail
              go_ret
              exact ⟨rfl, (o0.next ho1 (by simp)).next ho2 (by simp)⟩
      · rw [if_neg he]
        have he' : (se == 0) = false := by simpa using he
        have hbv : bareV se = .iface 63 (.int .i64 se) := by unfold bareV; rw [if_neg he]
        rw [hbv]
        clear hbv
        rcases hf' with rfl | rfl | rfl
        all_goals
          go_enter Tryz.func53, Tryz.ntmps53
          go_wp2_with fail
          refine N1.out.mono ?_
          rintro e w' ⟨rfl, rfl⟩
          go_wp2_with fail
          refine T1.out.mono ?_
          rintro e w1 ⟨rfl, ho1⟩
          go_wp2_with fail
          go_ret
          exact ⟨rfl, o0.next ho1 (by simp)⟩

end Go.Proofs.YtildemmkhndhjaaGreatDoor
