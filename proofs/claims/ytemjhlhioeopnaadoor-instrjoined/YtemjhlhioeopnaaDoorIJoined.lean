/-
  The walk of InstrJoined: it answers true of whatever two rows of bytes, and writes nothing that was there. The table of words holds the words.
-/
import Derived.Test.YtemjhlhioeopnaaDoorIReads
namespace Go.Proofs.YtemjhlhioeopnaaDoor
open Go.RowKit

theorem joined_pure (a b : List UInt8) :
    ((allR a).2.2 ≠ 0 → (allR a).2.2 = 11 ∨ ((allR (a ++ b)).2.2 = (allR a).2.2 ∧ (allR (a ++ b)).2.1 = (allR a).2.1)) ∧
    ((allR a).2.2 = 0 → (allR b).2.2 ≠ 0 → (allR (a ++ b)).2.2 = (allR b).2.2 ∧ (allR (a ++ b)).2.1 = (a.length : Int) + (allR b).2.1 ∧ (allR (a ++ b)).1 = []) ∧
    ((allR a).2.2 = 0 → (allR b).2.2 = 0 → (allR (a ++ b)).2.2 = 0 ∧ (allR (a ++ b)).1 = (allR a).1 ++ (allR b).1.map (shiftI a.length)) := by
  have e1 : allR a = allL (a ++ b).length 0 a := allL_fuel _ _ _ _ (Nat.le_refl _) (by simp)
  have e2 : allR b = allL (a ++ b).length 0 b := allL_fuel _ _ _ _ (Nat.le_refl _) (by simp)
  have e3 : allR (a ++ b) = allL (a ++ b).length 0 (a ++ b) := rfl
  have hs : (allR a).2.2 = 0 → allR (a ++ b) = joinR (allR a).1 (shiftR a.length (allR b)) := by
    intro h
    rw [e3, allL_append _ a.length 0 a b (Nat.le_refl _) (Nat.le_refl _) (by rw [← e1]; exact h), ← e1, e2, allL_shift _ b.length a.length 0 b (Nat.le_refl _) (by simp)]
  refine ⟨fun h => ?_, fun h1 h2 => ?_, fun h1 h2 => ?_⟩
  · have hp := (allL_place a.length a.length 0 a (Nat.le_refl _) (Nat.le_refl _) h).2.2.2
    rcases hp with hp | hp
    · exact .inl hp
    · right
      have := allL_append17 (a ++ b).length a.length 0 a b (Nat.le_refl _) (Nat.le_refl _) (by rw [← e1]; exact hp)
      rw [e3, this, ← e1]
      exact ⟨rfl, rfl⟩
  · rw [hs h1]
    have hz : (shiftR a.length (allR b)).2.2 ≠ 0 := h2
    rw [joinR_no hz]
    refine ⟨rfl, ?_, rfl⟩
    simp only [shiftR]
    rw [if_neg h2]
    omega
  · rw [hs h1]
    have hz : (shiftR a.length (allR b)).2.2 = 0 := h2
    rw [joinR_ok hz]
    exact ⟨rfl, rfl⟩

/-- The first of a row of instructions. -/
theorem slice_hiI (ao : Option Addr) (len cap m : Nat) (hm : m ≤ cap) (w : World) :
    (Instr.slice 37 (.slice ao len cap) none (some (.int .i64 (m : Int))) none).run Tryd.prog w = .ok (.slice ao m cap) w := by
  obtain ⟨i0, hi, hz0, hz1, hz2⟩ := elIn.parts
  simp [Instr.slice, run_underlying Tryd.underlying37, Instr.sliceBounds, run_sliceBound, sizeOf, typeInfo, hi, hm]
  cases ao <;> simp [Addr.add]

set_option maxHeartbeats 1000000 in
set_option maxRecDepth 100000 in
theorem joined_any {w : World} (hL : Laid w) {ao bo : Option Addr} {a b : List UInt8} {d k cap bap : Nat} (hA : RS w ao (bcs a) d) (hac : a.length ≤ cap) (hal : cap ≤ 9223372036854775807) (han : ao = none → cap = 0)
    (hB : RS w bo (bcs b) k) (hbc : b.length ≤ bap) (hbl : bap ≤ 9223372036854775807) (hbn : bo = none → bap = 0) :
    Calls Tryd.prog 7 #[.slice ao a.length cap, .slice bo b.length bap] w fun e w' => e = .returned (.bool true) ∧ Only [] w w' := by
  have HK := hid (known_any hL)
  clear hL
  by_cases h1 : 2000 < a.length
  · have g1 : (2000 < (a.length : Int)) := by omega
    clear hB hA
    go_enter Tryd.func7, Tryd.ntmps7
    go_wp2_with (go_at_call 9; refine HK.out.mono ?_; rintro e w1 ⟨rfl, ho1⟩)
    go_ret
    exact ⟨rfl, ho1⟩
  have g1 : ¬ (2000 < (a.length : Int)) := by omega
  by_cases h2 : 2000 < b.length
  · have g2 : (2000 < (b.length : Int)) := by omega
    clear hB hA
    go_enter Tryd.func7, Tryd.ntmps7
    go_wp2_with (go_at_call 9; refine HK.out.mono ?_; rintro e w1 ⟨rfl, ho1⟩)
    go_ret
    exact ⟨rfl, ho1⟩
  have g2 : ¬ (2000 < (b.length : Int)) := by omega
  have HA := fun W (hW : Only [] w W) => all_any (hA.only0 hW) hac hal (by omega)
  have HB := fun W (hW : Only [] w W) => all_any (hB.only0 hW) hbc hbl (by omega)
  have HC := fun W (z : Option Addr) (c q : Nat) (hR : RS W z (bcs (a ++ b)) q) (h1 : (a ++ b).length ≤ c) (h2 : c ≤ 9223372036854775807) => all_any hR h1 h2 (by simp; omega)
  have hp := joined_pure a b
  have hla := all_len a
  have hlb := all_len b
  have hpa := fun h => (@all_place b h).2
  have hev : ∀ i ∈ (allR b).1, 0 ≤ i.1 ∧ i.1 ≤ 2000 := fun i hi => by have := all_each b i hi; omega
  generalize allR a = X at *
  generalize allR b = Y at *
  generalize allR (a ++ b) = Z at *
  obtain ⟨xl, xa, xe⟩ := X
  obtain ⟨yl, ya, ye⟩ := Y
  obtain ⟨zl, za, ze⟩ := Z
  simp only at hp hla hlb hpa
  replace HA := hid HA
  replace HB := hid HB
  replace HC := hid HC
  replace hA := hid hA
  replace hB := hid hB
  replace hp := hid hp
  replace hpa := hid hpa
  replace hev := hid hev
  go_enter Tryd.func7, Tryd.ntmps7
  go_wp2_with (first | (go_at_call 9; refine HK.out.mono ?_; rintro e w1 ⟨rfl, ho1⟩) | fail)
  refine (HA.out _ ho1).mono ?_
  rintro e w2 ⟨ao2, cap2, rfl, hown2, ho2⟩
  have o2 := hid (ho1.next ho2 (by simp))
  obtain ⟨d2, hd2⟩ : ∃ d, RS w2 ao2 (qcs xl) d := ⟨_, (RS.of_owns hown2).1⟩
  have R2 := hid hd2
  clear HA HK hown2
  go_wp2_with fail
  refine (HB.out _ o2.out).mono ?_
  rintro e w3 ⟨ao3, cap3, rfl, hown3, ho3⟩
  have o3 := hid (o2.out.next ho3 (by simp))
  obtain ⟨d3, hd3⟩ : ∃ d, RS w3 ao3 (qcs yl) d := ⟨_, (RS.of_owns hown3).1⟩
  have R3 := hid hd3
  clear HB hown3
  go_wp2_with (first | (at_builtin; refine wpList_append_any (ys := bcs b) rfl (.tmp 41) (.tmp 42) elByte Tryd.underlying33 rfl rfl rfl own4.out ((hB.out.only0 o3.out).only0 q4.out) (bcs_length _) (bcs_one _) hbn (by omega) (by have := q4.out.size; omega) ?_; rintro ao5 cap5 w5 hA5) | (at_builtin; refine wpList_append_any (ys := bcs a) rfl (.tmp 39) (.tmp 40) elByte Tryd.underlying33 rfl rfl rfl (rows_made w3 5 1 rfl) ((hA.out.only0 o3.out).only0 ((Only.refl [] w3).alloc _)) (bcs_length _) (bcs_one _) han (by omega) (by simp) ?_; rintro ao4 cap4 w4 hA4; have q4 := hid (hA4.next (rows_made w3 5 1 rfl) ((Only.refl [] w3).alloc _)); have own4 := hA4.own; simp only [Nat.zero_add, List.nil_append] at own4; replace own4 := hid own4) | fail)
  have q5 := hid (hA5.next own4.out q4.out)
  have own5 := hA5.own
  rw [← bcs_append] at own5
  have R5 := RS.of_owns own5
  have HC5 := HC.out w5 ao5 cap5 _ R5.1 (by have := R5.2.1; simpa using this) (by have := R5.2.2.1; simp only [maxLen] at this; omega)
  rw [List.length_append] at HC5
  refine HC5.mono ?_
  rintro e w6 ⟨ao6, cap6, rfl, hown6, ho6⟩
  have o6 := hid (q5.out.next ho6 (by simp))
  obtain ⟨d6, hd6, hc6⟩ : ∃ d, RS w6 ao6 (qcs zl) d ∧ zl.length ≤ cap6 := ⟨_, (RS.of_owns hown6).1, (RS.of_owns hown6).2.1⟩
  have R6 := hid hd6
  have Ra := hid (((R2.out.only0 ho3).only0 o6.out))
  have Rb := hid (R3.out.only0 o6.out)
  have of := hid (o3.out.next o6.out (by simp))
  clear hd2 hd3 hd6 HC hown6 hA4 hA5 own4 own5 R5 HC5 R2 R3 q4 q5 ho6
  by_cases hx : xe = 0
  · subst hx
    by_cases hy : ye = 0
    · subst hy
      obtain ⟨rfl, rfl⟩ := hp.out.2.2 rfl rfl
      clear hp hpa
      have hR6 := hid R6.out
      have hsl := slice_hiI ao6 (xl.length + yl.length) cap6 xl.length (by simp at hc6; omega)
      clear R6 hc6
      go_wp2
      go_loopw [14] (fun i wr => ∃ j : Nat, j ≤ yl.length ∧ i = .int .i64 (j : Int) ∧ Only [] w6 wr) (fun i _ => yl.length - (intOf i).toNat)
      case atStart => exact ⟨0, by omega, rfl, Only.refl _ _⟩
      case round =>
        obtain ⟨j, hj, rfl, hor⟩ := hrel
        by_cases hlt : j < yl.length
        · have g3 : ((j : Int) < (yl.length : Int)) := by omega
          obtain ⟨off, rfl, y0, y1, y2, y3⟩ := (Rb.out.only0 hor).inAt hlt
          obtain ⟨off2, rfl, hz⟩ := (hR6.out.only0 hor).inAt (j := xl.length + j) (by simp; omega)
          have hget : (xl ++ yl.map (shiftI a.length))[xl.length + j]'(by simp; omega) = shiftI a.length yl[j] := by simp
          rw [hget] at hz
          obtain ⟨z0, z1, z2, z3⟩ := hz
          obtain ⟨v1, v2⟩ := hev.out yl[j] (List.getElem_mem hlt)
          clear Ra Rb hR6 hev hget
          generalize yl[j] = i at *
          obtain ⟨p, o, n, s⟩ := i
          simp only [shiftI] at y0 y1 y2 y3 z0 z1 z2 z3 v1 v2
          have hq := neq_instr (p + (a.length : Int), o, n, s) (p + (a.length : Int), o, n, s)
          simp only [inV, decide_true, Bool.not_true] at hq
          have z0' := fun o => cell_alloc o z0
          have z1' := fun o => cell_alloc o z1
          have z2' := fun o => cell_alloc o z2
          have z3' := fun o => cell_alloc o z3
          have g4 : ((xl.length : Int) + (j : Int) < (xl.length : Int) + (yl.length : Int)) := by omega
          go_wp2_with fail
          go_quiet (fail)
          go_wp2
          exact ⟨⟨j + 1, by omega, by go_num, (hor.alloc _).drewN nq⟩, by simp [intOf]; omega⟩
        · have g3 : ¬ ((j : Int) < (yl.length : Int)) := by omega
          have HS := same_any (cap := cap6) (bap := cap2) (l := xl) (m := xl) (by have := (hR6.out.only0 hor).take (xl.length * 4); rw [qcs_append, ← qcs_length, List.take_left] at this; exact this) (Ra.out.only0 hor) (by omega)
          simp only [decide_true] at HS
          replace HS := hid HS
          clear hR6 Ra Rb hev
          go_wp2_with (go_at_call 23; refine HS.out.mono ?_; rintro e w7 ⟨rfl, ho7⟩)
          go_ret
          exact ⟨rfl, (of.out.next hor (by simp)).next ho7 (by simp)⟩
    · have gy : (ye == 0) = false := by simpa using hy
      obtain ⟨u1, u2⟩ := hpa.out hy
      obtain ⟨rfl, rfl, rfl⟩ := hp.out.2.1 rfl hy
      clear hp hpa
      go_wp2
      go_ret
      exact ⟨by simp, of.out⟩
  · have gx : (xe == 0) = false := by simpa using hx
    rcases hp.out.1 hx with h | ⟨h, h'⟩
    · subst h
      clear hp hpa
      go_wp2
      go_ret
      exact ⟨by simp, of.out⟩
    · subst h
      subst h'
      by_cases h11 : ze = 11
      · subst h11
        clear hp hpa
        go_wp2
        go_ret
        exact ⟨by simp, of.out⟩
      · have g11 : (ze == 11) = false := by simpa using h11
        clear hp hpa
        go_wp2
        go_ret
        exact ⟨by simp, of.out⟩

theorem joined_walk {w : World} (hL : Laid w) {ao bo : Option Addr} {a b : List UInt8} {d k cap bap : Nat} (hA : RS w ao (bcs a) d) (hac : a.length ≤ cap) (hal : cap ≤ 9223372036854775807) (han : ao = none → cap = 0)
    (hB : RS w bo (bcs b) k) (hbc : b.length ≤ bap) (hbl : bap ≤ 9223372036854775807) (hbn : bo = none → bap = 0) :
    Calls Tryd.prog 7 #[.slice ao a.length cap, .slice bo b.length bap] w fun e w' => e = .returned (.bool true) ∧ Below w.heap.size w w' :=
  (joined_any hL hA hac hal han hB hbc hbl hbn).mono fun _ _ h => ⟨h.1, h.2.below (Nat.le_refl _) (by simp)⟩

end Go.Proofs.YtemjhlhioeopnaaDoor
