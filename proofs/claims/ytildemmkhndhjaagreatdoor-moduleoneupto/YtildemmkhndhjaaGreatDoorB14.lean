/-
  What the proof leans on, part 14 of 28. The conditions stand in each theorem.
-/
import Derived.Test.YtildemmkhndhjaaGreatDoorB11
import Derived.Test.YtildemmkhndhjaaGreatDoorB12
import Derived.Test.YtildemmkhndhjaaGreatDoorB10
import Derived.Test.YtildemmkhndhjaaGreatDoorB08
import Derived.Test.YtildemmkhndhjaaGreatDoorB13
import Derived.Test.YtildemmkhndhjaaGreatDoorB05
import Derived.Test.YtildemmkhndhjaaGreatDoorB06
namespace Go.Proofs.YtildemmkhndhjaaGreatDoor
open Go.RowKit

/-- Begins an instruction there, by a table? -/
def plB (bl : List Bool) (k : Int) : Bool := decide (0 ≤ k) && (decide (k < (bl.length : Int)) && bl.getD k.toNat false)

set_option maxHeartbeats 1000000 in
theorem place_clo {w : World} {b g : Nat} {bl : List Bool} {cap : Nat} {go : Option Addr} (hb : w.cell? ⟨b, 0, none⟩ = some (.slice go bl.length cap)) (hR : RS w go (lcs bl) g) (k : Int) :
  Calls Tryz.prog 198 #[.int .i64 k, .pointer (some ⟨b, 0, none⟩)] w fun e w' => e = .returned (.bool (plB bl k)) ∧ w' = w := by
 unfold plB
 by_cases h0 : 0 ≤ k
 ·by_cases h1 : k < (bl.length : Int)
  ·obtain ⟨j, rfl⟩ := Int.eq_ofNat_of_zero_le h0
   have hj : j < bl.length := by omega
   obtain ⟨off, rfl, hc⟩ := hR.at (j := j) (by rw [lcs_length]; omega)
   have hcj := hc j _ (lcs_get bl j hj)
   rw [decide_eq_true h0, decide_eq_true h1, Bool.true_and, Bool.true_and, Int.toNat_natCast]
   have hg : bl.getD j false = bl[j] := by simp [List.getD, hj]
   rw [hg]
   generalize bl[j] = z at *
   clear hc hR hg
   go_enter Tryz.func198, Tryz.ntmps198
   go_wp2
   go_ret
   exact ⟨rfl, rfl⟩
  ·rw [decide_eq_true h0, decide_eq_false h1, Bool.true_and, Bool.false_and]
   clear hR
   go_enter Tryz.func198, Tryz.ntmps198
   go_wp2
   go_ret
   exact ⟨rfl, rfl⟩
 ·rw [decide_eq_false h0, Bool.false_and]
  clear hR
  go_enter Tryz.func198, Tryz.ntmps198
  go_wp2
  go_ret
  exact ⟨rfl, rfl⟩

def handB (bl : List Bool) (h : Hd) : Int :=
 if plB bl h.1 = false ∨ (plB bl h.2.1 = false ∧ h.2.1 ≠ (bl.length : Int)) ∨ h.2.1 ≤ h.1 then 19 else if plB bl h.2.2.1 = true then (if nameOK h.2.2.2 = true then 0 else 14) else 18

set_option maxHeartbeats 4000000 in
theorem checkHandler_any {w : World} {g : Nat} {bl : List Bool} {cap : Nat} {go : Option Addr} (hR : RS w go (lcs bl) g) (h : Hd) (hn : h.2.2.2.length ≤ 9223372036854775807) :
  Calls Tryz.prog 171 #[.slice go bl.length cap, hdV h] w fun e w' => e = .returned (.int .i64 (handB bl h)) ∧ Only [] w w' := by
 obtain ⟨h1, h2, h3, cn⟩ := h
 have o0 := hid (((Only.refl [] w).alloc (.cells #[.slice go bl.length cap] 246)).alloc (.cells #[.int .i64 h1, .int .i64 h2, .int .i64 h3, .string (str cn)] 46))
 have bc := fun W (ho : Only [] w W) (hc : W.cell? ⟨w.heap.size, 0, none⟩ = some (.slice go bl.length cap)) k => place_clo (b := w.heap.size) hc (hR.only0 ho) k
 have cc : ((w.alloc (.cells #[.slice go bl.length cap] 246)).alloc (.cells #[.int .i64 h1, .int .i64 h2, .int .i64 h3, .string (str cn)] 46)).cell? ⟨w.heap.size, 0, none⟩ = some (.slice go bl.length cap) := cell_alloc _ (by rw [cell_new]; rfl)
 have H1 := hid (fun W (ho : Only [] w W) => bc _ o0.out cc h1)
 have H2 := hid (fun W (ho : Only [] w W) => bc _ o0.out cc h2)
 have H3 := hid (fun W (ho : Only [] w W) => bc _ o0.out cc h3)
 have N1 := hid (fun W => name_any cn hn W)
 unfold handB hdV
 simp only
 generalize plB bl h1 = p1 at *
 generalize plB bl h2 = p2 at *
 generalize plB bl h3 = p3 at *
 generalize nameOK cn = b1 at *
 generalize bl.length = n at *
 clear bc hR cc
 cases p1 with
 | false =>
  rw [if_pos (Or.inl rfl)]
  go_enter Tryz.func171, Tryz.ntmps171
  go_wp2_with fail
  refine (H1.out _ o0.out).mono ?_
  rintro e w' ⟨rfl, rfl⟩
  go_wp2_with fail
  go_ret
  exact ⟨rfl, o0.out⟩
 | true =>
  cases p2 with
  | false =>
   by_cases hn : h2 = (n : Int)
   ·subst hn
    by_cases hft : (n : Int) ≤ h1
    ·rw [if_pos (Or.inr (Or.inr hft))]
     have gft : h1 ≥ (n : Int) := hft
     go_enter Tryz.func171, Tryz.ntmps171
     go_wp2_with fail
     refine (H1.out _ o0.out).mono ?_
     rintro e w' ⟨rfl, rfl⟩
     go_wp2_with fail
     refine (H2.out _ o0.out).mono ?_
     rintro e w' ⟨rfl, rfl⟩
     go_wp2_with fail
     go_ret
     exact ⟨rfl, o0.out⟩
    ·rw [if_neg (by simp only [ne_eq, not_true_eq_false, and_false, false_or, Bool.true_eq_false]; omega)]
     have gft : ¬ (h1 ≥ (n : Int)) := hft
     cases p3 with
     | false =>
      rw [if_neg (by simp)]
      go_enter Tryz.func171, Tryz.ntmps171
      go_wp2_with fail
      refine (H1.out _ o0.out).mono ?_
      rintro e w' ⟨rfl, rfl⟩
      go_wp2_with fail
      refine (H2.out _ o0.out).mono ?_
      rintro e w' ⟨rfl, rfl⟩
      go_wp2_with fail
      refine (H3.out _ o0.out).mono ?_
      rintro e w' ⟨rfl, rfl⟩
      go_wp2_with fail
      go_ret
      exact ⟨rfl, o0.out⟩
     | true =>
      rw [if_pos rfl]
      cases b1 with
      | false =>
       rw [if_neg (by simp)]
       go_enter Tryz.func171, Tryz.ntmps171
       go_wp2_with fail
       refine (H1.out _ o0.out).mono ?_
       rintro e w' ⟨rfl, rfl⟩
       go_wp2_with fail
       refine (H2.out _ o0.out).mono ?_
       rintro e w' ⟨rfl, rfl⟩
       go_wp2_with fail
       refine (H3.out _ o0.out).mono ?_
       rintro e w' ⟨rfl, rfl⟩
       go_wp2_with fail
       refine (N1.out _).mono ?_
       rintro e w' ⟨rfl, rfl⟩
       go_wp2_with fail
       go_ret
       exact ⟨rfl, o0.out⟩
      | true =>
       rw [if_pos rfl]
       go_enter Tryz.func171, Tryz.ntmps171
       go_wp2_with fail
       refine (H1.out _ o0.out).mono ?_
       rintro e w' ⟨rfl, rfl⟩
       go_wp2_with fail
       refine (H2.out _ o0.out).mono ?_
       rintro e w' ⟨rfl, rfl⟩
       go_wp2_with fail
       refine (H3.out _ o0.out).mono ?_
       rintro e w' ⟨rfl, rfl⟩
       go_wp2_with fail
       refine (N1.out _).mono ?_
       rintro e w' ⟨rfl, rfl⟩
       go_wp2_with fail
       go_ret
       exact ⟨rfl, o0.out⟩
   ·rw [if_pos (Or.inr (Or.inl ⟨rfl, hn⟩))]
    have hn' : (h2 == (n : Int)) = false := by simpa using hn
    go_enter Tryz.func171, Tryz.ntmps171
    go_wp2_with fail
    refine (H1.out _ o0.out).mono ?_
    rintro e w' ⟨rfl, rfl⟩
    go_wp2_with fail
    refine (H2.out _ o0.out).mono ?_
    rintro e w' ⟨rfl, rfl⟩
    go_wp2_with fail
    go_ret
    exact ⟨rfl, o0.out⟩
  | true =>
   by_cases hft : h2 ≤ h1
   ·rw [if_pos (Or.inr (Or.inr hft))]
    have gft : h1 ≥ h2 := hft
    go_enter Tryz.func171, Tryz.ntmps171
    go_wp2_with fail
    refine (H1.out _ o0.out).mono ?_
    rintro e w' ⟨rfl, rfl⟩
    go_wp2_with fail
    refine (H2.out _ o0.out).mono ?_
    rintro e w' ⟨rfl, rfl⟩
    go_wp2_with fail
    go_ret
    exact ⟨rfl, o0.out⟩
   ·rw [if_neg (by simp only [Bool.true_eq_false, false_and, false_or]; omega)]
    have gft : ¬ (h1 ≥ h2) := hft
    cases p3 with
    | false =>
     rw [if_neg (by simp)]
     go_enter Tryz.func171, Tryz.ntmps171
     go_wp2_with fail
     refine (H1.out _ o0.out).mono ?_
     rintro e w' ⟨rfl, rfl⟩
     go_wp2_with fail
     refine (H2.out _ o0.out).mono ?_
     rintro e w' ⟨rfl, rfl⟩
     go_wp2_with fail
     refine (H3.out _ o0.out).mono ?_
     rintro e w' ⟨rfl, rfl⟩
     go_wp2_with fail
     go_ret
     exact ⟨rfl, o0.out⟩
    | true =>
     rw [if_pos rfl]
     cases b1 with
     | false =>
      rw [if_neg (by simp)]
      go_enter Tryz.func171, Tryz.ntmps171
      go_wp2_with fail
      refine (H1.out _ o0.out).mono ?_
      rintro e w' ⟨rfl, rfl⟩
      go_wp2_with fail
      refine (H2.out _ o0.out).mono ?_
      rintro e w' ⟨rfl, rfl⟩
      go_wp2_with fail
      refine (H3.out _ o0.out).mono ?_
      rintro e w' ⟨rfl, rfl⟩
      go_wp2_with fail
      refine (N1.out _).mono ?_
      rintro e w' ⟨rfl, rfl⟩
      go_wp2_with fail
      go_ret
      exact ⟨rfl, o0.out⟩
     | true =>
      rw [if_pos rfl]
      go_enter Tryz.func171, Tryz.ntmps171
      go_wp2_with fail
      refine (H1.out _ o0.out).mono ?_
      rintro e w' ⟨rfl, rfl⟩
      go_wp2_with fail
      refine (H2.out _ o0.out).mono ?_
      rintro e w' ⟨rfl, rfl⟩
      go_wp2_with fail
      refine (H3.out _ o0.out).mono ?_
      rintro e w' ⟨rfl, rfl⟩
      go_wp2_with fail
      refine (N1.out _).mono ?_
      rintro e w' ⟨rfl, rfl⟩
      go_wp2_with fail
      go_ret
      exact ⟨rfl, o0.out⟩

def anyZ (l : List In) (x : Int) : Bool := l.any fun i => decide (i.1 = x)

theorem anyZ_snoc (l : List In) (y : In) (x : Int) : anyZ (l ++ [y]) x = (anyZ l x || decide (y.1 = x)) := by simp [anyZ]

theorem begE_all (code : List UInt8) (k : Int) : begE (allR code).1 code.length k = anyZ (allR code).1 k := by
 unfold begE anyZ begunI
 cases h : (allR code).1.any (fun i => decide (i.1 = k)) with
 | true =>
  obtain ⟨i, hi, he⟩ := List.any_eq_true.1 h
  have he : i.1 = k := by simpa using he
  obtain ⟨h0, h1, _, _, _, h2, _⟩ := all_each code i hi
  have k0 : 0 ≤ k := by omega
  have k1 : k < (code.length : Int) := by omega
  have e2 : ((k.toNat : Nat) : Int) = k := by omega
  rw [decide_eq_true k0, decide_eq_true k1, e2, h]
  rfl
 | false =>
  by_cases k0 : 0 ≤ k
  ·have e2 : ((k.toNat : Nat) : Int) = k := by omega
   rw [e2, h]
   simp
  ·simp [k0]

set_option maxHeartbeats 400000 in
set_option maxRecDepth 100000 in
theorem rplaceZ_any {w : World} {ao : Option Addr} {l : List In} {d cap : Nat} (hI : RS w ao (qcs l) d) (hl : l.length ≤ 9223372036854775807) (x : Int) :
  Calls Tryz.prog 219 #[.slice ao l.length cap, .int .i64 x] w fun e w' => (∃ k : Int, e = .returned (.int .i64 k) ∧ decide (k < 0) = !anyZ l x) ∧ w' = w := by
 go_enter Tryz.func219, Tryz.ntmps219
 go_wp2
 go_loopw [5] (fun i wr => ∃ j : Nat, j ≤ l.length ∧ i = .int .i64 (j : Int) ∧ Hid (anyZ (l.take j) x = false) ∧ wr = w) (fun i _ => l.length - (intOf i).toNat)
 case atStart => exact ⟨0, by omega, rfl, by simp [Hid, anyZ], rfl⟩
 case round =>
  obtain ⟨j, hj, rfl, hq, rfl⟩ := hrel
  by_cases hlt : j < l.length
  ·have g2 : ((j : Int) < (l.length : Int)) := by omega
   obtain ⟨off, rfl, y0, y1, y2, y3⟩ := hI.inAt hlt
   clear hI
   have hm : Hid (l[j].1 = x → anyZ l x = true) := by
    intro h
    unfold anyZ
    rw [List.any_eq_true]
    exact ⟨l[j], List.getElem_mem hlt, by simp [h]⟩
   have hnx : Hid (l[j].1 ≠ x → anyZ (l.take (j + 1)) x = false) := by
    intro h1
    rw [List.take_succ_eq_append_getElem hlt, anyZ_snoc, hq.out]
    simp [h1]
   generalize l[j] = y at *
   obtain ⟨p, o, n, s⟩ := y
   simp only at y0 y1 y2 y3 hm hnx
   by_cases he : p = x
   ·subst he
    have hm' := hid (hm.out rfl)
    clear hnx hm
    go_wp2
    go_ret
    exact ⟨⟨(j : Int), rfl, by rw [hm'.out]; simp⟩, rfl⟩
   ·have g3 : (p == x) = false := by simpa using he
    replace hnx := hid (hnx.out he)
    clear hm
    go_wp2
    exact ⟨⟨j + 1, by omega, by go_num, hnx, by first | rfl | trivial⟩, by simp [intOf]; omega⟩
  ·have g2 : ¬ ((j : Int) < (l.length : Int)) := by omega
   have hn : Hid (anyZ l x = false) := by
    have := hq.out
    rw [List.take_of_length_le (by omega)] at this
    exact this
   clear hI
   go_wp2
   go_ret
   exact ⟨⟨-1, rfl, by rw [hn.out]; rfl⟩, rfl⟩

theorem handsE_dropR (all : List In) (n j : Nat) (l : List Hd) (h : j < l.length) : handsE all n j (l.drop j) = if handE all n l[j] = 0 then handsE all n (j + 1) (l.drop (j + 1)) else ((j : Int), handE all n l[j]) := by
 rw [List.drop_eq_getElem_cons h]
 rfl

set_option maxHeartbeats 4000000 in
set_option maxRecDepth 100000 in
theorem rhandlers_any {w : World} {P : Nat → Prop} (m : Me) (hF : MeFit m) (hcs : m.code.length ≤ 100000) {vp vc vh : Value} (hA : MeAt (SlR w P) vp vc vh m) :
  Calls Tryz.prog 202 #[meV vp vc vh m] w fun e w' => e = .returned (.tuple #[.int .i64 (handlersE m).1, .int .i64 (handlersE m).2]) ∧ Only [] w w' := by
 obtain ⟨hA1, hA2, hA3⟩ := hA
 obtain ⟨po, pc, rfl, pl⟩ := SlV.shape hA1
 obtain ⟨co, cc, rfl, cl⟩ := SlV.shape hA2
 obtain ⟨ho, hc, rfl, hl⟩ := SlV.shape hA3
 obtain ⟨d2, r2⟩ := SlV.rs hA2
 obtain ⟨d3, r3⟩ := SlV.rs hA3
 obtain ⟨co', cc', d2', ev, hcode⟩ := hA2
 simp only [Value.slice.injEq] at ev
 obtain ⟨rfl, _, rfl⟩ := ev
 clear hA1 hA3
 have o1 := (Only.refl [] w).alloc (.cells #[.int .i64 m.flags, .string (str m.name), .slice po m.sig.1.length pc, .bool m.sig.2.1, .int .i64 m.sig.2.2.1, .string (str m.sig.2.2.2), .int .i64 m.stack, .int .i64 m.locals, .slice co m.code.length cc, .slice ho m.hands.length hc] 41)
 have S1 := me10_new w (.int .i64 m.flags) (.string (str m.name)) (.slice po m.sig.1.length pc) (.bool m.sig.2.1) (.int .i64 m.sig.2.2.1) (.string (str m.sig.2.2.2)) (.int .i64 m.stack) (.int .i64 m.locals) (.slice co m.code.length cc) (.slice ho m.hands.length hc) 41
 obtain ⟨R, hR⟩ : ∃ R, R = handlersE m := ⟨_, rfl⟩
 rw [← hR]
 unfold handlersE at hR
 unfold meV
 by_cases hbig : 32 < m.hands.length
 ·have gb : (32 : Int) < (m.hands.length : Int) := by omega
  have hRR : R = (0, 4) := by rw [hR, if_pos hbig]
  subst hRR
  obtain ⟨a0, a1, a2, a3, a4, a5, a6, a7, a8, a9, _, _, _, _, _, _, _, _, _, _⟩ := S1
  go_enter Tryz.func202, Tryz.ntmps202
  go_wp2
  go_ret2
  exact ⟨rfl, o1⟩
 ·have gb : ¬ (32 : Int) < (m.hands.length : Int) := by omega
  rw [if_neg hbig] at hR
  have HA := hid (rall_any (cap := cc) (r2.only0 o1) hcode.le hcode.max hcs)
  obtain ⟨a0, a1, a2, a3, a4, a5, a6, a7, a8, a9, _, _, _, _, _, _, _, _, _, _⟩ := S1
  have S1 := hid (me10_new w (.int .i64 m.flags) (.string (str m.name)) (.slice po m.sig.1.length pc) (.bool m.sig.2.1) (.int .i64 m.sig.2.2.1) (.string (str m.sig.2.2.2)) (.int .i64 m.stack) (.int .i64 m.locals) (.slice co m.code.length cc) (.slice ho m.hands.length hc) 41)
  have hbeg := hid (begE_all m.code)
  replace hR := hid hR
  go_enter Tryz.func202, Tryz.ntmps202
  go_wp2_with fail
  refine HA.out.mono ?_
  rintro e w2 ⟨ao, cap, rfl, hown, ho2⟩
  obtain ⟨q1, _, _, q4, _⟩ := RS.of_owns hown
  obtain ⟨dI, hI⟩ : ∃ dI, RS w2 ao (qcs (allR m.code).1) dI := ⟨_, q1⟩
  have hIl := all_len m.code
  have HP := hid (fun W (hW : Only [] w2 W) x => rplaceZ_any (cap := cap) (hI.only0 hW) (by omega) x)
  have o2 := hid (o1.trans ho2 (by simp))
  have S2 := hid (S1.out.only ho2 (by simp))
  clear hown q1 q4 hI HA S1 o1 a0 a1 a2 a3 a4 a5 a6 a7 a8 a9
  go_wp2_with fail
  go_loopw [7] (fun v wr => ∃ j : Nat, j ≤ m.hands.length ∧ v = .int .i64 (j : Int) ∧ Hid (R = handsE (allR m.code).1 m.code.length j (m.hands.drop j)) ∧ Hid (Me10 wr w.heap.size (.int .i64 m.flags) (.string (str m.name)) (.slice po m.sig.1.length pc) (.bool m.sig.2.1) (.int .i64 m.sig.2.2.1) (.string (str m.sig.2.2.2)) (.int .i64 m.stack) (.int .i64 m.locals) (.slice co m.code.length cc) (.slice ho m.hands.length hc)) ∧ Hid (Only [] w2 wr)) (fun v _ => m.hands.length - (intOf v).toNat)
  case atStart => exact ⟨0, by omega, rfl, hid (by rw [hR.out]; rfl), S2, hid (Only.refl _ _)⟩
  case round =>
   obtain ⟨j, hj, rfl, hR2, hS, ho⟩ := hrel
   clear S2 hR
   obtain ⟨a0, a1, a2, a3, a4, a5, a6, a7, a8, a9, _, _, _, _, _, _, _, _, _, _⟩ := hS.out
   by_cases hlt : j < m.hands.length
   ·have g1 : ((j : Int) < (m.hands.length : Int)) := by omega
    obtain ⟨off, hoe, y0, y1, y2, y3⟩ := hd_cells ((r3.only0 o2.out).only0 ho.out) hlt
    subst hoe
    have hfit := hF.hands _ (List.getElem_mem hlt)
    have a8' := fun o => cell_alloc o a8
    have hE := handsE_dropR (allR m.code).1 m.code.length j m.hands hlt
    rw [← hR2.out] at hE
    unfold handE at hE
    rw [hbeg.out, hbeg.out, hbeg.out] at hE
    generalize m.hands[j] = h at *
    obtain ⟨hf, ht, ha, hn⟩ := h
    simp only at *
    have oh := hid (ho.out.alloc (.cells #[.int .i64 hf, .int .i64 ht, .int .i64 ha, .string (str hn)] 46))
    have oo := hid (o2.out.trans oh.out (by simp))
    have HN := hid (fun W => rname_any hn hfit W)
    generalize hbF : anyZ (allR m.code).1 hf = bF at *
    generalize hbT : anyZ (allR m.code).1 ht = bT at *
    generalize hbA : anyZ (allR m.code).1 ha = bA at *
    generalize nameOK hn = bN at *
    replace hE := hid hE
    clear hR2
    cases bF with
    | false =>
     have hRR : R = ((j : Int), 19) := by
      rw [hE.out]
      simp
     subst hRR
     clear hE
     go_wp2_with fail
     refine (HP.out _ oh.out hf).mono ?_
     rintro e w' ⟨⟨k1, rfl, hk1⟩, rfl⟩
     rw [hbF] at hk1
     have gk1 : k1 < 0 := by simpa using hk1
     clear hk1
     go_wp2_with fail
     go_ret2
     exact ⟨rfl, oo.out⟩
    | true =>
     cases bT with
     | false =>
      by_cases hq : ht = (m.code.length : Int)
      ·subst hq
       have gq : ((m.code.length : Int) != (m.code.length : Int)) = false := by simp
       have gq2 : ((m.code.length : Int) == (m.code.length : Int)) = true := by simp
       by_cases hle : (m.code.length : Int) ≤ hf
       ·have gle : (hf < (m.code.length : Int)) = False := by simp; omega
        have glf : (m.code.length : Int) ≤ hf := hle
        have hRR : R = ((j : Int), 19) := by
         rw [hE.out]
         simp [hle]
        subst hRR
        clear hE
        go_wp2_with fail
        refine (HP.out _ oh.out hf).mono ?_
        rintro e w' ⟨⟨k1, rfl, hk1⟩, rfl⟩
        rw [hbF] at hk1
        have gk1 : ¬ (k1 < 0) := by simpa using hk1
        clear hk1
        go_wp2_with fail
        refine (HP.out _ oh.out (m.code.length : Int)).mono ?_
        rintro e w' ⟨⟨k2, rfl, hk2⟩, rfl⟩
        rw [hbT] at hk2
        have gk2 : k2 < 0 := by simpa using hk2
        clear hk2
        go_wp2_with fail
        go_ret2
        exact ⟨rfl, oo.out⟩
       ·have gle : ¬ ((m.code.length : Int) ≤ hf) := hle
        cases bA with
        | false =>
         have hRR : R = ((j : Int), 18) := by
          rw [hE.out]
          simp [hle]
         subst hRR
         clear hE
         go_wp2_with fail
         refine (HP.out _ oh.out hf).mono ?_
         rintro e w' ⟨⟨k1, rfl, hk1⟩, rfl⟩
         rw [hbF] at hk1
         have gk1 : ¬ (k1 < 0) := by simpa using hk1
         clear hk1
         go_wp2_with fail
         refine (HP.out _ oh.out (m.code.length : Int)).mono ?_
         rintro e w' ⟨⟨k2, rfl, hk2⟩, rfl⟩
         rw [hbT] at hk2
         have gk2 : k2 < 0 := by simpa using hk2
         clear hk2
         go_wp2_with fail
         refine (HP.out _ oh.out ha).mono ?_
         rintro e w' ⟨⟨k3, rfl, hk3⟩, rfl⟩
         rw [hbA] at hk3
         have gk3 : k3 < 0 := by simpa using hk3
         clear hk3
         go_wp2_with fail
         go_ret2
         exact ⟨rfl, oo.out⟩
        | true =>
         cases bN with
         | false =>
          have hRR : R = ((j : Int), 14) := by
           rw [hE.out]
           simp [hle]
          subst hRR
          clear hE
          go_wp2_with fail
          refine (HP.out _ oh.out hf).mono ?_
          rintro e w' ⟨⟨k1, rfl, hk1⟩, rfl⟩
          rw [hbF] at hk1
          have gk1 : ¬ (k1 < 0) := by simpa using hk1
          clear hk1
          go_wp2_with fail
          refine (HP.out _ oh.out (m.code.length : Int)).mono ?_
          rintro e w' ⟨⟨k2, rfl, hk2⟩, rfl⟩
          rw [hbT] at hk2
          have gk2 : k2 < 0 := by simpa using hk2
          clear hk2
          go_wp2_with fail
          refine (HP.out _ oh.out ha).mono ?_
          rintro e w' ⟨⟨k3, rfl, hk3⟩, rfl⟩
          rw [hbA] at hk3
          have gk3 : ¬ (k3 < 0) := by simpa using hk3
          clear hk3
          go_wp2_with fail
          refine (HN.out _).mono ?_
          rintro e w' ⟨rfl, rfl⟩
          go_wp2_with fail
          go_ret2
          exact ⟨rfl, oo.out⟩
         | true =>
          have hR3 : Hid (R = handsE (allR m.code).1 m.code.length (j + 1) (m.hands.drop (j + 1))) := by
           unfold Hid
           rw [hE.out]
           simp [hle]
          clear hE
          go_wp2_with fail
          refine (HP.out _ oh.out hf).mono ?_
          rintro e w' ⟨⟨k1, rfl, hk1⟩, rfl⟩
          rw [hbF] at hk1
          have gk1 : ¬ (k1 < 0) := by simpa using hk1
          clear hk1
          go_wp2_with fail
          refine (HP.out _ oh.out (m.code.length : Int)).mono ?_
          rintro e w' ⟨⟨k2, rfl, hk2⟩, rfl⟩
          rw [hbT] at hk2
          have gk2 : k2 < 0 := by simpa using hk2
          clear hk2
          go_wp2_with fail
          refine (HP.out _ oh.out ha).mono ?_
          rintro e w' ⟨⟨k3, rfl, hk3⟩, rfl⟩
          rw [hbA] at hk3
          have gk3 : ¬ (k3 < 0) := by simpa using hk3
          clear hk3
          go_wp2_with fail
          refine (HN.out _).mono ?_
          rintro e w' ⟨rfl, rfl⟩
          go_wp2_with fail
          exact ⟨⟨j + 1, by omega, by go_num, hR3, hid (hS.out.only ((Only.refl [] wr).alloc _) (by simp)), oh⟩, by simp [intOf]; omega⟩
      ·have gq : (ht != (m.code.length : Int)) = true := by simpa using hq
       have gq2 : (ht == (m.code.length : Int)) = false := by simpa using hq
       have hRR : R = ((j : Int), 19) := by
        rw [hE.out]
        simp [hq]
       subst hRR
       clear hE
       go_wp2_with fail
       refine (HP.out _ oh.out hf).mono ?_
       rintro e w' ⟨⟨k1, rfl, hk1⟩, rfl⟩
       rw [hbF] at hk1
       have gk1 : ¬ (k1 < 0) := by simpa using hk1
       clear hk1
       go_wp2_with fail
       refine (HP.out _ oh.out ht).mono ?_
       rintro e w' ⟨⟨k2, rfl, hk2⟩, rfl⟩
       rw [hbT] at hk2
       have gk2 : k2 < 0 := by simpa using hk2
       clear hk2
       go_wp2_with fail
       go_ret2
       exact ⟨rfl, oo.out⟩
     | true =>
      by_cases hle : ht ≤ hf
      ·have gle : (hf < ht) = False := by simp; omega
       have glf : ht ≤ hf := hle
       have hRR : R = ((j : Int), 19) := by
        rw [hE.out]
        simp [hle]
       subst hRR
       clear hE
       go_wp2_with fail
       refine (HP.out _ oh.out hf).mono ?_
       rintro e w' ⟨⟨k1, rfl, hk1⟩, rfl⟩
       rw [hbF] at hk1
       have gk1 : ¬ (k1 < 0) := by simpa using hk1
       clear hk1
       go_wp2_with fail
       refine (HP.out _ oh.out ht).mono ?_
       rintro e w' ⟨⟨k2, rfl, hk2⟩, rfl⟩
       rw [hbT] at hk2
       have gk2 : ¬ (k2 < 0) := by simpa using hk2
       clear hk2
       go_wp2_with fail
       go_ret2
       exact ⟨rfl, oo.out⟩
      ·have gle : ¬ (ht ≤ hf) := hle
       cases bA with
       | false =>
        have hRR : R = ((j : Int), 18) := by
         rw [hE.out]
         simp [hle]
        subst hRR
        clear hE
        go_wp2_with fail
        refine (HP.out _ oh.out hf).mono ?_
        rintro e w' ⟨⟨k1, rfl, hk1⟩, rfl⟩
        rw [hbF] at hk1
        have gk1 : ¬ (k1 < 0) := by simpa using hk1
        clear hk1
        go_wp2_with fail
        refine (HP.out _ oh.out ht).mono ?_
        rintro e w' ⟨⟨k2, rfl, hk2⟩, rfl⟩
        rw [hbT] at hk2
        have gk2 : ¬ (k2 < 0) := by simpa using hk2
        clear hk2
        go_wp2_with fail
        refine (HP.out _ oh.out ha).mono ?_
        rintro e w' ⟨⟨k3, rfl, hk3⟩, rfl⟩
        rw [hbA] at hk3
        have gk3 : k3 < 0 := by simpa using hk3
        clear hk3
        go_wp2_with fail
        go_ret2
        exact ⟨rfl, oo.out⟩
       | true =>
        cases bN with
        | false =>
         have hRR : R = ((j : Int), 14) := by
          rw [hE.out]
          simp [hle]
         subst hRR
         clear hE
         go_wp2_with fail
         refine (HP.out _ oh.out hf).mono ?_
         rintro e w' ⟨⟨k1, rfl, hk1⟩, rfl⟩
         rw [hbF] at hk1
         have gk1 : ¬ (k1 < 0) := by simpa using hk1
         clear hk1
         go_wp2_with fail
         refine (HP.out _ oh.out ht).mono ?_
         rintro e w' ⟨⟨k2, rfl, hk2⟩, rfl⟩
         rw [hbT] at hk2
         have gk2 : ¬ (k2 < 0) := by simpa using hk2
         clear hk2
         go_wp2_with fail
         refine (HP.out _ oh.out ha).mono ?_
         rintro e w' ⟨⟨k3, rfl, hk3⟩, rfl⟩
         rw [hbA] at hk3
         have gk3 : ¬ (k3 < 0) := by simpa using hk3
         clear hk3
         go_wp2_with fail
         refine (HN.out _).mono ?_
         rintro e w' ⟨rfl, rfl⟩
         go_wp2_with fail
         go_ret2
         exact ⟨rfl, oo.out⟩
        | true =>
         have hR3 : Hid (R = handsE (allR m.code).1 m.code.length (j + 1) (m.hands.drop (j + 1))) := by
          unfold Hid
          rw [hE.out]
          simp [hle]
         clear hE
         go_wp2_with fail
         refine (HP.out _ oh.out hf).mono ?_
         rintro e w' ⟨⟨k1, rfl, hk1⟩, rfl⟩
         rw [hbF] at hk1
         have gk1 : ¬ (k1 < 0) := by simpa using hk1
         clear hk1
         go_wp2_with fail
         refine (HP.out _ oh.out ht).mono ?_
         rintro e w' ⟨⟨k2, rfl, hk2⟩, rfl⟩
         rw [hbT] at hk2
         have gk2 : ¬ (k2 < 0) := by simpa using hk2
         clear hk2
         go_wp2_with fail
         refine (HP.out _ oh.out ha).mono ?_
         rintro e w' ⟨⟨k3, rfl, hk3⟩, rfl⟩
         rw [hbA] at hk3
         have gk3 : ¬ (k3 < 0) := by simpa using hk3
         clear hk3
         go_wp2_with fail
         refine (HN.out _).mono ?_
         rintro e w' ⟨rfl, rfl⟩
         go_wp2_with fail
         exact ⟨⟨j + 1, by omega, by go_num, hR3, hid (hS.out.only ((Only.refl [] wr).alloc _) (by simp)), oh⟩, by simp [intOf]; omega⟩
   ·have g1 : ¬ ((j : Int) < (m.hands.length : Int)) := by omega
    have hRR : R = (0, 0) := by
     rw [hR2.out, List.drop_of_length_le (by omega)]
     rfl
    subst hRR
    clear hR2
    go_wp2
    go_ret2
    exact ⟨rfl, o2.out.trans ho.out (by simp)⟩

theorem ris_any {w : World} {ao : Option Addr} {l : List En} {d cap : Nat} (hE : ES w ao l d) (hl : l.length ≤ 9223372036854775807) (i kind : Int) :
  Calls Tryz.prog 181 #[.slice ao l.length cap, .int .i64 i, .int .i64 kind] w fun e w' => e = .returned (.bool (hasE l i kind)) ∧ w' = w := by
 cases hi : enAt l i with
 | none =>
  have hr : hasE l i kind = false := by simp [hasE, hi]
  rw [hr]
  rcases enAt_none hi with h | h
  ·have g1 : ¬ (0 ≤ i) := by omega
   clear hi hr hE
   go_enter Tryz.func181, Tryz.ntmps181
   go_wp2
   go_ret
   exact ⟨rfl, rfl⟩
  ·have g1 : 0 ≤ i := by omega
   have g2 : ¬ (i < (l.length : Int)) := by omega
   clear hi hr hE
   go_enter Tryz.func181, Tryz.ntmps181
   go_wp2
   go_ret
   exact ⟨rfl, rfl⟩
 | some e =>
  have hr : hasE l i kind = decide (e.1 = kind) := by simp [hasE, hi]
  rw [hr]
  obtain ⟨j, hj, rfl, rfl⟩ := enAt_some hi
  clear hi hr
  obtain ⟨off, rfl, hc⟩ := hE.at hj
  obtain ⟨y0, _, _, _, _, _⟩ := hc
  generalize l[j] = e at *
  obtain ⟨k, t, n, a, b, c⟩ := e
  clear hE
  simp only at y0
  have g1 : (0 : Int) ≤ (j : Int) := by omega
  have g2 : ((j : Int) < (l.length : Int)) := by omega
  go_enter Tryz.func181, Tryz.ntmps181
  go_wp2
  go_ret
  refine ⟨?_, rfl⟩
  by_cases hk : k = kind <;> simp [hk]

theorem small_text {l : List En} {s : List UInt8} (hA : ∀ e ∈ l, e.2.1.length ≤ 1048576) (h : ∃ e ∈ l, e.2.1 = s) : s.length ≤ 1048576 := by
 obtain ⟨e, he, rfl⟩ := h
 exact hA e he

set_option maxHeartbeats 400000 in
set_option maxRecDepth 100000 in
theorem rtextN_any {w : World} {ao : Option Addr} {l : List En} {d cap : Nat} (hE : ES w ao l d) (hl : l.length ≤ 9223372036854775807) (hA : ∀ e ∈ l, e.2.1.length ≤ 1048576) (i : Int) :
  Calls Tryz.prog 180 #[.slice ao l.length cap, .int .i64 i, .int .i64 1] w fun e w' => e = .returned (.int .i64 (wText l i fName)) ∧ Only [] w w' := by
 have HH := ris_any (cap := cap) hE hl i 1
 rw [hasE_text] at HH
 cases h : textAt l i with
 | none =>
  have e1 : wText l i fName = 16 := by simp [wText, h]
  rw [e1]
  rw [h] at HH
  simp only [Option.isSome_none] at HH
  clear h e1 hE
  replace HH := hid HH
  go_enter Tryz.func180, Tryz.ntmps180
  go_wp2_with (go_at_call 181; refine HH.out.mono ?_; rintro e w' ⟨rfl, rfl⟩)
  go_ret
  exact ⟨rfl, Only.refl _ _⟩
 | some s =>
  have e1 : wText l i fName = fName s := by simp [wText, h]
  rw [e1]
  rw [h] at HH
  simp only [Option.isSome_some] at HH
  obtain ⟨j, off, rfl, hj, rfl, hc, hm⟩ := text_cell hE h
  have hsm := small_text hA hm
  clear h e1 hE hm
  have g2 : ((j : Int) < (l.length : Int)) := by omega
  replace HH := hid HH
  have HN := rname_any s (by omega) w
  cases hn : nameOK s with
  | true =>
   have e2 : fName s = 0 := by simp [fName, hn]
   rw [e2]
   rw [hn] at HN
   clear hn e2
   replace HN := hid HN
   go_enter Tryz.func180, Tryz.ntmps180
   go_wp2_with (first | (go_at_call 181; refine HH.out.mono ?_; rintro e w' ⟨rfl, rfl⟩) | (go_at_call 179; refine HN.out.mono ?_; rintro e w' ⟨rfl, rfl⟩))
   go_ret
   exact ⟨rfl, Only.refl _ _⟩
  | false =>
   have e2 : fName s = 14 := by simp [fName, hn]
   rw [e2]
   rw [hn] at HN
   clear hn e2
   replace HN := hid HN
   go_enter Tryz.func180, Tryz.ntmps180
   go_wp2_with (first | (go_at_call 181; refine HH.out.mono ?_; rintro e w' ⟨rfl, rfl⟩) | (go_at_call 179; refine HN.out.mono ?_; rintro e w' ⟨rfl, rfl⟩))
   go_ret
   exact ⟨rfl, Only.refl _ _⟩

set_option maxHeartbeats 400000 in
set_option maxRecDepth 100000 in
theorem rtextM_any {w : World} {ao : Option Addr} {l : List En} {d cap : Nat} (hE : ES w ao l d) (hl : l.length ≤ 9223372036854775807) (hA : ∀ e ∈ l, e.2.1.length ≤ 1048576) (i : Int) :
  Calls Tryz.prog 180 #[.slice ao l.length cap, .int .i64 i, .int .i64 2] w fun e w' => e = .returned (.int .i64 (wText l i fMethod)) ∧ Only [] w w' := by
 have HH := ris_any (cap := cap) hE hl i 1
 rw [hasE_text] at HH
 cases h : textAt l i with
 | none =>
  have e1 : wText l i fMethod = 16 := by simp [wText, h]
  rw [e1]
  rw [h] at HH
  simp only [Option.isSome_none] at HH
  clear h e1 hE
  replace HH := hid HH
  go_enter Tryz.func180, Tryz.ntmps180
  go_wp2_with (go_at_call 181; refine HH.out.mono ?_; rintro e w' ⟨rfl, rfl⟩)
  go_ret
  exact ⟨rfl, Only.refl _ _⟩
 | some s =>
  have e1 : wText l i fMethod = fMethod s := by simp [wText, h]
  rw [e1]
  rw [h] at HH
  simp only [Option.isSome_some] at HH
  obtain ⟨j, off, rfl, hj, rfl, hc, hm⟩ := text_cell hE h
  have hsm := small_text hA hm
  clear h e1 hE hm
  have g2 : ((j : Int) < (l.length : Int)) := by omega
  replace HH := hid HH
  have HN := xmethod_any s (by omega) w
  cases hn : methodOK s with
  | true =>
   have e2 : fMethod s = 0 := by simp [fMethod, hn]
   rw [e2]
   rw [hn] at HN
   clear hn e2
   replace HN := hid HN
   go_enter Tryz.func180, Tryz.ntmps180
   go_wp2_with (first | (go_at_call 181; refine HH.out.mono ?_; rintro e w' ⟨rfl, rfl⟩) | (go_at_call 182; refine HN.out.mono ?_; rintro e w' ⟨rfl, rfl⟩))
   go_ret
   exact ⟨rfl, Only.refl _ _⟩
  | false =>
   have e2 : fMethod s = 14 := by simp [fMethod, hn]
   rw [e2]
   rw [hn] at HN
   clear hn e2
   replace HN := hid HN
   go_enter Tryz.func180, Tryz.ntmps180
   go_wp2_with (first | (go_at_call 181; refine HH.out.mono ?_; rintro e w' ⟨rfl, rfl⟩) | (go_at_call 182; refine HN.out.mono ?_; rintro e w' ⟨rfl, rfl⟩))
   go_ret
   exact ⟨rfl, Only.refl _ _⟩

set_option maxHeartbeats 400000 in
set_option maxRecDepth 100000 in
theorem rtextT_any {w : World} {ao : Option Addr} {l : List En} {d cap : Nat} (hE : ES w ao l d) (hl : l.length ≤ 9223372036854775807) (hA : ∀ e ∈ l, e.2.1.length ≤ 1048576) (i : Int) :
  Calls Tryz.prog 180 #[.slice ao l.length cap, .int .i64 i, .int .i64 3] w fun e w' => e = .returned (.int .i64 (wText l i fType)) ∧ Only [] w w' := by
 have HH := ris_any (cap := cap) hE hl i 1
 rw [hasE_text] at HH
 cases h : textAt l i with
 | none =>
  have e1 : wText l i fType = 16 := by simp [wText, h]
  rw [e1]
  rw [h] at HH
  simp only [Option.isSome_none] at HH
  clear h e1 hE
  replace HH := hid HH
  go_enter Tryz.func180, Tryz.ntmps180
  go_wp2_with (go_at_call 181; refine HH.out.mono ?_; rintro e w' ⟨rfl, rfl⟩)
  go_ret
  exact ⟨rfl, Only.refl _ _⟩
 | some s =>
  have e1 : wText l i fType = fType s := by simp [wText, h]
  rw [e1]
  rw [h] at HH
  simp only [Option.isSome_some] at HH
  obtain ⟨j, off, rfl, hj, rfl, hc, hm⟩ := text_cell hE h
  have hsm := small_text hA hm
  clear h e1 hE hm
  have g2 : ((j : Int) < (l.length : Int)) := by omega
  replace HH := hid HH
  have HN := rtype_any s (by omega) w
  unfold fType
  generalize typeR s = X at *
  obtain ⟨⟨xd, xn⟩, xe⟩ := X
  simp only [tyV] at HN ⊢
  replace HN := hid HN
  go_enter Tryz.func180, Tryz.ntmps180
  go_wp2_with (first | (go_at_call 181; refine HH.out.mono ?_; rintro e w' ⟨rfl, rfl⟩) | (go_at_call 199; refine HN.out.mono ?_; rintro e w1 ⟨rfl, ho1⟩))
  go_ret
  exact ⟨rfl, ho1.alloc _⟩

set_option maxHeartbeats 400000 in
set_option maxRecDepth 100000 in
theorem rtextS_any {w : World} {ao : Option Addr} {l : List En} {d cap : Nat} (hE : ES w ao l d) (hl : l.length ≤ 9223372036854775807) (hA : ∀ e ∈ l, e.2.1.length ≤ 1048576) (i : Int) :
  Calls Tryz.prog 180 #[.slice ao l.length cap, .int .i64 i, .int .i64 4] w fun e w' => e = .returned (.int .i64 (wText l i fSig)) ∧ Only [] w w' := by
 have HH := ris_any (cap := cap) hE hl i 1
 rw [hasE_text] at HH
 cases h : textAt l i with
 | none =>
  have e1 : wText l i fSig = 16 := by simp [wText, h]
  rw [e1]
  rw [h] at HH
  simp only [Option.isSome_none] at HH
  clear h e1 hE
  replace HH := hid HH
  go_enter Tryz.func180, Tryz.ntmps180
  go_wp2_with (go_at_call 181; refine HH.out.mono ?_; rintro e w' ⟨rfl, rfl⟩)
  go_ret
  exact ⟨rfl, Only.refl _ _⟩
 | some s =>
  have e1 : wText l i fSig = fSig s := by simp [wText, h]
  rw [e1]
  rw [h] at HH
  simp only [Option.isSome_some] at HH
  obtain ⟨j, off, rfl, hj, rfl, hc, hm⟩ := text_cell hE h
  have hsm := small_text hA hm
  clear h e1 hE hm
  have g2 : ((j : Int) < (l.length : Int)) := by omega
  replace HH := hid HH
  have HN := rsig_any s (by omega) w
  unfold fSig
  unfold SigPost at HN
  generalize sigR s = X at *
  obtain ⟨⟨xl, xv, xd, xn⟩, xe⟩ := X
  simp only [sigV] at HN ⊢
  replace HN := hid HN
  go_enter Tryz.func180, Tryz.ntmps180
  go_wp2_with (first | (go_at_call 181; refine HH.out.mono ?_; rintro e w' ⟨rfl, rfl⟩) | (go_at_call 200; refine HN.out.mono ?_; rintro e w1 ⟨v, rfl, hw, ho1⟩; obtain ⟨vo, vc, rfl⟩ := own_slice hw; clear hw))
  go_ret
  exact ⟨rfl, ho1.alloc _⟩

theorem used_no {l : List En} {e : En} (h1 : 1 ≤ e.1) (h6 : e.1 ≤ 6) (h : e ≠ usedE e) : wrongE l e = 1 := by
 unfold wrongE
 rw [if_neg (by omega), if_pos h]

set_option maxHeartbeats 1000000 in
set_option maxRecDepth 100000 in
theorem rwrong_any {w : World} {ao : Option Addr} {l : List En} {d cap : Nat} (hE : ES w ao l d) (hl : l.length ≤ 9223372036854775807) (hA : ∀ e ∈ l, e.2.1.length ≤ 1048576) (j : Nat) (hj : j < l.length) :
  Calls Tryz.prog 151 #[.slice ao l.length cap, .int .i64 (j : Int)] w fun r w' => r = .returned (.int .i64 (wrongE l l[j])) ∧ Only [] w w' := by
 have g2 : ((j : Int) < (l.length : Int)) := by omega
 have htl := hA l[j] (List.getElem_mem hj)
 obtain ⟨off, hao, hc⟩ := hE.at hj
 have o0 := (Only.refl [] w).alloc (.cells #[.int .i64 l[j].1, .string (str l[j].2.1), .int .i64 l[j].2.2.1, .int .i64 l[j].2.2.2.1, .int .i64 l[j].2.2.2.2.1, .int .i64 l[j].2.2.2.2.2] 90)
 have E0 := enAt_new w l[j] 90
 have hw : ∃ r, r = wrongE l l[j] := ⟨_, rfl⟩
 obtain ⟨r, hr⟩ := hw
 rw [← hr]
 have hno := used_no (l := l) (e := l[j])
 have hof := wrong_of (l := l) (e := l[j])
 rw [← hr] at hno hof
 have HIS := fun W (hW : Only [] w W) (i : Int) => ris_any (cap := cap) (hE.only hW (by simp)) hl i 3
 have HWN := fun W (hW : Only [] w W) (i : Int) => rtextN_any (cap := cap) (hE.only hW (by simp)) hl hA i
 have HWM := fun W (hW : Only [] w W) (i : Int) => rtextM_any (cap := cap) (hE.only hW (by simp)) hl hA i
 have HWT := fun W (hW : Only [] w W) (i : Int) => rtextT_any (cap := cap) (hE.only hW (by simp)) hl hA i
 have HWS := fun W (hW : Only [] w W) (i : Int) => rtextS_any (cap := cap) (hE.only hW (by simp)) hl hA i
 have hk36 : l[j].1 < 1 ∨ 6 < l[j].1 → r = 3 := by
  intro h
  rw [hr]
  unfold wrongE
  rw [if_pos h]
 generalize l[j] = e at *
 obtain ⟨k, t, n, a, b, c⟩ := e
 obtain ⟨y0, y1, y2, y3, y4, y5⟩ := hc
 simp only at *
 replace HIS := hid HIS
 replace HWN := hid HWN
 replace HWM := hid HWM
 replace HWT := hid HWT
 replace HWS := hid HWS
 replace hno := hid hno
 replace hof := hid hof
 replace E0 := hid E0
 clear hA hE hr
 have htt := str_toList t
 have htz := str_size t
 subst hao
 have hb : k < 1 ∨ 6 < k ∨ (1 ≤ k ∧ k ≤ 6) := by omega
 rcases hb with hk | hk | ⟨hk1, hk2⟩
 ·obtain rfl := hk36 (.inl hk)
  clear hk36
  go_enter Tryz.func151, Tryz.ntmps151
  go_wp2
  go_ret
  exact ⟨rfl, o0⟩
 ·obtain rfl := hk36 (.inr hk)
  have hk' : ¬ (k < 1) := by omega
  clear hk36
  go_enter Tryz.func151, Tryz.ntmps151
  go_wp2
  go_ret
  exact ⟨rfl, o0⟩
 clear hk36
 rcases (by omega : k = 1 ∨ k = 2 ∨ k = 3 ∨ k = 4 ∨ k = 5 ∨ k = 6) with rfl | rfl | rfl | rfl | rfl | rfl
 ·by_cases hn0 : n = 0
  ·subst hn0
   by_cases ha0 : a = 0
   ·subst ha0
    by_cases hb0 : b = 0
    ·subst hb0
     by_cases hc0 : c = 0
     ·subst hc0
      by_cases hlo : 255 < t.length
      ·have g3 : (255 < (t.length : Int)) := by omega
       have er : r = 5 := by rw [hof.out (by omega) (by omega) (by simp [usedE])]; simp [longE, hlo]
       subst er
       clear hlo hno hof
       go_enter Tryz.func151, Tryz.ntmps151
       go_wp2
       go_ret
       exact ⟨rfl, o0⟩
      ·have g3 : ¬ (255 < (t.length : Int)) := by omega
       have er : r = 0 := by rw [hof.out (by omega) (by omega) (by simp [usedE])]; simp [longE, hlo]
       subst er
       clear hlo hno hof
       go_enter Tryz.func151, Tryz.ntmps151
       go_wp2
       go_ret
       exact ⟨rfl, o0⟩
     ·have er : r = 1 := hno.out (by omega) (by omega) (by simp [usedE, hc0])
      have gc : (c == 0) = false := by simpa using hc0
      subst er
      clear hno hof
      go_enter Tryz.func151, Tryz.ntmps151
      go_wp2
      go_ret
      exact ⟨rfl, o0⟩
    ·have er : r = 1 := hno.out (by omega) (by omega) (by simp [usedE, hb0])
     have gb : (b == 0) = false := by simpa using hb0
     subst er
     clear hno hof
     go_enter Tryz.func151, Tryz.ntmps151
     go_wp2
     go_ret
     exact ⟨rfl, o0⟩
   ·have er : r = 1 := hno.out (by omega) (by omega) (by simp [usedE, ha0])
    have ga : (a == 0) = false := by simpa using ha0
    subst er
    clear hno hof
    go_enter Tryz.func151, Tryz.ntmps151
    go_wp2
    go_ret
    exact ⟨rfl, o0⟩
  ·have er : r = 1 := hno.out (by omega) (by omega) (by simp [usedE, hn0])
   have gn : (n == 0) = false := by simpa using hn0
   subst er
   clear hno hof
   go_enter Tryz.func151, Tryz.ntmps151
   go_wp2
   go_ret
   exact ⟨rfl, o0⟩
 ·by_cases ht0 : t = []
  ·subst ht0
   by_cases ha0 : a = 0
   ·subst ha0
    by_cases hb0 : b = 0
    ·subst hb0
     by_cases hc0 : c = 0
     ·subst hc0
      have er : r = 0 := by rw [hof.out (by omega) (by omega) (by simp [usedE])]; simp
      subst er
      clear hno hof
      go_enter Tryz.func151, Tryz.ntmps151
      go_wp2
      go_ret
      exact ⟨rfl, o0⟩
     ·have er : r = 1 := hno.out (by omega) (by omega) (by simp [usedE, hc0])
      have gc : (c == 0) = false := by simpa using hc0
      subst er
      clear hno hof
      go_enter Tryz.func151, Tryz.ntmps151
      go_wp2
      go_ret
      exact ⟨rfl, o0⟩
    ·have er : r = 1 := hno.out (by omega) (by omega) (by simp [usedE, hb0])
     have gb : (b == 0) = false := by simpa using hb0
     subst er
     clear hno hof
     go_enter Tryz.func151, Tryz.ntmps151
     go_wp2
     go_ret
     exact ⟨rfl, o0⟩
   ·have er : r = 1 := hno.out (by omega) (by omega) (by simp [usedE, ha0])
    have ga : (a == 0) = false := by simpa using ha0
    subst er
    clear hno hof
    go_enter Tryz.func151, Tryz.ntmps151
    go_wp2
    go_ret
    exact ⟨rfl, o0⟩
  ·have er : r = 1 := hno.out (by omega) (by omega) (by simp [usedE, ht0])
   have gt : t.isEmpty = false := by simpa using ht0
   subst er
   clear hno hof
   go_enter Tryz.func151, Tryz.ntmps151
   go_wp2
   go_ret
   exact ⟨rfl, o0⟩
 ·by_cases ht0 : t = []
  ·subst ht0
   by_cases hn0 : n = 0
   ·subst hn0
    by_cases hb0 : b = 0
    ·subst hb0
     by_cases hc0 : c = 0
     ·subst hc0
      have er : r = wText l a fName := by rw [hof.out (by omega) (by omega) (by simp [usedE])]; simp
      subst er
      clear hno hof
      go_enter Tryz.func151, Tryz.ntmps151
      go_wp2_with (go_at_call 180; refine (HWN.out _ o0 a).mono ?_; rintro e w1 ⟨rfl, ho1⟩)
      go_ret
      exact ⟨rfl, o0.next ho1 (by simp)⟩
     ·have er : r = 1 := hno.out (by omega) (by omega) (by simp [usedE, hc0])
      have gc : (c == 0) = false := by simpa using hc0
      subst er
      clear hno hof
      go_enter Tryz.func151, Tryz.ntmps151
      go_wp2
      go_ret
      exact ⟨rfl, o0⟩
    ·have er : r = 1 := hno.out (by omega) (by omega) (by simp [usedE, hb0])
     have gb : (b == 0) = false := by simpa using hb0
     subst er
     clear hno hof
     go_enter Tryz.func151, Tryz.ntmps151
     go_wp2
     go_ret
     exact ⟨rfl, o0⟩
   ·have er : r = 1 := hno.out (by omega) (by omega) (by simp [usedE, hn0])
    have gn : (n == 0) = false := by simpa using hn0
    subst er
    clear hno hof
    go_enter Tryz.func151, Tryz.ntmps151
    go_wp2
    go_ret
    exact ⟨rfl, o0⟩
  ·have er : r = 1 := hno.out (by omega) (by omega) (by simp [usedE, ht0])
   have gt : t.isEmpty = false := by simpa using ht0
   subst er
   clear hno hof
   go_enter Tryz.func151, Tryz.ntmps151
   go_wp2
   go_ret
   exact ⟨rfl, o0⟩
 ·by_cases ht0 : t = []
  ·subst ht0
   by_cases hn0 : n = 0
   ·subst hn0
    by_cases hb0 : b = 0
    ·subst hb0
     by_cases hc0 : c = 0
     ·subst hc0
      have er : r = wText l a fType := by rw [hof.out (by omega) (by omega) (by simp [usedE])]; simp
      subst er
      clear hno hof
      go_enter Tryz.func151, Tryz.ntmps151
      go_wp2_with (go_at_call 180; refine (HWT.out _ o0 a).mono ?_; rintro e w1 ⟨rfl, ho1⟩)
      go_ret
      exact ⟨rfl, o0.next ho1 (by simp)⟩
     ·have er : r = 1 := hno.out (by omega) (by omega) (by simp [usedE, hc0])
      have gc : (c == 0) = false := by simpa using hc0
      subst er
      clear hno hof
      go_enter Tryz.func151, Tryz.ntmps151
      go_wp2
      go_ret
      exact ⟨rfl, o0⟩
    ·have er : r = 1 := hno.out (by omega) (by omega) (by simp [usedE, hb0])
     have gb : (b == 0) = false := by simpa using hb0
     subst er
     clear hno hof
     go_enter Tryz.func151, Tryz.ntmps151
     go_wp2
     go_ret
     exact ⟨rfl, o0⟩
   ·have er : r = 1 := hno.out (by omega) (by omega) (by simp [usedE, hn0])
    have gn : (n == 0) = false := by simpa using hn0
    subst er
    clear hno hof
    go_enter Tryz.func151, Tryz.ntmps151
    go_wp2
    go_ret
    exact ⟨rfl, o0⟩
  ·have er : r = 1 := hno.out (by omega) (by omega) (by simp [usedE, ht0])
   have gt : t.isEmpty = false := by simpa using ht0
   subst er
   clear hno hof
   go_enter Tryz.func151, Tryz.ntmps151
   go_wp2
   go_ret
   exact ⟨rfl, o0⟩
 ·by_cases ht0 : t = []
  ·subst ht0
   by_cases hn0 : n = 0
   ·subst hn0
    have er : r = or3 (wClass l a) (wText l b fName) (wText l c fType) := by rw [hof.out (by omega) (by omega) (by simp [usedE])]; simp
    replace er := hid er
    clear hno hof
    have HH := HIS.out _ o0 a
    cases hcl : hasE l a 3 with
    | false =>
     rw [hcl] at HH
     have e2 : r = 16 := by rw [er.out]; simp [or3, wClass, hcl]
     subst e2
     clear hcl er
     replace HH := hid HH
     go_enter Tryz.func151, Tryz.ntmps151
     go_wp2_with (go_at_call 181; refine HH.out.mono ?_; rintro e w' ⟨rfl, rfl⟩)
     go_ret
     exact ⟨rfl, o0⟩
    | true =>
     rw [hcl] at HH
     have e2 : r = if wText l b fName = 0 then wText l c fType else wText l b fName := by rw [er.out]; simp [or3, wClass, hcl]
     clear hcl er
     have HB := HWN.out _ o0 b
     replace HH := hid HH
     by_cases hwb : wText l b fName = 0
     ·rw [hwb] at HB e2
      simp only [if_true] at e2
      subst e2
      clear hwb
      replace HB := hid HB
      go_enter Tryz.func151, Tryz.ntmps151
      go_wp2_with (first | (go_at_call 181; refine HH.out.mono ?_; rintro e w' ⟨rfl, rfl⟩) | fail)
      refine HB.out.mono ?_
      rintro e w1 ⟨rfl, ho1⟩
      have o1 := o0.next ho1 (by simp)
      have HCC := hid (HWT.out _ o1 c)
      obtain ⟨e0, e1, e2, e3, e4, e5⟩ := E0.out.only ho1 (by simp)
      simp only [Nat.zero_add] at e0 e1 e2 e3 e4 e5
      go_wp2_with fail
      refine HCC.out.mono ?_
      rintro e w2 ⟨rfl, ho2⟩
      go_wp2
      go_ret
      exact ⟨rfl, o1.next ho2 (by simp)⟩
     ·simp only [hwb, if_false] at e2
      generalize wText l b fName = x at *
      have g3 : (x == 0) = false := by simpa using hwb
      subst e2
      clear hwb
      replace HB := hid HB
      go_enter Tryz.func151, Tryz.ntmps151
      go_wp2_with (first | (go_at_call 181; refine HH.out.mono ?_; rintro e w' ⟨rfl, rfl⟩) | fail)
      refine HB.out.mono ?_
      rintro e w1 ⟨rfl, ho1⟩
      go_wp2
      go_ret
      exact ⟨rfl, o0.next ho1 (by simp)⟩
   ·have er : r = 1 := hno.out (by omega) (by omega) (by simp [usedE, hn0])
    have gn : (n == 0) = false := by simpa using hn0
    subst er
    clear hno hof
    go_enter Tryz.func151, Tryz.ntmps151
    go_wp2
    go_ret
    exact ⟨rfl, o0⟩
  ·have er : r = 1 := hno.out (by omega) (by omega) (by simp [usedE, ht0])
   have gt : t.isEmpty = false := by simpa using ht0
   subst er
   clear hno hof
   go_enter Tryz.func151, Tryz.ntmps151
   go_wp2
   go_ret
   exact ⟨rfl, o0⟩
 ·by_cases ht0 : t = []
  ·subst ht0
   by_cases hn0 : n = 0
   ·subst hn0
    have er : r = or3 (wClass l a) (wText l b fMethod) (wText l c fSig) := by rw [hof.out (by omega) (by omega) (by simp [usedE])]; simp
    replace er := hid er
    clear hno hof
    have HH := HIS.out _ o0 a
    cases hcl : hasE l a 3 with
    | false =>
     rw [hcl] at HH
     have e2 : r = 16 := by rw [er.out]; simp [or3, wClass, hcl]
     subst e2
     clear hcl er
     replace HH := hid HH
     go_enter Tryz.func151, Tryz.ntmps151
     go_wp2_with (go_at_call 181; refine HH.out.mono ?_; rintro e w' ⟨rfl, rfl⟩)
     go_ret
     exact ⟨rfl, o0⟩
    | true =>
     rw [hcl] at HH
     have e2 : r = if wText l b fMethod = 0 then wText l c fSig else wText l b fMethod := by rw [er.out]; simp [or3, wClass, hcl]
     clear hcl er
     have HB := HWM.out _ o0 b
     replace HH := hid HH
     by_cases hwb : wText l b fMethod = 0
     ·rw [hwb] at HB e2
      simp only [if_true] at e2
      subst e2
      clear hwb
      replace HB := hid HB
      go_enter Tryz.func151, Tryz.ntmps151
      go_wp2_with (first | (go_at_call 181; refine HH.out.mono ?_; rintro e w' ⟨rfl, rfl⟩) | fail)
      refine HB.out.mono ?_
      rintro e w1 ⟨rfl, ho1⟩
      have o1 := o0.next ho1 (by simp)
      have HCC := hid (HWS.out _ o1 c)
      obtain ⟨e0, e1, e2, e3, e4, e5⟩ := E0.out.only ho1 (by simp)
      simp only [Nat.zero_add] at e0 e1 e2 e3 e4 e5
      go_wp2_with fail
      refine HCC.out.mono ?_
      rintro e w2 ⟨rfl, ho2⟩
      go_wp2
      go_ret
      exact ⟨rfl, o1.next ho2 (by simp)⟩
     ·simp only [hwb, if_false] at e2
      generalize wText l b fMethod = x at *
      have g3 : (x == 0) = false := by simpa using hwb
      subst e2
      clear hwb
      replace HB := hid HB
      go_enter Tryz.func151, Tryz.ntmps151
      go_wp2_with (first | (go_at_call 181; refine HH.out.mono ?_; rintro e w' ⟨rfl, rfl⟩) | fail)
      refine HB.out.mono ?_
      rintro e w1 ⟨rfl, ho1⟩
      go_wp2
      go_ret
      exact ⟨rfl, o0.next ho1 (by simp)⟩
   ·have er : r = 1 := hno.out (by omega) (by omega) (by simp [usedE, hn0])
    have gn : (n == 0) = false := by simpa using hn0
    subst er
    clear hno hof
    go_enter Tryz.func151, Tryz.ntmps151
    go_wp2
    go_ret
    exact ⟨rfl, o0⟩
  ·have er : r = 1 := hno.out (by omega) (by omega) (by simp [usedE, ht0])
   have gt : t.isEmpty = false := by simpa using ht0
   subst er
   clear hno hof
   go_enter Tryz.func151, Tryz.ntmps151
   go_wp2
   go_ret
   exact ⟨rfl, o0⟩

set_option maxHeartbeats 400000 in
set_option maxRecDepth 100000 in
theorem rcheckE_any {w : World} {ao : Option Addr} {l : List En} {d cap : Nat} (hE : ES w ao l d) (hl : l.length ≤ 9223372036854775807) (hA : ∀ e ∈ l, e.2.1.length ≤ 1048576) :
  Calls Tryz.prog 94 #[.slice ao l.length cap] w fun r w' => r = .returned (.tuple #[.int .i64 (checkE l).1, .int .i64 (checkE l).2]) ∧ Only [] w w' := by
 have hx : ∃ x, x = checkE l := ⟨_, rfl⟩
 obtain ⟨x, hx⟩ := hx
 rw [← hx]
 by_cases h : 4096 < l.length
 ·have g1 : (4096 < (l.length : Int)) := by omega
  have e1 : x = (4096, 4) := by rw [hx]; simp [checkE, h]
  subst e1
  clear hx h
  go_enter Tryz.func94, Tryz.ntmps94
  go_wp2
  go_ret2
  exact ⟨rfl, Only.refl _ _⟩
 ·have g1 : ¬ (4096 < (l.length : Int)) := by omega
  have e1 : x = firstWrong l l 0 := by rw [hx]; simp [checkE, h]
  clear hx
  replace e1 := hid e1
  go_enter Tryz.func94, Tryz.ntmps94
  go_wp2
  go_loopw [4] (fun i wr => ∃ k : Nat, k ≤ l.length ∧ i = .int .i64 (k : Int) ∧ (∀ j (hj : j < l.length), j < k → wrongE l l[j] = 0) ∧ Only [] w wr) (fun i _ => l.length - (intOf i).toNat)
  case atStart => exact ⟨0, by omega, rfl, fun j _ h => by omega, Only.refl _ _⟩
  case round =>
   obtain ⟨k, hk, rfl, hok, hor⟩ := hrel
   by_cases hlt : k < l.length
   ·have g2 : ((k : Int) < (l.length : Int)) := by omega
    have HW := rwrong_any (cap := cap) (hE.only hor (by simp)) hl hA k hlt
    by_cases hz : wrongE l l[k] = 0
    ·rw [hz] at HW
     have hnx : ∀ j (hj : j < l.length), j < k + 1 → wrongE l l[j] = 0 := by
      intro j hj hjk
      by_cases e : j = k
      ·subst e
       exact hz
      ·exact hok j hj (by omega)
     clear hok hz
     replace hnx := hid hnx
     replace HW := hid HW
     go_wp2_with (go_at_call 151; refine HW.out.mono ?_; rintro e w2 ⟨rfl, ho2⟩)
     exact ⟨⟨k + 1, by omega, by go_num, hnx.out, hor.next ho2 (by simp)⟩, by simp [intOf]; omega⟩
    ·have hat := firstWrong_at (l := l) (r := l) (i := 0) hlt (fun j hj => hok j (by omega) hj) hz
     rw [← e1.out] at hat
     generalize wrongE l l[k] = c at *
     have g3 : (c == 0) = false := by simpa using hz
     replace hat := hid hat
     clear hok hz
     replace HW := hid HW
     go_wp2_with (go_at_call 151; refine HW.out.mono ?_; rintro e w2 ⟨rfl, ho2⟩)
     go_ret2
     exact ⟨by rw [hat.out]; simp, hor.next ho2 (by simp)⟩
   ·have g2 : ¬ ((k : Int) < (l.length : Int)) := by omega
    obtain rfl : k = l.length := by omega
    have hall := firstWrong_ok (l := l) (r := l) (i := 0) fun e he => by
     obtain ⟨j, hj, rfl⟩ := List.getElem_of_mem he
     exact hok j hj hj
    rw [← e1.out] at hall
    clear hok
    replace hall := hid hall
    go_wp2
    go_ret2
    exact ⟨by rw [hall.out]; rfl, hor⟩

end Go.Proofs.YtildemmkhndhjaaGreatDoor
