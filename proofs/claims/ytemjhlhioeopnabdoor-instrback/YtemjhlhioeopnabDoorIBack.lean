/-
  The walk of InstrBack: it answers true of whatever instructions and bytes, and writes nothing that was there. The table of words holds the words.
-/
import Derived.Test.YtemjhlhioeopnabDoorIReadsB
import Derived.Test.YtemjhlhioeopnabDoorIBackP
import Derived.Deep.QuietTactic
namespace Go.Proofs.YtemjhlhioeopnabDoor
open Go.RowKit

set_option maxHeartbeats 2000000 in
set_option maxRecDepth 100000 in
theorem back_any {w : World} (hL : Laid w) {ao bo : Option Addr} {l : List In} {code : List UInt8} {d k cap bap : Nat} (hQ : RS w ao (qcs l) d)
    (hB : RS w bo (bcs code) k) (hbc : code.length ≤ bap) (hbl : bap ≤ 9223372036854775807) :
    Calls Tryd.prog 3 #[.slice ao l.length cap, .slice bo code.length bap] w fun e w' => e = .returned (.bool true) ∧ Only [] w w' := by
  have HK := hid (known_any hL)
  clear hL
  by_cases h5 : 2000 < l.length
  · have g1 : (2000 < (l.length : Int)) := by omega
    clear hQ hB
    go_enter Tryd.func3, Tryd.ntmps3
    go_wp2_with (go_at_call 7; refine HK.out.mono ?_; rintro e w1 ⟨rfl, ho1⟩)
    go_ret
    exact ⟨rfl, ho1⟩
  have g1 : ¬ (2000 < (l.length : Int)) := by omega
  by_cases h4 : 5000 < code.length
  · have g2 : (5000 < (code.length : Int)) := by omega
    clear hQ hB
    go_enter Tryd.func3, Tryd.ntmps3
    go_wp2_with (go_at_call 7; refine HK.out.mono ?_; rintro e w1 ⟨rfl, ho1⟩)
    go_ret
    exact ⟨rfl, ho1⟩
  have g2 : ¬ (5000 < (code.length : Int)) := by omega
  have HE1 := fun W (hW : Only [] w W) => enc_any (cap := cap) (hQ.only0 hW) (by omega)
  have HA2 := hid (fun W (hW : Only [] w W) => all_any (hB.only0 hW) hbc hbl (by omega))
  -- the second part, from whatever world
  have hlen2 := all_len code
  have hpl := fun h => @all_place code h
  have hea := fun h => @enc_all code h
  generalize allR code = Z at *
  obtain ⟨ml, ma, me⟩ := Z
  simp only at hlen2 hpl hea
  have HE2 := hid (fun W (a : Option Addr) (c q : Nat) (hR : RS W a (qcs ml) q) => enc_any (cap := c) hR (by omega))
  have hel := enc_len l
  have hba := fun h => @back_all l h
  have hbt := hid (fun h => @back_at l h)
  have hpe := fun h => @place_end l h
  have HB1 := hid (fun W (a : Option Addr) (c q : Nat) (hR : RS W a (bcs (encR l).1) q) (h1 : (encR l).1.length ≤ c) (h2 : c ≤ 9223372036854775807) => all_any hR h1 h2 (by omega))
  have HD1 := hid (fun W (a : Option Addr) (c q : Nat) (hR : RS W a (bcs (encR l).1) q) (h1 : (encR l).1.length ≤ c) (h2 : c ≤ 9223372036854775807) (p : Nat) => dec_any hR h1 h2 (p : Int))
  generalize encR l = X at *
  obtain ⟨bl, be⟩ := X
  simp only at hel hba hbt hpe HB1 HD1
  replace HE1 := hid HE1
  replace hpl := hid hpl
  replace hea := hid hea
  replace hba := hid hba
  replace hpe := hid hpe
  replace hQ := hid hQ
  replace hB := hid hB
  go_enter Tryd.func3, Tryd.ntmps3
  go_wp2_with (first | (go_at_call 7; refine HK.out.mono ?_; rintro e w1 ⟨rfl, ho1⟩) | fail)
  refine (HE1.out _ ho1).mono ?_
  rintro e w2 ⟨ao2, cap2, rfl, hown2, ho2⟩
  have o2 := hid (ho1.next ho2 (by simp))
  have R2 := hid (RS.of_owns hown2)
  clear HE1 HK hown2
  by_cases hbe : be = 0
  · subst hbe
    have hpe' := hpe.out rfl
    have hbt' := hid (hbt.out rfl)
    have hba' := hid (hba.out rfl)
    clear hba hpe hbt
    have hc2 : bl.length ≤ cap2 := R2.out.2.1
    have hl2 : cap2 ≤ 9223372036854775807 := by have := R2.out.2.2.1; simp only [maxLen] at this; omega
    obtain ⟨d2, hd2⟩ : ∃ d, RS w2 ao2 (bcs bl) d := ⟨_, R2.out.1⟩
    have S2 := hid hd2
    clear R2 hd2
    go_wp2_with fail
    have HB2 := HB1.out _ _ _ _ S2.out hc2 hl2
    rw [hba'.out] at HB2
    refine HB2.mono ?_
    rintro e w3 ⟨ao3, cap3, rfl, hown3, ho3⟩
    obtain ⟨d3, hd3⟩ : ∃ d, RS w3 ao3 (qcs (tagI 0 l)) d := ⟨_, (RS.of_owns hown3).1⟩
    have S3 := hid hd3
    have hS2 := hid (S2.out.only0 ho3)
    have o3 := hid (o2.out.next ho3 (by simp))
    have ht : Hid ((tagI 0 l).length = l.length) := tagI_length l 0
    simp only [ht.out]
    have hQ3 := hid (hQ.out.only0 o3.out)
    replace hpe' := hid hpe'
    clear hown3 hd3 S2 HB1 HB2 hba' o2
    go_wp2
    go_loopw [10, 11] (fun v i wr => ∃ (j : Nat), j ≤ l.length ∧ i = .int .i64 (j : Int) ∧ v = .int .i64 (placeI l j : Int) ∧ Hid (RS wr ao3 (qcs (tagI 0 l)) d3) ∧ Hid (RS wr ao2 (bcs bl) d2) ∧ Hid (RS wr ao (qcs l) d) ∧ Hid (Only [] w wr)) (fun _ i _ => l.length - (intOf i).toNat)
    case atStart => exact ⟨0, by omega, rfl, rfl, S3, hS2, hQ3, o3⟩
    case round =>
      obtain ⟨j, hj, rfl, rfl, T3, T2, TQ, hor⟩ := hrel
      clear S3 hS2 hQ3 o3
      have hpj := place_le l j
      by_cases hlt : j < l.length
      · have g3 : ((j : Int) < (l.length : Int)) := by omega
        have hD := HD1.out _ _ _ _ T2.out hc2 hl2 (placeI l j)
        rw [hbt'.out j hlt] at hD
        obtain ⟨off3, ha3, hy3⟩ := T3.out.inAt (j := j) (by rw [ht.out]; exact hlt)
        rw [tag_get l 0 j hlt, Nat.zero_add] at hy3
        obtain ⟨offq, haq, hyq⟩ := TQ.out.inAt (j := j) hlt
        have hps := place_succ l j hlt
        have HS := fun W => size_any l[j].2.1 W
        have hsz := sizeN_le l[j].2.1
        generalize l[j] = i at *
        obtain ⟨ia, io, n, iz⟩ := i
        simp only at hD hy3 hyq hps HS hsz
        generalize sizeN io = z at *
        have hnq := neq_instr ((placeI l j : Int), io, n, (z : Int)) ((placeI l j : Int), io, n, (z : Int))
        simp only [inV, decide_true, Bool.not_true] at hD hnq
        have hps' := hid hps
        clear hps
        generalize placeI l j = pj at *
        replace hD := hid hD
        replace HS := hid HS
        have I3 := hid hy3
        have IQ := hid hyq
        subst ha3
        subst haq
        clear hbt' hy3 hyq
        go_wp2_with fail
        refine hD.out.mono ?_
        rintro e w5 ⟨rfl, ho5⟩
        have oo := hid (ho5.alloc (.cells #[.int .i64 (pj : Int), .int .i64 io, .int .i64 n, .int .i64 (z : Int)] 31))
        obtain ⟨a0, a1, a2, a3⟩ := I3.out.only oo.out (by simp)
        obtain ⟨b0, b1, b2, b3⟩ := IQ.out.only oo.out (by simp)
        simp only at a0 a1 a2 a3 b0 b1 b2 b3
        clear hD I3 IQ
        go_wp2_with fail
        go_quiet (first | (go_at_call 11; refine Calls.quiet_of_same (HS.out _)) | fail)
        go_wp2
        refine ⟨⟨j + 1, by omega, by go_num, ?_, hid ((T3.out.only0 oo.out).only0 ((Only.refl [] _).drewN nq)), hid ((T2.out.only0 oo.out).only0 ((Only.refl [] _).drewN nq)), hid ((TQ.out.only0 oo.out).only0 ((Only.refl [] _).drewN nq)), hid ((hor.out.next oo.out (by simp)).drewN nq)⟩, by simp [intOf]; omega⟩
        rw [hps'.out]
        exact congrArg _ (by omega)
      · have g3 : ¬ ((j : Int) < (l.length : Int)) := by omega
        obtain rfl : j = l.length := by omega
        rw [hpe'.out]
        clear hbt' T3 T2 TQ HD1
        go_wp2_with fail
        refine (HA2.out _ hor.out).mono ?_
        rintro e wa ⟨aoM, capM, rfl, hownM, hoM⟩
        have oM := hid (hor.out.next hoM (by simp))
        clear HA2
        by_cases hme : me = 0
        · subst hme
          have hea' := hea.out rfl
          obtain ⟨dM, hdM⟩ : ∃ d, RS wa aoM (qcs ml) d := ⟨_, (RS.of_owns hownM).1⟩
          have HE3 := HE2.out _ _ capM _ hdM
          rw [hea'] at HE3
          replace HE3 := hid HE3
          clear hownM hdM HE2 hea hea' hpl
          go_wp2_with fail
          refine HE3.out.mono ?_
          rintro e wb ⟨aoC, capC, rfl, hownC, hoC⟩
          have hcv1 := (RS.of_owns hownC).1.conv capC
          have hcv2 := ((hB.out.only0 oM.out).only0 hoC).conv bap
          have hst := str_toList code
          have oC := hid (oM.out.next hoC (by simp))
          clear hownC HE3
          go_wp2
          go_ret
          exact ⟨by simp, oC.out⟩
        · obtain ⟨hm0, hm1, hm2⟩ := hpl.out hme
          subst hm0
          have ge : (me == 0) = false := by simpa using hme
          clear hownM hpl hea HE2
          go_wp2
          go_ret
          exact ⟨by first | rfl | simp [*], oM.out⟩
  · have ge : (be == 0) = false := by simpa using hbe
    clear R2 HB1 HD1 hba hpe hbt hQ
    go_wp2_with fail
    refine (HA2.out _ o2.out).mono ?_
    rintro e wa ⟨aoM, capM, rfl, hownM, hoM⟩
    have oM := hid (o2.out.next hoM (by simp))
    clear HA2
    by_cases hme : me = 0
    · subst hme
      have hea' := hea.out rfl
      obtain ⟨dM, hdM⟩ : ∃ d, RS wa aoM (qcs ml) d := ⟨_, (RS.of_owns hownM).1⟩
      have HE3 := HE2.out _ _ capM _ hdM
      rw [hea'] at HE3
      replace HE3 := hid HE3
      clear hownM hdM HE2 hea hea' hpl
      go_wp2_with fail
      refine HE3.out.mono ?_
      rintro e wb ⟨aoC, capC, rfl, hownC, hoC⟩
      have hcv1 := (RS.of_owns hownC).1.conv capC
      have hcv2 := ((hB.out.only0 oM.out).only0 hoC).conv bap
      have hst := str_toList code
      have oC := hid (oM.out.next hoC (by simp))
      clear hownC HE3
      go_wp2
      go_ret
      exact ⟨by simp, oC.out⟩
    · obtain ⟨hm0, hm1, hm2⟩ := hpl.out hme
      subst hm0
      have ge : (me == 0) = false := by simpa using hme
      clear hownM hpl hea HE2
      go_wp2
      go_ret
      exact ⟨by first | rfl | simp [*], oM.out⟩

theorem back_walk {w : World} (hL : Laid w) {ao bo : Option Addr} {l : List In} {code : List UInt8} {d k cap bap : Nat} (hQ : RS w ao (qcs l) d) (_ : l.length ≤ cap) (_ : cap ≤ 9223372036854775807) (_ : ao = none → cap = 0)
    (hB : RS w bo (bcs code) k) (hbc : code.length ≤ bap) (hbl : bap ≤ 9223372036854775807) (_ : bo = none → bap = 0) :
    Calls Tryd.prog 3 #[.slice ao l.length cap, .slice bo code.length bap] w fun e w' => e = .returned (.bool true) ∧ Below w.heap.size w w' :=
  (back_any hL hQ hB hbc hbl).mono fun _ _ h => ⟨h.1, h.2.below (Nat.le_refl _) (by simp)⟩

end Go.Proofs.YtemjhlhioeopnabDoor
