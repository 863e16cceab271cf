/-
  What the proof leans on, part 22 of 28. The conditions stand in each theorem.
-/
import Derived.Test.YtildemmkhndhjaaGreatDoorB21
import Derived.Test.YtildemmkhndhjaaGreatDoorB11
import Derived.Test.YtildemmkhndhjaaGreatDoorB19
namespace Go.Proofs.YtildemmkhndhjaaGreatDoor
open Go.RowKit

set_option maxHeartbeats 4000000 in
set_option maxRecDepth 100000 in
theorem msame_method {w : World} {P Q : Nat → Prop} (a b : Me) {vp vc vh up uc uh : Value} (hA : MeAt (SlR w P) vp vc vh a) (hB : MeAt (SlR w Q) up uc uh b) :
  Calls Tryz.prog 99 #[meV vp vc vh a, meV up uc uh b] w fun e w' => e = .returned (.bool (decide (a = b))) ∧ Only [] w w' := by
 obtain ⟨af, an, ⟨al, av, at_⟩, ast, aloc, ac, ah⟩ := a
 obtain ⟨bf, bn, ⟨bl, bv, bt⟩, bst, bloc, bc, bh⟩ := b
 obtain ⟨hA1, hA2, hA3⟩ := hA
 obtain ⟨hB1, hB2, hB3⟩ := hB
 obtain ⟨po, pcap, rfl, pl⟩ := SlV.shape hA1
 obtain ⟨co, ccap, rfl, cl⟩ := SlV.shape hA2
 obtain ⟨ho, hcap, rfl, hl⟩ := SlV.shape hA3
 obtain ⟨qo, qcap, rfl, ql⟩ := SlV.shape hB1
 obtain ⟨eo, ecap, rfl, el⟩ := SlV.shape hB2
 obtain ⟨go, gcap, rfl, gl⟩ := SlV.shape hB3
 obtain ⟨d1, r1⟩ := SlV.rs hA1
 obtain ⟨d2, r2⟩ := SlV.rs hA2
 obtain ⟨d3, r3⟩ := SlV.rs hA3
 obtain ⟨d4, r4⟩ := SlV.rs hB1
 obtain ⟨d5, r5⟩ := SlV.rs hB2
 obtain ⟨d6, r6⟩ := SlV.rs hB3
 clear hA1 hA2 hA3 hB1 hB2 hB3
 simp only at pl cl hl ql el gl r1 r2 r3 r4 r5 r6
 have HS := hid (fun W (hW : Only [] w W) => same_any (cap := pcap) (bap := qcap) (TS.of_rs (r1.only0 hW)) (TS.of_rs (r4.only0 hW)) pl av bv at_ bt)
 have HE := hid (fun W (hW : Only [] w W) => bequal_any (cap := ccap) (bap := ecap) (r2.only0 hW) (r5.only0 hW))
 have HH := hid (fun W (hW : Only [] w W) => equal_hd (cap := hcap) (bap := gcap) (r3.only0 hW) (r6.only0 hW) hl)
 obtain ⟨R, hR⟩ : ∃ R, R = decide ((⟨af, an, (al, av, at_), ast, aloc, ac, ah⟩ : Me) = ⟨bf, bn, (bl, bv, bt), bst, bloc, bc, bh⟩) := ⟨_, rfl⟩
 rw [← hR]
 replace hR := hid hR
 clear r1 r2 r3 r4 r5 r6
 obtain ⟨atd, atn⟩ := at_
 obtain ⟨btd, btn⟩ := bt
 simp only [sigV] at HS
 simp only [meV]
 have o1 := ((Only.refl [] w).alloc (.cells #[.int .i64 af, .string (str an), .slice po al.length pcap, .bool av, .int .i64 atd, .string (str atn), .int .i64 ast, .int .i64 aloc, .slice co ac.length ccap, .slice ho ah.length hcap] 41)).alloc (.cells #[.int .i64 bf, .string (str bn), .slice qo bl.length qcap, .bool bv, .int .i64 btd, .string (str btn), .int .i64 bst, .int .i64 bloc, .slice eo bc.length ecap, .slice go bh.length gcap] 41)
 have SA := hid ((me10_new w (.int .i64 af) (.string (str an)) (.slice po al.length pcap) (.bool av) (.int .i64 atd) (.string (str atn)) (.int .i64 ast) (.int .i64 aloc) (.slice co ac.length ccap) (.slice ho ah.length hcap) 41).only ((Only.refl [] _).alloc (.cells #[.int .i64 bf, .string (str bn), .slice qo bl.length qcap, .bool bv, .int .i64 btd, .string (str btn), .int .i64 bst, .int .i64 bloc, .slice eo bc.length ecap, .slice go bh.length gcap] 41)) (by simp))
 have SB := me10_new (w.alloc (.cells #[.int .i64 af, .string (str an), .slice po al.length pcap, .bool av, .int .i64 atd, .string (str atn), .int .i64 ast, .int .i64 aloc, .slice co ac.length ccap, .slice ho ah.length hcap] 41)) (.int .i64 bf) (.string (str bn)) (.slice qo bl.length qcap) (.bool bv) (.int .i64 btd) (.string (str btn)) (.int .i64 bst) (.int .i64 bloc) (.slice eo bc.length ecap) (.slice go bh.length gcap) 41
 rw [World.size_alloc] at SB
 replace SB := hid SB
 replace o1 := hid o1
 obtain ⟨a0, a1, a2, a3, a4, a5, a6, a7, a8, a9, _, _, _, _, _, _, _, _, _, _⟩ := SA.out
 obtain ⟨b0, b1, b2, b3, b4, b5, b6, b7, b8, b9, _, _, _, _, _, _, _, _, _, _⟩ := SB.out
 by_cases c1 : af = bf
 case neg =>
  have hF : R = false := by
   rw [hR.out]
   simp [c1]
  subst hF
  have n1 : (af == bf) = false := by simpa using c1
  clear hR
  go_enter Tryz.func99, Tryz.ntmps99
  go_wp2_with fail
  go_ret
  exact ⟨rfl, o1.out⟩
 subst c1
 by_cases c2 : an = bn
 case neg =>
  have hF : R = false := by
   rw [hR.out]
   simp [c2]
  subst hF
  have p1 : ¬ ((str an).toList = (str bn).toList) := by rw [str_toList, str_toList]; exact c2
  have q1 : ((str an).toList == (str bn).toList) = false := by simpa using p1
  clear hR
  go_enter Tryz.func99, Tryz.ntmps99
  go_wp2_with fail
  go_ret
  exact ⟨rfl, o1.out⟩
 subst c2
 by_cases c3 : ((al, av, (atd, atn)) : Sg) = (bl, bv, (btd, btn))
 case neg =>
  have hsr : sameR (al, av, (atd, atn)) (bl, bv, (btd, btn)) = false := by simpa [sameR] using c3
  rw [hsr] at HS
  have hF : R = false := by
   rw [hR.out]
   simp [show ¬ (al = bl ∧ av = bv ∧ atd = btd ∧ atn = btn) from fun h => c3 (by obtain ⟨rfl, rfl, rfl, rfl⟩ := h; rfl)]
  subst hF
  clear hR
  go_enter Tryz.func99, Tryz.ntmps99
  go_wp2_with fail
  refine (HS.out _ o1.out).mono ?_
  rintro e w2 ⟨rfl, o2⟩
  go_wp2_with fail
  go_ret
  exact ⟨rfl, o1.out.trans o2 (by simp)⟩
 have hsr : sameR (al, av, (atd, atn)) (bl, bv, (btd, btn)) = true := by simpa [sameR] using c3
 rw [hsr] at HS
 clear hsr
 obtain ⟨rfl, rfl, rfl, rfl⟩ : al = bl ∧ av = bv ∧ atd = btd ∧ atn = btn := by simpa using c3
 clear c3
 by_cases c4 : ast = bst
 case neg =>
  have hF : R = false := by
   rw [hR.out]
   simp [c4]
  subst hF
  have n1 : (ast == bst) = false := by simpa using c4
  clear hR
  go_enter Tryz.func99, Tryz.ntmps99
  go_wp2_with fail
  refine (HS.out _ o1.out).mono ?_
  rintro e w2 ⟨rfl, o2⟩
  have SA2 := hid (SA.out.only o2 (by simp))
  have SB2 := hid (SB.out.only o2 (by simp))
  have oo2 := hid (o1.out.trans o2 (by simp))
  clear a0 a1 a2 a3 a4 a5 a6 a7 a8 a9 b0 b1 b2 b3 b4 b5 b6 b7 b8 b9
  obtain ⟨a0, a1, a2, a3, a4, a5, a6, a7, a8, a9, _, _, _, _, _, _, _, _, _, _⟩ := SA2.out
  obtain ⟨b0, b1, b2, b3, b4, b5, b6, b7, b8, b9, _, _, _, _, _, _, _, _, _, _⟩ := SB2.out
  go_wp2_with fail
  go_ret
  exact ⟨rfl, oo2.out⟩
 subst c4
 by_cases c5 : aloc = bloc
 case neg =>
  have hF : R = false := by
   rw [hR.out]
   simp [c5]
  subst hF
  have n1 : (aloc == bloc) = false := by simpa using c5
  clear hR
  go_enter Tryz.func99, Tryz.ntmps99
  go_wp2_with fail
  refine (HS.out _ o1.out).mono ?_
  rintro e w2 ⟨rfl, o2⟩
  have SA2 := hid (SA.out.only o2 (by simp))
  have SB2 := hid (SB.out.only o2 (by simp))
  have oo2 := hid (o1.out.trans o2 (by simp))
  clear a0 a1 a2 a3 a4 a5 a6 a7 a8 a9 b0 b1 b2 b3 b4 b5 b6 b7 b8 b9
  obtain ⟨a0, a1, a2, a3, a4, a5, a6, a7, a8, a9, _, _, _, _, _, _, _, _, _, _⟩ := SA2.out
  obtain ⟨b0, b1, b2, b3, b4, b5, b6, b7, b8, b9, _, _, _, _, _, _, _, _, _, _⟩ := SB2.out
  go_wp2_with fail
  go_ret
  exact ⟨rfl, oo2.out⟩
 subst c5
 by_cases c6 : ac = bc
 case neg =>
  have hd6 : decide (ac = bc) = false := by simp [c6]
  rw [hd6] at HE
  clear hd6
  have hF : R = false := by
   rw [hR.out]
   simp [c6]
  subst hF
  clear hR
  go_enter Tryz.func99, Tryz.ntmps99
  go_wp2_with fail
  refine (HS.out _ o1.out).mono ?_
  rintro e w2 ⟨rfl, o2⟩
  have SA2 := hid (SA.out.only o2 (by simp))
  have SB2 := hid (SB.out.only o2 (by simp))
  have oo2 := hid (o1.out.trans o2 (by simp))
  clear a0 a1 a2 a3 a4 a5 a6 a7 a8 a9 b0 b1 b2 b3 b4 b5 b6 b7 b8 b9
  obtain ⟨a0, a1, a2, a3, a4, a5, a6, a7, a8, a9, _, _, _, _, _, _, _, _, _, _⟩ := SA2.out
  obtain ⟨b0, b1, b2, b3, b4, b5, b6, b7, b8, b9, _, _, _, _, _, _, _, _, _, _⟩ := SB2.out
  go_wp2_with fail
  refine (HE.out _ oo2.out).mono ?_
  rintro e w3 ⟨rfl, o3⟩
  go_wp2_with fail
  go_ret
  exact ⟨rfl, oo2.out.trans o3 (by simp)⟩
 have hd6 : decide (ac = bc) = true := by simp [c6]
 rw [hd6] at HE
 clear hd6
 replace c6 := hid c6
 have hfin : Hid (R = decide (ah = bh)) := by
  unfold Hid
  rw [hR.out]
  simp [c6.out]
 clear hR
 go_enter Tryz.func99, Tryz.ntmps99
 go_wp2_with fail
 refine (HS.out _ o1.out).mono ?_
 rintro e w2 ⟨rfl, o2⟩
 have SA2 := hid (SA.out.only o2 (by simp))
 have SB2 := hid (SB.out.only o2 (by simp))
 have oo2 := hid (o1.out.trans o2 (by simp))
 clear a0 a1 a2 a3 a4 a5 a6 a7 a8 a9 b0 b1 b2 b3 b4 b5 b6 b7 b8 b9
 obtain ⟨a0, a1, a2, a3, a4, a5, a6, a7, a8, a9, _, _, _, _, _, _, _, _, _, _⟩ := SA2.out
 obtain ⟨b0, b1, b2, b3, b4, b5, b6, b7, b8, b9, _, _, _, _, _, _, _, _, _, _⟩ := SB2.out
 go_wp2_with fail
 refine (HE.out _ oo2.out).mono ?_
 rintro e w3 ⟨rfl, o3⟩
 have SA3 := hid (SA2.out.only o3 (by simp))
 have SB3 := hid (SB2.out.only o3 (by simp))
 have oo3 := hid (oo2.out.trans o3 (by simp))
 clear a0 a1 a2 a3 a4 a5 a6 a7 a8 a9 b0 b1 b2 b3 b4 b5 b6 b7 b8 b9
 obtain ⟨a0, a1, a2, a3, a4, a5, a6, a7, a8, a9, _, _, _, _, _, _, _, _, _, _⟩ := SA3.out
 obtain ⟨b0, b1, b2, b3, b4, b5, b6, b7, b8, b9, _, _, _, _, _, _, _, _, _, _⟩ := SB3.out
 go_wp2_with fail
 refine (HH.out _ oo3.out).mono ?_
 rintro e w4 ⟨rfl, o4⟩
 go_wp2_with fail
 go_ret
 rw [hfin.out]
 exact ⟨rfl, oo3.out.trans o4 (by simp)⟩

set_option maxHeartbeats 4000000 in
set_option maxRecDepth 100000 in
theorem eqf_me {w : World} {P Q : Nat → Prop} {ao bo : Option Addr} {l m : List Me} {d k cap bap : Nat} {cs ds : List Value} (hT : RS w ao cs d) (hM : RS w bo ds k) (hE : Els 10 (MeC (SlR w P)) cs l) (hG : Els 10 (MeC (SlR w Q)) ds m) (hl : l.length ≤ 9223372036854775807) :
  Calls Tryz.prog 98 #[.slice ao l.length cap, .slice bo m.length bap, .func (.func 99) #[] #[]] w fun e w' => e = .returned (.bool (decide (l = m))) ∧ Only [] w w' := by
 replace hT := hid hT
 replace hM := hid hM
 replace hE := hid hE
 replace hG := hid hG
 by_cases hq : l.length = m.length
 ·rw [← hq]
  replace hq := hid hq
  go_enter Tryz.func98, Tryz.ntmps98
  go_wp2
  go_loopw [17] (fun i wr => ∃ j : Nat, j ≤ l.length ∧ i = .int .i64 (j : Int) ∧ Hid (l.take j = m.take j) ∧ Hid (Only [] w wr)) (fun i _ => l.length - (intOf i).toNat)
  case atStart => exact ⟨0, by omega, rfl, hid (by simp), hid (Only.refl _ _)⟩
  case round =>
   obtain ⟨j, hj, rfl, hpre, hor⟩ := hrel
   by_cases hlt : j < l.length
   ·have g2 : ((j : Int) < (l.length : Int)) := by omega
    have hlt2 : j < m.length := by rw [← hq.out]; exact hlt
    obtain ⟨off, vp, vc, vh, rfl, hm1, y0, y1, y2, y3, y4, y5, y6, y7, y8, y9⟩ := me_cells (hT.out.only0 hor.out) hE.out hlt
    obtain ⟨off2, up, uc, uh, rfl, hm2, z0, z1, z2, z3, z4, z5, z6, z7, z8, z9⟩ := me_cells (hM.out.only0 hor.out) hG.out hlt2
    obtain ⟨q0, q1, rfl, _⟩ := SlV.shape hm1.params
    obtain ⟨q2, q3, rfl, _⟩ := SlV.shape hm1.code
    obtain ⟨q4, q5, rfl, _⟩ := SlV.shape hm1.hands
    obtain ⟨q6, q7, rfl, _⟩ := SlV.shape hm2.params
    obtain ⟨q8, q9, rfl, _⟩ := SlV.shape hm2.code
    obtain ⟨q10, q11, rfl, _⟩ := SlV.shape hm2.hands
    have HC := fun W (hW : Only [] wr W) => msame_method l[j] m[j] ((hm1.only0 hor.out).only0 hW) ((hm2.only0 hor.out).only0 hW)
    have hnx : Hid (l[j] = m[j] → l.take (j + 1) = m.take (j + 1)) := by
     intro e
     rw [List.take_succ_eq_append_getElem hlt, List.take_succ_eq_append_getElem hlt2, hpre.out, e]
    have hno : Hid (l[j] ≠ m[j] → l ≠ m) := by
     intro e1 e2
     apply e1
     simp [e2]
    clear hm1 hm2 hpre
    have g3 : ((j : Int) < (m.length : Int)) := by omega
    generalize l[j] = s at *
    generalize m[j] = t at *
    clear hlt2
    unfold meV at HC
    have oa := ((Only.refl [] wr).alloc (.cells #[.int .i64 s.flags, .string (str s.name), .slice q0 s.sig.1.length q1, .bool s.sig.2.1, .int .i64 s.sig.2.2.1, .string (str s.sig.2.2.2), .int .i64 s.stack, .int .i64 s.locals, .slice q2 s.code.length q3, .slice q4 s.hands.length q5] 41)).alloc (.cells #[.int .i64 t.flags, .string (str t.name), .slice q6 t.sig.1.length q7, .bool t.sig.2.1, .int .i64 t.sig.2.2.1, .string (str t.sig.2.2.2), .int .i64 t.stack, .int .i64 t.locals, .slice q8 t.code.length q9, .slice q10 t.hands.length q11] 41)
    have x0 := fun u => cell_alloc u z0
    have x1 := fun u => cell_alloc u z1
    have x2 := fun u => cell_alloc u z2
    have x3 := fun u => cell_alloc u z3
    have x4 := fun u => cell_alloc u z4
    have x5 := fun u => cell_alloc u z5
    have x6 := fun u => cell_alloc u z6
    have x7 := fun u => cell_alloc u z7
    have x8 := fun u => cell_alloc u z8
    have x9 := fun u => cell_alloc u z9
    clear z0 z1 z2 z3 z4 z5 z6 z7 z8 z9
    replace HC := hid HC
    by_cases hs : s = t
    ·have hd1 : decide (s = t) = true := by simp [hs]
     rw [hd1] at HC
     replace hnx := hid (hnx.out hs)
     clear hs hno hd1
     go_wp2_with fail
     refine (HC.out _ oa).mono ?_
     rintro e w4 ⟨rfl, o4⟩
     go_wp2_with fail
     exact ⟨⟨j + 1, by omega, by go_num, hnx, hid ((hor.out.trans oa (by simp)).trans o4 (by simp))⟩, by simp [intOf]; omega⟩
    ·have e1 : Hid (decide (l = m) = false) := by simp [Hid, hno.out hs]
     have hd1 : decide (s = t) = false := by simp [hs]
     rw [hd1] at HC
     clear hs hno hnx hd1
     go_wp2_with fail
     refine (HC.out _ oa).mono ?_
     rintro e w4 ⟨rfl, o4⟩
     go_wp2_with fail
     go_ret
     exact ⟨by rw [e1.out]; rfl, (hor.out.trans oa (by simp)).trans o4 (by simp)⟩
   ·have g2 : ¬ ((j : Int) < (l.length : Int)) := by omega
    have e1 : Hid (decide (l = m) = true) := by
     have h0 := hpre.out
     rw [List.take_of_length_le (by omega), List.take_of_length_le (by have := hq.out; omega)] at h0
     simp [Hid, h0]
    clear hpre
    go_wp2
    go_ret
    exact ⟨by rw [e1.out]; rfl, hor.out⟩
 ·have g1 : ¬ ((l.length : Int) = (m.length : Int)) := by omega
  have g2 : ((l.length : Int) != (m.length : Int)) = true := by simpa using g1
  have hne : ¬ (l = m) := fun e => hq (by rw [e])
  have e1 : Hid (decide (l = m) = false) := by simp [Hid, hne]
  rw [e1.out]
  clear hne e1
  go_enter Tryz.func98, Tryz.ntmps98
  go_wp2
  go_ret
  exact ⟨rfl, Only.refl _ _⟩

set_option maxHeartbeats 4000000 in
set_option maxRecDepth 100000 in
theorem msame_class {w : World} {P Q : Nat → Prop} (a b : Cl) {vf vd vm uf ud um : Value} (hA : ClAt (SlR w P) vf vd vm a) (hB : ClAt (SlR w Q) uf ud um b) :
  Calls Tryz.prog 39 #[clV vf vd vm a, clV uf ud um b] w fun e w' => e = .returned (.bool (decide (a = b))) ∧ Only [] w w' := by
 obtain ⟨af, an, au, aF, aD, aM⟩ := a
 obtain ⟨bf, bn, bu, bF, bD, bM⟩ := b
 obtain ⟨hA1, hA2, acs, hA3, hEA⟩ := hA
 obtain ⟨hB1, hB2, bcs, hB3, hEB⟩ := hB
 obtain ⟨fo, fcap, rfl, pl⟩ := SlV.shape hA1
 obtain ⟨do_, dcap, rfl, cl⟩ := SlV.shape hA2
 obtain ⟨mo, mcap, rfl, hl⟩ := SlV.shape hA3
 obtain ⟨go, gcap, rfl, ql⟩ := SlV.shape hB1
 obtain ⟨eo, ecap, rfl, el⟩ := SlV.shape hB2
 obtain ⟨no_, ncap, rfl, gl⟩ := SlV.shape hB3
 obtain ⟨d1, r1⟩ := SlV.rs hA1
 obtain ⟨d2, r2⟩ := SlV.rs hA2
 obtain ⟨d3, r3⟩ := SlV.rs hA3
 obtain ⟨d4, r4⟩ := SlV.rs hB1
 obtain ⟨d5, r5⟩ := SlV.rs hB2
 obtain ⟨d6, r6⟩ := SlV.rs hB3
 clear hA1 hA2 hA3 hB1 hB2 hB3
 simp only at pl cl hl ql el gl r1 r2 r3 r4 r5 r6 hEA hEB
 have HS := hid (fun W (hW : Only [] w W) => equal_str (cap := fcap) (bap := gcap) (r1.only0 hW) (r4.only0 hW) pl)
 have HE := hid (fun W (hW : Only [] w W) => equal_fd (cap := dcap) (bap := ecap) (r2.only0 hW) (r5.only0 hW) cl)
 have HH := hid (fun W (hW : Only [] w W) => eqf_me (P := P) (Q := Q) (cap := mcap) (bap := ncap) (r3.only0 hW) (r6.only0 hW) (hEA.imp fun _ _ _ h => h.imp (slr_only hW (by simp))) (hEB.imp fun _ _ _ h => h.imp (slr_only hW (by simp))) hl)
 clear r1 r2 r3 r4 r5 r6 hEA hEB
 obtain ⟨R, hR⟩ : ∃ R, R = decide ((⟨af, an, au, aF, aD, aM⟩ : Cl) = ⟨bf, bn, bu, bF, bD, bM⟩) := ⟨_, rfl⟩
 rw [← hR]
 replace hR := hid hR
 simp only [clV]
 have o1 := ((Only.refl [] w).alloc (.cells #[.int .i64 af, .string (str an), .string (str au), .slice fo aF.length fcap, .slice do_ aD.length dcap, .slice mo aM.length mcap] 28)).alloc (.cells #[.int .i64 bf, .string (str bn), .string (str bu), .slice go bF.length gcap, .slice eo bD.length ecap, .slice no_ bM.length ncap] 28)
 have SA := hid ((cl6_new w (.int .i64 af) (.string (str an)) (.string (str au)) (.slice fo aF.length fcap) (.slice do_ aD.length dcap) (.slice mo aM.length mcap) 28).only ((Only.refl [] _).alloc (.cells #[.int .i64 bf, .string (str bn), .string (str bu), .slice go bF.length gcap, .slice eo bD.length ecap, .slice no_ bM.length ncap] 28)) (by simp))
 have SB := cl6_new (w.alloc (.cells #[.int .i64 af, .string (str an), .string (str au), .slice fo aF.length fcap, .slice do_ aD.length dcap, .slice mo aM.length mcap] 28)) (.int .i64 bf) (.string (str bn)) (.string (str bu)) (.slice go bF.length gcap) (.slice eo bD.length ecap) (.slice no_ bM.length ncap) 28
 rw [World.size_alloc] at SB
 replace SB := hid SB
 replace o1 := hid o1
 obtain ⟨a0, a1, a2, a3, a4, a5, _, _, _, _, _, _⟩ := SA.out
 obtain ⟨b0, b1, b2, b3, b4, b5, _, _, _, _, _, _⟩ := SB.out
 by_cases c1 : af = bf
 case neg =>
  have hF : R = false := by
   rw [hR.out]
   simp [c1]
  subst hF
  have n1 : (af == bf) = false := by simpa using c1
  clear hR
  go_enter Tryz.func39, Tryz.ntmps39
  go_wp2_with fail
  go_ret
  exact ⟨rfl, o1.out⟩
 subst c1
 by_cases c2 : an = bn
 case neg =>
  have hF : R = false := by
   rw [hR.out]
   simp [c2]
  subst hF
  have p1 : ¬ ((str an).toList = (str bn).toList) := by rw [str_toList, str_toList]; exact c2
  have q1 : ((str an).toList == (str bn).toList) = false := by simpa using p1
  clear hR
  go_enter Tryz.func39, Tryz.ntmps39
  go_wp2_with fail
  go_ret
  exact ⟨rfl, o1.out⟩
 subst c2
 by_cases c3 : au = bu
 case neg =>
  have hF : R = false := by
   rw [hR.out]
   simp [c3]
  subst hF
  have p1 : ¬ ((str au).toList = (str bu).toList) := by rw [str_toList, str_toList]; exact c3
  have q1 : ((str au).toList == (str bu).toList) = false := by simpa using p1
  clear hR
  go_enter Tryz.func39, Tryz.ntmps39
  go_wp2_with fail
  go_ret
  exact ⟨rfl, o1.out⟩
 subst c3
 by_cases c4 : aF = bF
 case neg =>
  have hd6 : decide (aF = bF) = false := by simp [c4]
  rw [hd6] at HS
  clear hd6
  have hF : R = false := by
   rw [hR.out]
   simp [c4]
  subst hF
  clear hR
  go_enter Tryz.func39, Tryz.ntmps39
  go_wp2_with fail
  refine (HS.out _ o1.out).mono ?_
  rintro e w2 ⟨rfl, o2⟩
  go_wp2_with fail
  go_ret
  exact ⟨rfl, o1.out.trans o2 (by simp)⟩
 have hd6 : decide (aF = bF) = true := by simp [c4]
 rw [hd6] at HS
 clear hd6
 replace c4 := hid c4
 by_cases c5 : aD = bD
 case neg =>
  have hd6 : decide (aD = bD) = false := by simp [c5]
  rw [hd6] at HE
  clear hd6
  have hF : R = false := by
   rw [hR.out]
   simp [c5]
  subst hF
  clear hR
  go_enter Tryz.func39, Tryz.ntmps39
  go_wp2_with fail
  refine (HS.out _ o1.out).mono ?_
  rintro e w2 ⟨rfl, o2⟩
  have SA2 := hid (SA.out.only o2 (by simp))
  have SB2 := hid (SB.out.only o2 (by simp))
  have oo2 := hid (o1.out.trans o2 (by simp))
  clear a0 a1 a2 a3 a4 a5 b0 b1 b2 b3 b4 b5
  obtain ⟨a0, a1, a2, a3, a4, a5, _, _, _, _, _, _⟩ := SA2.out
  obtain ⟨b0, b1, b2, b3, b4, b5, _, _, _, _, _, _⟩ := SB2.out
  go_wp2_with fail
  refine (HE.out _ oo2.out).mono ?_
  rintro e w3 ⟨rfl, o3⟩
  go_wp2_with fail
  go_ret
  exact ⟨rfl, oo2.out.trans o3 (by simp)⟩
 have hd6 : decide (aD = bD) = true := by simp [c5]
 rw [hd6] at HE
 clear hd6
 replace c5 := hid c5
 have hfin : Hid (R = decide (aM = bM)) := by
  unfold Hid
  rw [hR.out]
  simp [c4.out, c5.out]
 clear hR
 go_enter Tryz.func39, Tryz.ntmps39
 go_wp2_with fail
 refine (HS.out _ o1.out).mono ?_
 rintro e w2 ⟨rfl, o2⟩
 have SA2 := hid (SA.out.only o2 (by simp))
 have SB2 := hid (SB.out.only o2 (by simp))
 have oo2 := hid (o1.out.trans o2 (by simp))
 clear a0 a1 a2 a3 a4 a5 b0 b1 b2 b3 b4 b5
 obtain ⟨a0, a1, a2, a3, a4, a5, _, _, _, _, _, _⟩ := SA2.out
 obtain ⟨b0, b1, b2, b3, b4, b5, _, _, _, _, _, _⟩ := SB2.out
 go_wp2_with fail
 refine (HE.out _ oo2.out).mono ?_
 rintro e w3 ⟨rfl, o3⟩
 have SA3 := hid (SA2.out.only o3 (by simp))
 have SB3 := hid (SB2.out.only o3 (by simp))
 have oo3 := hid (oo2.out.trans o3 (by simp))
 clear a0 a1 a2 a3 a4 a5 b0 b1 b2 b3 b4 b5
 obtain ⟨a0, a1, a2, a3, a4, a5, _, _, _, _, _, _⟩ := SA3.out
 obtain ⟨b0, b1, b2, b3, b4, b5, _, _, _, _, _, _⟩ := SB3.out
 go_wp2_with fail
 refine (HH.out _ oo3.out).mono ?_
 rintro e w4 ⟨rfl, o4⟩
 go_wp2_with fail
 go_ret
 rw [hfin.out]
 exact ⟨rfl, oo3.out.trans o4 (by simp)⟩

set_option maxHeartbeats 4000000 in
set_option maxRecDepth 100000 in
theorem eqf_cl {w : World} {P Q : Nat → Prop} {ao bo : Option Addr} {l m : List Cl} {d k cap bap : Nat} {cs ds : List Value} (hT : RS w ao cs d) (hM : RS w bo ds k) (hE : Els 6 (ClC (SlR w P)) cs l) (hG : Els 6 (ClC (SlR w Q)) ds m) (hl : l.length ≤ 9223372036854775807) :
  Calls Tryz.prog 38 #[.slice ao l.length cap, .slice bo m.length bap, .func (.func 39) #[] #[]] w fun e w' => e = .returned (.bool (decide (l = m))) ∧ Only [] w w' := by
 replace hT := hid hT
 replace hM := hid hM
 replace hE := hid hE
 replace hG := hid hG
 by_cases hq : l.length = m.length
 ·rw [← hq]
  replace hq := hid hq
  go_enter Tryz.func38, Tryz.ntmps38
  go_wp2
  go_loopw [17] (fun i wr => ∃ j : Nat, j ≤ l.length ∧ i = .int .i64 (j : Int) ∧ Hid (l.take j = m.take j) ∧ Hid (Only [] w wr)) (fun i _ => l.length - (intOf i).toNat)
  case atStart => exact ⟨0, by omega, rfl, hid (by simp), hid (Only.refl _ _)⟩
  case round =>
   obtain ⟨j, hj, rfl, hpre, hor⟩ := hrel
   by_cases hlt : j < l.length
   ·have g2 : ((j : Int) < (l.length : Int)) := by omega
    have hlt2 : j < m.length := by rw [← hq.out]; exact hlt
    obtain ⟨off, vf, vd, vm, rfl, hm1, y0, y1, y2, y3, y4, y5⟩ := cl_cells (hT.out.only0 hor.out) hE.out hlt
    obtain ⟨off2, uf, ud, um, rfl, hm2, z0, z1, z2, z3, z4, z5⟩ := cl_cells (hM.out.only0 hor.out) hG.out hlt2
    obtain ⟨q0, q1, rfl, _⟩ := SlV.shape hm1.faces
    obtain ⟨q2, q3, rfl, _⟩ := SlV.shape hm1.fields
    obtain ⟨mm0, hmm0, _⟩ := hm1.methods
    obtain ⟨q4, q5, rfl, _⟩ := SlV.shape hmm0
    clear hmm0
    obtain ⟨q6, q7, rfl, _⟩ := SlV.shape hm2.faces
    obtain ⟨q8, q9, rfl, _⟩ := SlV.shape hm2.fields
    obtain ⟨mm6, hmm6, _⟩ := hm2.methods
    obtain ⟨q10, q11, rfl, _⟩ := SlV.shape hmm6
    clear hmm6
    have HC := fun W (hW : Only [] wr W) => msame_class l[j] m[j] ((hm1.only0 hor.out).only0 hW) ((hm2.only0 hor.out).only0 hW)
    have hnx : Hid (l[j] = m[j] → l.take (j + 1) = m.take (j + 1)) := by
     intro e
     rw [List.take_succ_eq_append_getElem hlt, List.take_succ_eq_append_getElem hlt2, hpre.out, e]
    have hno : Hid (l[j] ≠ m[j] → l ≠ m) := by
     intro e1 e2
     apply e1
     simp [e2]
    clear hm1 hm2 hpre
    have g3 : ((j : Int) < (m.length : Int)) := by omega
    generalize l[j] = s at *
    generalize m[j] = t at *
    clear hlt2
    unfold clV at HC
    have oa := ((Only.refl [] wr).alloc (.cells #[.int .i64 s.flags, .string (str s.name), .string (str s.super), .slice q0 s.faces.length q1, .slice q2 s.fields.length q3, .slice q4 s.methods.length q5] 28)).alloc (.cells #[.int .i64 t.flags, .string (str t.name), .string (str t.super), .slice q6 t.faces.length q7, .slice q8 t.fields.length q9, .slice q10 t.methods.length q11] 28)
    have x0 := fun u => cell_alloc u z0
    have x1 := fun u => cell_alloc u z1
    have x2 := fun u => cell_alloc u z2
    have x3 := fun u => cell_alloc u z3
    have x4 := fun u => cell_alloc u z4
    have x5 := fun u => cell_alloc u z5
    clear z0 z1 z2 z3 z4 z5
    replace HC := hid HC
    by_cases hs : s = t
    ·have hd1 : decide (s = t) = true := by simp [hs]
     rw [hd1] at HC
     replace hnx := hid (hnx.out hs)
     clear hs hno hd1
     go_wp2_with fail
     refine (HC.out _ oa).mono ?_
     rintro e w4 ⟨rfl, o4⟩
     go_wp2_with fail
     exact ⟨⟨j + 1, by omega, by go_num, hnx, hid ((hor.out.trans oa (by simp)).trans o4 (by simp))⟩, by simp [intOf]; omega⟩
    ·have e1 : Hid (decide (l = m) = false) := by simp [Hid, hno.out hs]
     have hd1 : decide (s = t) = false := by simp [hs]
     rw [hd1] at HC
     clear hs hno hnx hd1
     go_wp2_with fail
     refine (HC.out _ oa).mono ?_
     rintro e w4 ⟨rfl, o4⟩
     go_wp2_with fail
     go_ret
     exact ⟨by rw [e1.out]; rfl, (hor.out.trans oa (by simp)).trans o4 (by simp)⟩
   ·have g2 : ¬ ((j : Int) < (l.length : Int)) := by omega
    have e1 : Hid (decide (l = m) = true) := by
     have h0 := hpre.out
     rw [List.take_of_length_le (by omega), List.take_of_length_le (by have := hq.out; omega)] at h0
     simp [Hid, h0]
    clear hpre
    go_wp2
    go_ret
    exact ⟨by rw [e1.out]; rfl, hor.out⟩
 ·have g1 : ¬ ((l.length : Int) = (m.length : Int)) := by omega
  have g2 : ((l.length : Int) != (m.length : Int)) = true := by simpa using g1
  have hne : ¬ (l = m) := fun e => hq (by rw [e])
  have e1 : Hid (decide (l = m) = false) := by simp [Hid, hne]
  rw [e1.out]
  clear hne e1
  go_enter Tryz.func38, Tryz.ntmps38
  go_wp2
  go_ret
  exact ⟨rfl, Only.refl _ _⟩

set_option maxHeartbeats 4000000 in
set_option maxRecDepth 100000 in
theorem msame_any {w : World} {P Q : Nat → Prop} (a b : Mo) {vp vc up uc : Value} (hA : MoAt (SlR w P) vp vc a) (hB : MoAt (SlR w Q) up uc b) :
  Calls Tryz.prog 15 #[.agg #[vp, vc], .agg #[up, uc]] w fun e w' => e = .returned (.bool (decide (a = b))) ∧ Only [] w w' := by
 obtain ⟨aP, aC⟩ := a
 obtain ⟨bP, bC⟩ := b
 obtain ⟨hA1, acs, hA2, hEA⟩ := hA
 obtain ⟨hB1, bcs, hB2, hEB⟩ := hB
 obtain ⟨po, pcap, rfl, pl⟩ := SlV.shape hA1
 obtain ⟨co, ccap, rfl, cl⟩ := SlV.shape hA2
 obtain ⟨qo, qcap, rfl, ql⟩ := SlV.shape hB1
 obtain ⟨eo, ecap, rfl, el⟩ := SlV.shape hB2
 obtain ⟨d1, r1⟩ := SlV.rs hA1
 obtain ⟨d2, r2⟩ := SlV.rs hA2
 obtain ⟨d3, r3⟩ := SlV.rs hB1
 obtain ⟨d4, r4⟩ := SlV.rs hB2
 clear hA1 hA2 hB1 hB2
 simp only at pl cl ql el r1 r2 r3 r4 hEA hEB
 have HS := hid (fun W (hW : Only [] w W) => equal_en (cap := pcap) (bap := qcap) (r1.only0 hW) (r3.only0 hW) pl)
 have HE := hid (fun W (hW : Only [] w W) => eqf_cl (P := P) (Q := Q) (cap := ccap) (bap := ecap) (r2.only0 hW) (r4.only0 hW) (hEA.imp fun _ _ _ h => h.imp (slr_only hW (by simp))) (hEB.imp fun _ _ _ h => h.imp (slr_only hW (by simp))) cl)
 clear r1 r2 r3 r4 hEA hEB
 obtain ⟨R, hR⟩ : ∃ R, R = decide ((⟨aP, aC⟩ : Mo) = ⟨bP, bC⟩) := ⟨_, rfl⟩
 rw [← hR]
 replace hR := hid hR
 have o1 := ((Only.refl [] w).alloc (.cells #[.slice po aP.length pcap, .slice co aC.length ccap] 32)).alloc (.cells #[.slice qo bP.length qcap, .slice eo bC.length ecap] 32)
 have SA := hid ((mo2_new w (.slice po aP.length pcap) (.slice co aC.length ccap) 32).only ((Only.refl [] _).alloc (.cells #[.slice qo bP.length qcap, .slice eo bC.length ecap] 32)) (by simp))
 have SB := mo2_new (w.alloc (.cells #[.slice po aP.length pcap, .slice co aC.length ccap] 32)) (.slice qo bP.length qcap) (.slice eo bC.length ecap) 32
 rw [World.size_alloc] at SB
 replace SB := hid SB
 replace o1 := hid o1
 obtain ⟨a0, a1, _, _⟩ := SA.out
 obtain ⟨b0, b1, _, _⟩ := SB.out
 by_cases c4 : aP = bP
 case neg =>
  have hd6 : decide (aP = bP) = false := by simp [c4]
  rw [hd6] at HS
  clear hd6
  have hF : R = false := by
   rw [hR.out]
   simp [c4]
  subst hF
  clear hR
  go_enter Tryz.func15, Tryz.ntmps15
  go_wp2_with fail
  refine (HS.out _ o1.out).mono ?_
  rintro e w2 ⟨rfl, o2⟩
  go_wp2_with fail
  go_ret
  exact ⟨rfl, o1.out.trans o2 (by simp)⟩
 have hd6 : decide (aP = bP) = true := by simp [c4]
 rw [hd6] at HS
 clear hd6
 replace c4 := hid c4
 have hfin : Hid (R = decide (aC = bC)) := by
  unfold Hid
  rw [hR.out]
  simp [c4.out]
 clear hR
 go_enter Tryz.func15, Tryz.ntmps15
 go_wp2_with fail
 refine (HS.out _ o1.out).mono ?_
 rintro e w2 ⟨rfl, o2⟩
 have SA2 := hid (SA.out.only o2 (by simp))
 have SB2 := hid (SB.out.only o2 (by simp))
 have oo2 := hid (o1.out.trans o2 (by simp))
 clear a0 a1 b0 b1
 obtain ⟨a0, a1, _, _⟩ := SA2.out
 obtain ⟨b0, b1, _, _⟩ := SB2.out
 go_wp2_with fail
 refine (HE.out _ oo2.out).mono ?_
 rintro e w3 ⟨rfl, o3⟩
 go_wp2_with fail
 go_ret
 rw [hfin.out]
 exact ⟨rfl, oo2.out.trans o3 (by simp)⟩

/-- What was wrong first, or what is left and how much was read. -/
abbrev St := Sum (Int × Int) Rs

/-- A source in block sb over a reader in block r. -/
structure Sc0 (w : World) (sb r d : Nat) (bp : Option Addr) (s : List UInt8 × Nat × Int) : Prop where
 c0 : w.cell? ⟨sb, 0, none⟩ = some (.pointer (some ⟨r, 0, none⟩))
 c1 : w.cell? ⟨sb, 1, none⟩ = some (.pointer bp)
 f1 : w.frozen? ⟨sb, 1, none⟩ = false
 rd : RdE w r d s
 ne : sb ≠ r
 nd : d ≠ sb
 nr : d ≠ r
 dl : d < w.heap.size
 few : s.1.length ≤ 262144

inductive Sc (w : World) (sb r d : Nat) : St → Prop where
 | fine {l : List UInt8} {n : Nat} (h : Sc0 w sb r d none (l, n, 0)) : Sc w sb r d (.inr (l, n))
 | cut {l : List UInt8} {n : Nat} {e : Int} (he : e ≠ 0) (h : Sc0 w sb r d none (l, n, e)) : Sc w sb r d (.inl ((n : Int), e))
 | bad {s : List UInt8 × Nat × Int} {q : Nat} {a e : Int} (he : e ≠ 0) (h : Sc0 w sb r d (some ⟨q, 0, none⟩) s) (hq : BadAt w q (0, 0, a, e)) (hn : sb < q ∧ q ≠ r) : Sc w sb r d (.inl (a, e))

theorem Sc0.only {w w' : World} {S : List Nat} {sb r d : Nat} {bp : Option Addr} {s : List UInt8 × Nat × Int} (h : Sc0 w sb r d bp s) (ho : Only S w w') (h1 : sb ∉ S) (h2 : r ∉ S) (h3 : d ∉ S) : Sc0 w' sb r d bp s := by
 have hl : sb < w.heap.size := World.block_lt_of_cell? w _ h.c0
 exact ⟨(ho.cell (p := ⟨sb, 0, none⟩) hl h1).trans h.c0, (ho.cell (p := ⟨sb, 1, none⟩) hl h1).trans h.c1, (ho.frozen (p := ⟨sb, 1, none⟩) hl h1).trans h.f1, h.rd.only ho h2 h3, h.ne, h.nd, h.nr, Nat.lt_of_lt_of_le h.dl ho.size, h.few⟩

theorem Sc.lt {w : World} {sb r d : Nat} {t : St} (h : Sc w sb r d t) : sb < w.heap.size ∧ r < w.heap.size ∧ d < w.heap.size ∧ sb ≠ r ∧ d ≠ sb ∧ d ≠ r := by
 cases h with
 | fine h => exact ⟨World.block_lt_of_cell? w _ h.c0, h.rd.lt, h.dl, h.ne, h.nd, h.nr⟩
 | cut he h => exact ⟨World.block_lt_of_cell? w _ h.c0, h.rd.lt, h.dl, h.ne, h.nd, h.nr⟩
 | bad he h hq hn => exact ⟨World.block_lt_of_cell? w _ h.c0, h.rd.lt, h.dl, h.ne, h.nd, h.nr⟩

theorem Sc.c0 {w : World} {sb r d : Nat} {t : St} (h : Sc w sb r d t) : w.cell? ⟨sb, 0, none⟩ = some (.pointer (some ⟨r, 0, none⟩)) := by
 cases h with
 | fine h => exact h.c0
 | cut he h => exact h.c0
 | bad he h hq hn => exact h.c0

/-- What turns only new blocks leaves a source as it is. -/
theorem Sc.only0 {w w' : World} {sb r d : Nat} {t : St} (h : Sc w sb r d t) (ho : Only [] w w') : Sc w' sb r d t := by
 cases h with
 | fine h => exact .fine (h.only ho (by simp) (by simp) (by simp))
 | cut he h => exact .cut he (h.only ho (by simp) (by simp) (by simp))
 | bad he h hq hn => exact .bad he (h.only ho (by simp) (by simp) (by simp)) (hq.only ho (by simp)) hn

/-- What turns blocks from B on, all of the source lying below B but for what was wrong: only where nothing is wrong yet. -/
theorem Sc.drew {w : World} {sb r d : Nat} {t : St} (h : Sc w sb r d t) : Sc w.drew sb r d t := h.only0 ((Only.refl [] w).drew)
/-- Where a source stands when m bytes were asked for. -/
def tAfter (m : Nat) (t : St) : St := match t with
 | .inl f => .inl f
 | .inr x => match pTake m x with
  | .inl f => .inl f
  | .inr (_, y) => .inr y

/-- What a piece that reads by p came to. -/
def Out {α : Type} (p : Pr α) (t : St) (x : α) (t' : St) : Prop := match t with
 | .inl f => t' = .inl f
 | .inr u => match p u with
  | .inl f => t' = .inl f
  | .inr (y, u') => x = y ∧ t' = .inr u'

theorem Sc.reader {w : World} {sb r d : Nat} {t : St} (h : Sc w sb r d t) : ∃ s, RdE w r d s ∧ s.1.length ≤ 262144 ∧ (∀ u, t = .inr u → s = (u.1, u.2, 0)) ∧ ∀ m w', RdE w' r d (rTake s m).2 → Only [r] w w' → Sc w' sb r d (tAfter m t) := by
 have key : ∀ {bp : Option Addr} {s : List UInt8 × Nat × Int} (h : Sc0 w sb r d bp s) (m : Nat) (w' : World), RdE w' r d (rTake s m).2 → Only [r] w w' → Sc0 w' sb r d bp (rTake s m).2 := by
  intro bp s h m w' hr ho
  have hl : sb < w.heap.size := World.block_lt_of_cell? w _ h.c0
  have hne := h.ne
  refine ⟨(ho.cell (p := ⟨sb, 0, none⟩) hl (by simpa using hne)).trans h.c0, (ho.cell (p := ⟨sb, 1, none⟩) hl (by simpa using hne)).trans h.c1, (ho.frozen (p := ⟨sb, 1, none⟩) hl (by simpa using hne)).trans h.f1, hr, h.ne, h.nd, h.nr, Nat.lt_of_lt_of_le h.dl ho.size, ?_⟩
  have hf := h.few
  unfold rTake
  split
  ·split
   ·exact hf
   ·simp only [List.length_drop]
    omega
  ·exact hf
 cases h with
 | fine h =>
  rename_i l n
  refine ⟨(l, n, 0), h.rd, h.few, fun u hu => by cases hu; rfl, fun m w' hr ho => ?_⟩
  have k := key h m w' hr ho
  unfold tAfter pTake
  simp only [rTake] at k ⊢
  by_cases hm : l.length < m
  ·rw [if_pos hm]
   rw [if_pos trivial, if_pos hm] at k
   exact .cut (by decide) k
  ·rw [if_neg hm]
   rw [if_pos trivial, if_neg hm] at k
   exact .fine k
 | cut he h =>
  rename_i l n e
  refine ⟨(l, n, e), h.rd, h.few, (fun u hu => by cases hu), fun m w' hr ho => ?_⟩
  have k := key h m w' hr ho
  have e1 : rTake (l, n, e) m = ([], l, n, e) := by unfold rTake; rw [if_neg he]
  rw [e1] at k
  exact .cut he k
 | bad he h hq hn =>
  rename_i s q a e
  refine ⟨s, h.rd, h.few, (fun u hu => by cases hu), fun m w' hr ho => ?_⟩
  exact .bad he (key h m w' hr ho) (hq.only ho (by simpa using hn.2)) hn

/-- What Out says of one take. -/
theorem out_take {α : Type} {m : Nat} {t : St} {s : List UInt8 × Nat × Int} (hs : ∀ u, t = .inr u → s = (u.1, u.2, 0)) (f : List UInt8 → α) : Out (pBind (pTake m) fun l => pDone (f l)) t (f (rTake s m).1) (tAfter m t) := by
 unfold Out tAfter
 cases t with
 | inl g => rfl
 | inr u =>
  obtain rfl := hs u rfl
  obtain ⟨l, n⟩ := u
  simp only [pBind, pTake, rTake, pDone]
  by_cases hm : l.length < m
  ·simp [hm]
  ·simp [hm]

theorem sc_u1 {w : World} {sb r d : Nat} {t : St} (h : Sc w sb r d t) :
  Calls Tryz.prog 80 #[.pointer (some ⟨r, 0, none⟩)] w fun e w' => ∃ (n : Nat) (t' : St), e = .returned (.int .i64 (n : Int)) ∧ n < 256 ∧ Sc w' sb r d t' ∧ Out (pU 1) t n t' ∧ Only [r] w w' := by
 obtain ⟨s, hr, hl, hs, hk⟩ := h.reader
 refine (u1_any hr).mono ?_
 rintro e w' ⟨rfl, hr', ho⟩
 exact ⟨_, _, rfl, by have := be_lt_of (rTake s 1).1 1 (rTake_le s 1); omega, hk 1 w' hr' ho, out_take hs be, ho⟩

theorem sc_u2 {w : World} {sb r d : Nat} {t : St} (h : Sc w sb r d t) :
  Calls Tryz.prog 77 #[.pointer (some ⟨r, 0, none⟩)] w fun e w' => ∃ (n : Nat) (t' : St), e = .returned (.int .i64 (n : Int)) ∧ n < 65536 ∧ Sc w' sb r d t' ∧ Out (pU 2) t n t' ∧ Only [r] w w' := by
 obtain ⟨s, hr, hl, hs, hk⟩ := h.reader
 refine (u2_any hr).mono ?_
 rintro e w' ⟨rfl, hr', ho⟩
 exact ⟨_, _, rfl, by have := be_lt_of (rTake s 2).1 2 (rTake_le s 2); omega, hk 2 w' hr' ho, out_take hs be, ho⟩

theorem sc_n8 {w : World} {sb r d : Nat} {t : St} (h : Sc w sb r d t) :
  Calls Tryz.prog 139 #[.pointer (some ⟨r, 0, none⟩)] w fun e w' => ∃ (n : Int) (t' : St), e = .returned (.int .i64 n) ∧ (-9223372036854775808 ≤ n ∧ n ≤ 9223372036854775807) ∧ Sc w' sb r d t' ∧ Out pN8 t n t' ∧ Only [r] w w' := by
 obtain ⟨s, hr, hl, hs, hk⟩ := h.reader
 refine (n8_any hr).mono ?_
 rintro e w' ⟨rfl, hr', ho⟩
 exact ⟨_, _, rfl, by simp only [wrap64]; omega, hk 8 w' hr' ho, out_take hs (fun l => wrap64 (be l : Int)), ho⟩

theorem sc_text {w : World} {sb r d : Nat} {t : St} (h : Sc w sb r d t) :
  Calls Tryz.prog 138 #[.pointer (some ⟨r, 0, none⟩)] w fun e w' => ∃ (x : List UInt8) (t' : St), e = .returned (.string (str x)) ∧ x.length ≤ 262144 ∧ Sc w' sb r d t' ∧ Out pText t x t' ∧ Only [r] w w' := by
 obtain ⟨s, hr, hl, hs, hk⟩ := h.reader
 refine (text_any hr).mono ?_
 rintro e w' ⟨rfl, hr', ho⟩
 refine ⟨_, _, rfl, ?_, hk (textLen s.1) w' hr' ho, ?_, ho⟩
 ·have := rTake_fst_le s (textLen s.1)
  simp only [rText, List.length_tail]
  omega
 ·have := out_take (m := textLen s.1) hs (fun l => l.tail)
  unfold Out at this ⊢
  cases t with
  | inl f => exact this
  | inr u =>
   obtain rfl := hs u rfl
   exact this

theorem sc_bytes {w : World} {sb r d : Nat} {t : St} (h : Sc w sb r d t) (m : Nat) :
  Calls Tryz.prog 74 #[.pointer (some ⟨r, 0, none⟩), .int .i64 (m : Int)] w fun e w' => ∃ (x : List UInt8) (t' : St) (ao : Option Addr) (cap : Nat), e = .returned (.slice ao x.length cap) ∧ x.length ≤ 262144 ∧ w'.ownsRow w.heap.size 5 1 (.slice ao x.length cap) x.length (bcs x) ∧ Sc w' sb r d t' ∧ Out (pTake m) t x t' ∧ Only [r] w w' := by
 obtain ⟨s, hr, hl, hs, hk⟩ := h.reader
 have e0 : rBytes s (m : Int) = rTake s m := by unfold rBytes; rw [if_neg (by omega), Int.toNat_natCast]
 have H := bytes_any hr (m : Int) (by omega)
 rw [e0] at H
 refine H.mono ?_
 rintro e w' ⟨ao, cap, rfl, hown, hr', ho⟩
 refine ⟨_, _, ao, cap, rfl, ?_, hown, hk m w' hr' ho, ?_, ho⟩
 ·have := rTake_fst_le s m
  omega
 ·have := out_take (m := m) hs (fun l => l)
  unfold Out at this ⊢
  cases t with
  | inl f => exact this
  | inr u =>
   simp only [pBind, pDone] at this
   cases hp : pTake m u with
   | inl f =>
    simp only [hp] at this ⊢
    exact this
   | inr z =>
    simp only [hp] at this ⊢
    exact this

/-- How much was read, where nothing is wrong. -/
theorem sc_at {w : World} {sb r d : Nat} {t : St} (h : Sc w sb r d t) :
  Calls Tryz.prog 83 #[.pointer (some ⟨r, 0, none⟩)] w fun e w' => ∃ n : Nat, e = .returned (.int .i64 (n : Int)) ∧ (∀ u, t = .inr u → n = u.2) ∧ w = w' := by
 obtain ⟨s, hr, hl, hs, hk⟩ := h.reader
 refine (at_any hr).mono ?_
 rintro e w' ⟨rfl, rfl⟩
 exact ⟨_, rfl, fun u hu => by rw [hs u hu], rfl⟩

theorem sc_left {w : World} {sb r d : Nat} {t : St} (h : Sc w sb r d t) :
  Calls Tryz.prog 82 #[.pointer (some ⟨r, 0, none⟩)] w fun e w' => ∃ n : Nat, e = .returned (.int .i64 (n : Int)) ∧ n ≤ 262144 ∧ (∀ u, t = .inr u → n = u.1.length) ∧ w = w' := by
 obtain ⟨s, hr, hl, hs, hk⟩ := h.reader
 refine (left_any hr).mono ?_
 rintro e w' ⟨rfl, rfl⟩
 exact ⟨_, rfl, hl, fun u hu => by rw [hs u hu], rfl⟩

def isFine (t : St) : Bool := match t with
 | .inl _ => false
 | .inr _ => true

set_option maxHeartbeats 1000000 in
theorem fine_src {w : World} {sb r d : Nat} {t : St} (h : Sc w sb r d t) :
  Calls Tryz.prog 84 #[.pointer (some ⟨sb, 0, none⟩)] w fun e w' => e = .returned (.bool (isFine t)) ∧ w = w' := by
 cases h with
 | fine h =>
  have HE := hid (err_any h.rd)
  obtain ⟨c0, c1, _⟩ := h
  go_enter Tryz.func84, Tryz.ntmps84
  go_wp2_with (go_at_call 85; refine HE.out.mono ?_; rintro e w' ⟨rfl, rfl⟩)
  go_ret
  exact ⟨rfl, rfl⟩
 | cut he h =>
  rename_i l n e
  have HE := hid (err_any h.rd)
  obtain ⟨c0, c1, _⟩ := h
  have he' : (e == 0) = false := by simpa using he
  go_enter Tryz.func84, Tryz.ntmps84
  go_wp2_with (go_at_call 85; refine HE.out.mono ?_; rintro e w' ⟨rfl, rfl⟩)
  go_ret
  exact ⟨rfl, rfl⟩
 | bad he h hq hn =>
  obtain ⟨c0, c1, _⟩ := h
  go_enter Tryz.func84, Tryz.ntmps84
  go_wp2_with fail
  go_ret
  exact ⟨rfl, rfl⟩

/-- What refuse makes of where a source stands. -/
def tRefuse (a e : Int) (t : St) : St := match t with
 | .inl f => .inl f
 | .inr _ => .inl (a, e)

set_option maxHeartbeats 1000000 in
theorem refuse_src {w : World} {sb r d : Nat} {t : St} (h : Sc w sb r d t) (a e : Int) (he : e ≠ 0) :
  Calls Tryz.prog 75 #[.pointer (some ⟨sb, 0, none⟩), .int .i64 a, .int .i64 e] w fun ev w' => ev = .returned (.tuple #[]) ∧ Sc w' sb r d (tRefuse a e t) ∧ Only [sb] w w' := by
 have HF := hid (fine_src h)
 have hl := h.lt
 cases t with
 | inl f =>
  have H := hid h
  clear h
  go_enter Tryz.func75, Tryz.ntmps75
  go_wp2_with (go_at_call 84; refine HF.out.mono ?_; rintro e w' ⟨rfl, rfl⟩)
  go_end0
  exact ⟨rfl, H.out, Only.refl _ _⟩
 | inr u =>
  cases h with
  | fine h =>
   have H := hid h
   obtain ⟨c0, c1, f1, _⟩ := h
   have c1' := fun o => cell_alloc o c1
   have f1' : ∀ o, (w.alloc o).frozen? ⟨sb, 1, none⟩ = false := fun o => (frozen_alloc o hl.1).trans f1
   go_enter Tryz.func75, Tryz.ntmps75
   go_wp2_with (go_at_call 84; refine HF.out.mono ?_; rintro e w' ⟨rfl, rfl⟩)
   go_end0
   have hne := H.out.ne
   have hnd := H.out.nd
   have oS : Only [sb] w (w.setCell ⟨sb, 1, none⟩ (.pointer (some ⟨w.heap.size, 0, none⟩))) := (Only.refl [sb] w).setCell (.inl (by simp)) _
   have h0 : Sc0 (w.setCell ⟨sb, 1, none⟩ (.pointer (some ⟨w.heap.size, 0, none⟩))) sb r d (some ⟨w.heap.size, 0, none⟩) _ :=
    ⟨by rw [cell_setCell_ne _ _ (by simp)]; exact H.out.c0, cell_setCell_same _ _ H.out.c1, (frozen_setCell _ _ _ _).trans H.out.f1, H.out.rd.only oS (by simp; omega) (by simp; omega), hne, hnd, H.out.nr, by simpa [World.setCell] using H.out.dl, H.out.few⟩
   have hb := bad_new (w.setCell ⟨sb, 1, none⟩ (.pointer (some ⟨w.heap.size, 0, none⟩))) 0 0 a e
   have hsz : (w.setCell ⟨sb, 1, none⟩ (.pointer (some ⟨w.heap.size, 0, none⟩))).heap.size = w.heap.size := by simp [World.setCell]
   rw [hsz] at hb
   exact ⟨rfl, .bad he (h0.only ((Only.refl [] _).alloc _) (by simp) (by simp) (by simp)) hb ⟨by omega, by omega⟩, oS.alloc _⟩

end Go.Proofs.YtildemmkhndhjaaGreatDoor
