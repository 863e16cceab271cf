/-
  What the proof leans on, part 12 of 28. The conditions stand in each theorem.
-/
import Derived.Test.YtildemmkhndhjaaGreatDoorB10
import Derived.Test.YtildemmkhndhjaaGreatDoorB11
import Derived.Deep.DeepCutAuto
import Derived.Test.YtildemmkhndhjaaGreatDoorB09
import Derived.Test.YtildemmkhndhjaaGreatDoorB05
namespace Go.Proofs.YtildemmkhndhjaaGreatDoor
open Go.RowKit

theorem SlV.rs {w : World} {P : Nat → Prop} {ao : Option Addr} {n cap : Nat} {cs : List Value} (h : SlV w P (.slice ao n cap) n cs) : ∃ d, RS w ao cs d := by
 obtain ⟨a, c, d, e, h⟩ := h
 simp only [Value.slice.injEq] at e
 obtain ⟨rfl, _, rfl⟩ := e
 exact ⟨d, h.rs⟩

theorem SlV.shape {w : World} {P : Nat → Prop} {v : Value} {n : Nat} {cs : List Value} (h : SlV w P v n cs) : ∃ ao cap, v = .slice ao n cap ∧ n ≤ 9223372036854775807 := by
 obtain ⟨a, c, d, e, h⟩ := h
 have := h.le
 have := h.max
 exact ⟨a, c, e, by omega⟩

set_option maxHeartbeats 4000000 in
set_option maxRecDepth 100000 in
theorem rsame_method {w : World} {P Q : Nat → Prop} (a b : Me) {vp vc vh up uc uh : Value} (hA : MeAt (SlR w P) vp vc vh a) (hB : MeAt (SlR w Q) up uc uh b) :
  Calls Tryz.prog 86 #[meV vp vc vh a, meV up uc uh b] w fun e w' => e = .returned (.bool (decide (a = b))) ∧ Only [] w w' := by
 obtain ⟨af, an, ⟨al, av, at_⟩, ast, aloc, ac, ah⟩ := a
 obtain ⟨bf, bn, ⟨bl, bv, bt⟩, bst, bloc, bc, bh⟩ := b
 obtain ⟨hA1, hA2, hA3⟩ := hA
 obtain ⟨hB1, hB2, hB3⟩ := hB
 obtain ⟨po, pcap, rfl, pl⟩ := SlV.shape hA1
 obtain ⟨co, ccap, rfl, cl⟩ := SlV.shape hA2
 obtain ⟨ho, hcap, rfl, hl⟩ := SlV.shape hA3
 obtain ⟨qo, qcap, rfl, ql⟩ := SlV.shape hB1
 obtain ⟨eo, ecap, rfl, el⟩ := SlV.shape hB2
 obtain ⟨go, gcap, rfl, gl⟩ := SlV.shape hB3
 obtain ⟨d1, r1⟩ := SlV.rs hA1
 obtain ⟨d2, r2⟩ := SlV.rs hA2
 obtain ⟨d3, r3⟩ := SlV.rs hA3
 obtain ⟨d4, r4⟩ := SlV.rs hB1
 obtain ⟨d5, r5⟩ := SlV.rs hB2
 obtain ⟨d6, r6⟩ := SlV.rs hB3
 clear hA1 hA2 hA3 hB1 hB2 hB3
 simp only at pl cl hl ql el gl r1 r2 r3 r4 r5 r6
 have o1 := ((Only.refl [] w).alloc (.cells #[.int .i64 af, .string (str an), .slice po al.length pcap, .bool av, .int .i64 at_.1, .string (str at_.2), .int .i64 ast, .int .i64 aloc, .slice co ac.length ccap, .slice ho ah.length hcap] 41)).alloc (.cells #[.int .i64 bf, .string (str bn), .slice qo bl.length qcap, .bool bv, .int .i64 bt.1, .string (str bt.2), .int .i64 bst, .int .i64 bloc, .slice eo bc.length ecap, .slice go bh.length gcap] 41)
 have HS := hid (rsame_any (cap := pcap) (bap := qcap) (TS.of_rs (r1.only0 o1)) (TS.of_rs (r4.only0 o1)) pl av bv at_ bt)
 have kA := fun w' (h : Only [] ((w.alloc (.cells #[.int .i64 af, .string (str an), .slice po al.length pcap, .bool av, .int .i64 at_.1, .string (str at_.2), .int .i64 ast, .int .i64 aloc, .slice co ac.length ccap, .slice ho ah.length hcap] 41)).alloc (.cells #[.int .i64 bf, .string (str bn), .slice qo bl.length qcap, .bool bv, .int .i64 bt.1, .string (str bt.2), .int .i64 bst, .int .i64 bloc, .slice eo bc.length ecap, .slice go bh.length gcap] 41)) w') => (r2.only0 (o1.trans h (by simp))).conv ccap
 have kB := fun w' (h : Only [] ((w.alloc (.cells #[.int .i64 af, .string (str an), .slice po al.length pcap, .bool av, .int .i64 at_.1, .string (str at_.2), .int .i64 ast, .int .i64 aloc, .slice co ac.length ccap, .slice ho ah.length hcap] 41)).alloc (.cells #[.int .i64 bf, .string (str bn), .slice qo bl.length qcap, .bool bv, .int .i64 bt.1, .string (str bt.2), .int .i64 bst, .int .i64 bloc, .slice eo bc.length ecap, .slice go bh.length gcap] 41)) w') => (r5.only0 (o1.trans h (by simp))).conv ecap
 have SA := hid ((me10_new w (.int .i64 af) (.string (str an)) (.slice po al.length pcap) (.bool av) (.int .i64 at_.1) (.string (str at_.2)) (.int .i64 ast) (.int .i64 aloc) (.slice co ac.length ccap) (.slice ho ah.length hcap) 41).only ((Only.refl [] _).alloc (.cells #[.int .i64 bf, .string (str bn), .slice qo bl.length qcap, .bool bv, .int .i64 bt.1, .string (str bt.2), .int .i64 bst, .int .i64 bloc, .slice eo bc.length ecap, .slice go bh.length gcap] 41)) (by simp))
 have SB := me10_new (w.alloc (.cells #[.int .i64 af, .string (str an), .slice po al.length pcap, .bool av, .int .i64 at_.1, .string (str at_.2), .int .i64 ast, .int .i64 aloc, .slice co ac.length ccap, .slice ho ah.length hcap] 41)) (.int .i64 bf) (.string (str bn)) (.slice qo bl.length qcap) (.bool bv) (.int .i64 bt.1) (.string (str bt.2)) (.int .i64 bst) (.int .i64 bloc) (.slice eo bc.length ecap) (.slice go bh.length gcap) 41
 rw [World.size_alloc] at SB
 replace SB := hid SB
 simp only [sigV] at HS
 simp only [meV]
 obtain ⟨R, hR⟩ : ∃ R, R = decide ((⟨af, an, (al, av, at_), ast, aloc, ac, ah⟩ : Me) = ⟨bf, bn, (bl, bv, bt), bst, bloc, bc, bh⟩) := ⟨_, rfl⟩
 rw [← hR]
 replace hR := hid hR
 replace o1 := hid o1
 replace kA := hid kA
 replace kB := hid kB
 by_cases c1 : af = bf
 case neg =>
  have hF : R = false := by
   rw [hR.out]
   simp [c1]
  subst hF
  have n1 : (af == bf) = false := by simpa using c1
  have m1 : (af != bf) = true := by simpa using c1
  clear hR
  go_enter Tryz.func86, Tryz.ntmps86
  go_wp2
  go_ret
  exact ⟨rfl, o1.out⟩
 subst c1
 by_cases c2 : an = bn
 case neg =>
  have hF : R = false := by
   rw [hR.out]
   simp [c2]
  subst hF
  have n2 : (an == bn) = false := by simpa using c2
  have m2 : (an != bn) = true := by simpa using c2
  have p2 : ¬ ((str an).toList = (str bn).toList) := by rw [str_toList, str_toList]; exact c2
  have q2 : ((str an).toList == (str bn).toList) = false := by simpa using p2
  have s2 : ((str an).toList != (str bn).toList) = true := by simpa using p2
  clear hR
  go_enter Tryz.func86, Tryz.ntmps86
  go_wp2
  go_ret
  exact ⟨rfl, o1.out⟩
 subst c2
 by_cases c3 : ((al, av, at_) : Sg) = (bl, bv, bt)
 case neg =>
  have hF : R = false := by
   rw [hR.out]
   simp [show ¬ (((al, av, at_) : Sg) = (bl, bv, bt)) from c3]
  subst hF
  have hs : sameR (al, av, at_) (bl, bv, bt) = false := by simp [sameR, c3]
  rw [hs] at HS
  clear hR
  go_enter Tryz.func86, Tryz.ntmps86
  go_wp2_with (go_at_call 145; refine HS.out.mono ?_; rintro e w3 ⟨rfl, o3⟩; have ka := kA.out w3 o3; have kb := kB.out w3 o3; have SA3 := hid (SA.out.only o3 (by simp)); have SB3 := hid (SB.out.only o3 (by simp)); obtain ⟨a0, a1, a2, a3, a4, a5, a6, a7, a8, a9, _, _, _, _, _, _, _, _, _, _⟩ := SA3.out; obtain ⟨b0, b1, b2, b3, b4, b5, b6, b7, b8, b9, _, _, _, _, _, _, _, _, _, _⟩ := SB3.out)
  go_ret
  exact ⟨rfl, o1.out.trans o3 (by simp)⟩
 have hs : sameR (al, av, at_) (bl, bv, bt) = true := by simp [sameR, c3]
 rw [hs] at HS
 replace c3 := hid c3
 by_cases c4 : ast = bst
 case neg =>
  have hF : R = false := by
   rw [hR.out]
   simp [c4]
  subst hF
  have n4 : (ast == bst) = false := by simpa using c4
  have m4 : (ast != bst) = true := by simpa using c4
  clear hR
  go_enter Tryz.func86, Tryz.ntmps86
  go_wp2_with (go_at_call 145; refine HS.out.mono ?_; rintro e w3 ⟨rfl, o3⟩; have ka := kA.out w3 o3; have kb := kB.out w3 o3; have SA3 := hid (SA.out.only o3 (by simp)); have SB3 := hid (SB.out.only o3 (by simp)); obtain ⟨a0, a1, a2, a3, a4, a5, a6, a7, a8, a9, _, _, _, _, _, _, _, _, _, _⟩ := SA3.out; obtain ⟨b0, b1, b2, b3, b4, b5, b6, b7, b8, b9, _, _, _, _, _, _, _, _, _, _⟩ := SB3.out)
  go_ret
  exact ⟨rfl, o1.out.trans o3 (by simp)⟩
 subst c4
 by_cases c5 : aloc = bloc
 case neg =>
  have hF : R = false := by
   rw [hR.out]
   simp [c5]
  subst hF
  have n5 : (aloc == bloc) = false := by simpa using c5
  have m5 : (aloc != bloc) = true := by simpa using c5
  clear hR
  go_enter Tryz.func86, Tryz.ntmps86
  go_wp2_with (go_at_call 145; refine HS.out.mono ?_; rintro e w3 ⟨rfl, o3⟩; have ka := kA.out w3 o3; have kb := kB.out w3 o3; have SA3 := hid (SA.out.only o3 (by simp)); have SB3 := hid (SB.out.only o3 (by simp)); obtain ⟨a0, a1, a2, a3, a4, a5, a6, a7, a8, a9, _, _, _, _, _, _, _, _, _, _⟩ := SA3.out; obtain ⟨b0, b1, b2, b3, b4, b5, b6, b7, b8, b9, _, _, _, _, _, _, _, _, _, _⟩ := SB3.out)
  go_ret
  exact ⟨rfl, o1.out.trans o3 (by simp)⟩
 subst c5
 by_cases c6 : ac = bc
 case neg =>
  have hF : R = false := by
   rw [hR.out]
   simp [c6]
  subst hF
  have n6 : (ac == bc) = false := by simpa using c6
  have m6 : (ac != bc) = true := by simpa using c6
  have p6 : ¬ ((str ac).toList = (str bc).toList) := by rw [str_toList, str_toList]; exact c6
  have q6 : ((str ac).toList == (str bc).toList) = false := by simpa using p6
  have s6 : ((str ac).toList != (str bc).toList) = true := by simpa using p6
  clear hR
  go_enter Tryz.func86, Tryz.ntmps86
  go_wp2_with (go_at_call 145; refine HS.out.mono ?_; rintro e w3 ⟨rfl, o3⟩; have ka := kA.out w3 o3; have kb := kB.out w3 o3; have SA3 := hid (SA.out.only o3 (by simp)); have SB3 := hid (SB.out.only o3 (by simp)); obtain ⟨a0, a1, a2, a3, a4, a5, a6, a7, a8, a9, _, _, _, _, _, _, _, _, _, _⟩ := SA3.out; obtain ⟨b0, b1, b2, b3, b4, b5, b6, b7, b8, b9, _, _, _, _, _, _, _, _, _, _⟩ := SB3.out)
  go_ret
  exact ⟨rfl, o1.out.trans o3 (by simp)⟩
 subst c6
 by_cases c7 : ah.length = bh.length
 case neg =>
  have hF : R = false := by
   rw [hR.out]
   simp [show ¬ (ah = bh) from fun e => c7 (by rw [e])]
  subst hF
  have n7 : ((ah.length : Int) != (bh.length : Int)) = true := by simpa using (by omega : ¬ ((ah.length : Int) = (bh.length : Int)))
  have m7 : ¬ ((ah.length : Int) = (bh.length : Int)) := by omega
  clear hR
  go_enter Tryz.func86, Tryz.ntmps86
  go_wp2_with (go_at_call 145; refine HS.out.mono ?_; rintro e w3 ⟨rfl, o3⟩; have ka := kA.out w3 o3; have kb := kB.out w3 o3; have SA3 := hid (SA.out.only o3 (by simp)); have SB3 := hid (SB.out.only o3 (by simp)); obtain ⟨a0, a1, a2, a3, a4, a5, a6, a7, a8, a9, _, _, _, _, _, _, _, _, _, _⟩ := SA3.out; obtain ⟨b0, b1, b2, b3, b4, b5, b6, b7, b8, b9, _, _, _, _, _, _, _, _, _, _⟩ := SB3.out)
  go_ret
  exact ⟨rfl, o1.out.trans o3 (by simp)⟩
 have n7 : ((ah.length : Int) != (bh.length : Int)) = false := by simp [c7]
 have m7 : ((ah.length : Int) == (bh.length : Int)) = true := by simp [c7]
 replace c7 := hid c7
 go_enter Tryz.func86, Tryz.ntmps86
 go_wp2_with (go_at_call 145; refine HS.out.mono ?_; rintro e w3 ⟨rfl, o3⟩; have ka := kA.out w3 o3; have kb := kB.out w3 o3; have SA3 := hid (SA.out.only o3 (by simp)); have SB3 := hid (SB.out.only o3 (by simp)); obtain ⟨a0, a1, a2, a3, a4, a5, a6, a7, a8, a9, _, _, _, _, _, _, _, _, _, _⟩ := SA3.out; obtain ⟨b0, b1, b2, b3, b4, b5, b6, b7, b8, b9, _, _, _, _, _, _, _, _, _, _⟩ := SB3.out)
 clear a0 a1 a2 a3 a4 a5 a6 a7 a8 a9 b0 b1 b2 b3 b4 b5 b6 b7 b8 b9 ka kb SA SB HS kA kB
 have o4 := hid (o1.out.trans o3 (by simp))
 clear o3 o1
 go_loopw [5] (fun i wr => ∃ j : Nat, j ≤ ah.length ∧ i = .int .i64 (j : Int) ∧ Hid (ah.take j = bh.take j) ∧ Hid (Me10 wr w.heap.size (.int .i64 af) (.string (str an)) (.slice po al.length pcap) (.bool av) (.int .i64 at_.1) (.string (str at_.2)) (.int .i64 ast) (.int .i64 aloc) (.slice co ac.length ccap) (.slice ho ah.length hcap)) ∧ Hid (Me10 wr (w.heap.size + 1) (.int .i64 af) (.string (str an)) (.slice qo bl.length qcap) (.bool bv) (.int .i64 bt.1) (.string (str bt.2)) (.int .i64 ast) (.int .i64 aloc) (.slice eo ac.length ecap) (.slice go bh.length gcap)) ∧ Hid (Only [] w wr)) (fun i _ => ah.length - (intOf i).toNat)
 case atStart => exact ⟨0, by omega, rfl, hid (by simp), SA3, SB3, o4⟩
 case round =>
  obtain ⟨j, hj, rfl, hpre, hSA, hSB, hor⟩ := hrel
  clear SA3 SB3 o4
  obtain ⟨a0, a1, a2, a3, a4, a5, a6, a7, a8, a9, _, _, _, _, _, _, _, _, _, _⟩ := hSA.out
  obtain ⟨b0, b1, b2, b3, b4, b5, b6, b7, b8, b9, _, _, _, _, _, _, _, _, _, _⟩ := hSB.out
  by_cases hlt : j < ah.length
  ·have g2 : ((j : Int) < (ah.length : Int)) := by omega
   have hlt2 : j < bh.length := by rw [← c7.out]; exact hlt
   have g3 : ((j : Int) < (bh.length : Int)) := by omega
   obtain ⟨off, rfl, y0, y1, y2, y3⟩ := hd_cells (r3.only0 hor.out) hlt
   obtain ⟨off2, rfl, z0, z1, z2, z3⟩ := hd_cells (r6.only0 hor.out) hlt2
   have hnx : ah[j] = bh[j] → ah.take (j + 1) = bh.take (j + 1) := by
    intro e
    rw [List.take_succ_eq_append_getElem hlt, List.take_succ_eq_append_getElem hlt2, hpre.out, e]
   have hno : ah[j] ≠ bh[j] → ah ≠ bh := by
    intro e1 e2
    apply e1
    simp [e2]
   have hqt := neq_hd ah[j] bh[j]
   generalize ah[j] = s at *
   generalize bh[j] = t at *
   obtain ⟨s1, s2, s3, s4⟩ := s
   obtain ⟨t1, t2, t3, t4⟩ := t
   simp only [hdV] at hqt
   clear hpre
   by_cases hs : (s1, s2, s3, s4) = (t1, t2, t3, t4)
   ·have hnx := hid (hnx hs)
    simp only [hs, decide_true, Bool.not_true] at hqt
    clear hs hno
    go_wp2_with fail
    go_region
    go_wp2
    exact ⟨⟨j + 1, by omega, by go_num, hnx, hid (hSA.out.only (Only.refl [] _).drew (by simp)), hid (hSB.out.only (Only.refl [] _).drew (by simp)), hid hor.out.drew⟩, by simp [intOf]; omega⟩
   ·have hF : R = false := by
     rw [hR.out]
     simp [hno hs]
    subst hF
    simp only [hs, decide_false, Bool.not_false] at hqt
    clear hs hno hnx hR
    go_wp2_with fail
    go_region
    go_wp2
    go_ret
    exact ⟨rfl, hor.out.drew⟩
  ·have g2 : ¬ ((j : Int) < (ah.length : Int)) := by omega
   have hT : R = true := by
    obtain rfl : j = ah.length := by omega
    have h0 := hpre.out
    rw [List.take_of_length_le (Nat.le_refl _), List.take_of_length_le (by rw [c7.out]; exact Nat.le_refl _)] at h0
    rw [hR.out]
    obtain ⟨k1, k2, k3⟩ : al = bl ∧ av = bv ∧ at_ = bt := by simpa using c3.out
    simp [h0, k1, k2, k3]
   subst hT
   clear hR
   go_wp2
   go_ret
   exact ⟨rfl, hor.out⟩

theorem str_cells {w : World} {ao : Option Addr} {l : List (List UInt8)} {d : Nat} (h : RS w ao (scs l) d) {j : Nat} (hj : j < l.length) :
  ∃ off, ao = some ⟨d, off, none⟩ ∧ w.cell? ⟨d, off + j, none⟩ = some (.string (str l[j])) := by
 obtain ⟨off, ha, hc⟩ := h.piece 1 j ((els_flat scC (fun _ => rfl) l).el j hj) (by simp [scC])
 refine ⟨off, ha, ?_⟩
 have := hc 0 _ rfl
 simpa using this

set_option maxHeartbeats 4000000 in
set_option maxRecDepth 100000 in
theorem rsame_class {w : World} {P Q : Nat → Prop} (a b : Cl) {vf vd vm uf ud um : Value} (hA : ClAt (SlR w P) vf vd vm a) (hB : ClAt (SlR w Q) uf ud um b) :
  Calls Tryz.prog 34 #[clV vf vd vm a, clV uf ud um b] w fun e w' => e = .returned (.bool (decide (a = b))) ∧ Only [] w w' := by
 obtain ⟨af, an, au, aF, aD, aM⟩ := a
 obtain ⟨bf, bn, bu, bF, bD, bM⟩ := b
 obtain ⟨hA1, hA2, acs, hA3, hEA⟩ := hA
 obtain ⟨hB1, hB2, bcs, hB3, hEB⟩ := hB
 obtain ⟨fo, fcap, rfl, pl⟩ := SlV.shape hA1
 obtain ⟨do_, dcap, rfl, cl⟩ := SlV.shape hA2
 obtain ⟨mo, mcap, rfl, hl⟩ := SlV.shape hA3
 obtain ⟨go, gcap, rfl, ql⟩ := SlV.shape hB1
 obtain ⟨eo, ecap, rfl, el⟩ := SlV.shape hB2
 obtain ⟨no_, ncap, rfl, gl⟩ := SlV.shape hB3
 obtain ⟨d1, r1⟩ := SlV.rs hA1
 obtain ⟨d2, r2⟩ := SlV.rs hA2
 obtain ⟨d3, r3⟩ := SlV.rs hA3
 obtain ⟨d4, r4⟩ := SlV.rs hB1
 obtain ⟨d5, r5⟩ := SlV.rs hB2
 obtain ⟨d6, r6⟩ := SlV.rs hB3
 clear hA1 hA2 hA3 hB1 hB2 hB3
 simp only at pl cl hl ql el gl r1 r2 r3 r4 r5 r6 hEA hEB
 replace hEA := hid hEA
 replace hEB := hid hEB
 have o1 := ((Only.refl [] w).alloc (.cells #[.int .i64 af, .string (str an), .string (str au), .slice fo aF.length fcap, .slice do_ aD.length dcap, .slice mo aM.length mcap] 28)).alloc (.cells #[.int .i64 bf, .string (str bn), .string (str bu), .slice go bF.length gcap, .slice eo bD.length ecap, .slice no_ bM.length ncap] 28)
 have SA := hid ((cl6_new w (.int .i64 af) (.string (str an)) (.string (str au)) (.slice fo aF.length fcap) (.slice do_ aD.length dcap) (.slice mo aM.length mcap) 28).only ((Only.refl [] _).alloc (.cells #[.int .i64 bf, .string (str bn), .string (str bu), .slice go bF.length gcap, .slice eo bD.length ecap, .slice no_ bM.length ncap] 28)) (by simp))
 have SB := cl6_new (w.alloc (.cells #[.int .i64 af, .string (str an), .string (str au), .slice fo aF.length fcap, .slice do_ aD.length dcap, .slice mo aM.length mcap] 28)) (.int .i64 bf) (.string (str bn)) (.string (str bu)) (.slice go bF.length gcap) (.slice eo bD.length ecap) (.slice no_ bM.length ncap) 28
 rw [World.size_alloc] at SB
 replace SB := hid SB
 simp only [clV]
 obtain ⟨R, hR⟩ : ∃ R, R = decide ((⟨af, an, au, aF, aD, aM⟩ : Cl) = ⟨bf, bn, bu, bF, bD, bM⟩) := ⟨_, rfl⟩
 rw [← hR]
 replace hR := hid hR
 replace o1 := hid o1
 by_cases c1 : af = bf
 case neg =>
  have hF : R = false := by
   rw [hR.out]
   simp [c1]
  subst hF
  have n1 : (af == bf) = false := by simpa using c1
  have m1 : (af != bf) = true := by simpa using c1
  clear hR
  go_enter Tryz.func34, Tryz.ntmps34
  go_wp2
  go_ret
  exact ⟨rfl, o1.out⟩
 subst c1
 by_cases c2 : an = bn
 case neg =>
  have hF : R = false := by
   rw [hR.out]
   simp [c2]
  subst hF
  have n2 : (an == bn) = false := by simpa using c2
  have m2 : (an != bn) = true := by simpa using c2
  have p2 : ¬ ((str an).toList = (str bn).toList) := by rw [str_toList, str_toList]; exact c2
  have q2 : ((str an).toList == (str bn).toList) = false := by simpa using p2
  have s2 : ((str an).toList != (str bn).toList) = true := by simpa using p2
  clear hR
  go_enter Tryz.func34, Tryz.ntmps34
  go_wp2
  go_ret
  exact ⟨rfl, o1.out⟩
 subst c2
 by_cases c3 : au = bu
 case neg =>
  have hF : R = false := by
   rw [hR.out]
   simp [c3]
  subst hF
  have n3 : (au == bu) = false := by simpa using c3
  have m3 : (au != bu) = true := by simpa using c3
  have p3 : ¬ ((str au).toList = (str bu).toList) := by rw [str_toList, str_toList]; exact c3
  have q3 : ((str au).toList == (str bu).toList) = false := by simpa using p3
  have s3 : ((str au).toList != (str bu).toList) = true := by simpa using p3
  clear hR
  go_enter Tryz.func34, Tryz.ntmps34
  go_wp2
  go_ret
  exact ⟨rfl, o1.out⟩
 subst c3
 by_cases c4 : aF.length = bF.length
 case neg =>
  have hF : R = false := by
   rw [hR.out]
   simp [show ¬ (aF = bF) from fun e => c4 (by rw [e])]
  subst hF
  have n4 : ((aF.length : Int) != (bF.length : Int)) = true := by simpa using (by omega : ¬ ((aF.length : Int) = (bF.length : Int)))
  have m4 : ¬ ((aF.length : Int) = (bF.length : Int)) := by omega
  clear hR
  go_enter Tryz.func34, Tryz.ntmps34
  go_wp2
  go_ret
  exact ⟨rfl, o1.out⟩
 have n4 : ((aF.length : Int) != (bF.length : Int)) = false := by simp [c4]
 have m4 : ((aF.length : Int) == (bF.length : Int)) = true := by simp [c4]
 replace c4 := hid c4
 by_cases c5 : aD.length = bD.length
 case neg =>
  have hF : R = false := by
   rw [hR.out]
   simp [show ¬ (aD = bD) from fun e => c5 (by rw [e])]
  subst hF
  have n5 : ((aD.length : Int) != (bD.length : Int)) = true := by simpa using (by omega : ¬ ((aD.length : Int) = (bD.length : Int)))
  have m5 : ¬ ((aD.length : Int) = (bD.length : Int)) := by omega
  clear hR
  go_enter Tryz.func34, Tryz.ntmps34
  go_wp2
  go_ret
  exact ⟨rfl, o1.out⟩
 have n5 : ((aD.length : Int) != (bD.length : Int)) = false := by simp [c5]
 have m5 : ((aD.length : Int) == (bD.length : Int)) = true := by simp [c5]
 replace c5 := hid c5
 by_cases c6 : aM.length = bM.length
 case neg =>
  have hF : R = false := by
   rw [hR.out]
   simp [show ¬ (aM = bM) from fun e => c6 (by rw [e])]
  subst hF
  have n6 : ((aM.length : Int) != (bM.length : Int)) = true := by simpa using (by omega : ¬ ((aM.length : Int) = (bM.length : Int)))
  have m6 : ¬ ((aM.length : Int) = (bM.length : Int)) := by omega
  clear hR
  go_enter Tryz.func34, Tryz.ntmps34
  go_wp2
  go_ret
  exact ⟨rfl, o1.out⟩
 have n6 : ((aM.length : Int) != (bM.length : Int)) = false := by simp [c6]
 have m6 : ((aM.length : Int) == (bM.length : Int)) = true := by simp [c6]
 replace c6 := hid c6
 go_enter Tryz.func34, Tryz.ntmps34
 go_wp2
 go_loopw [5] (fun i wr => ∃ j : Nat, j ≤ aF.length ∧ i = .int .i64 (j : Int) ∧ Hid (aF.take j = bF.take j) ∧ Hid (Cl6 wr w.heap.size (.int .i64 af) (.string (str an)) (.string (str au)) (.slice fo aF.length fcap) (.slice do_ aD.length dcap) (.slice mo aM.length mcap)) ∧ Hid (Cl6 wr (w.heap.size + 1) (.int .i64 af) (.string (str an)) (.string (str au)) (.slice go bF.length gcap) (.slice eo bD.length ecap) (.slice no_ bM.length ncap)) ∧ Hid (Only [] w wr)) (fun i _ => aF.length - (intOf i).toNat)
 case atStart => exact ⟨0, by omega, rfl, hid (by simp), SA, SB, o1⟩
 case round =>
  obtain ⟨j, hj, rfl, hpre, hSA, hSB, hor⟩ := hrel
  clear SA SB o1
  obtain ⟨a0, a1, a2, a3, a4, a5, _, _, _, _, _, _⟩ := hSA.out
  obtain ⟨b0, b1, b2, b3, b4, b5, _, _, _, _, _, _⟩ := hSB.out
  by_cases hlt : j < aF.length
  ·have g2 : ((j : Int) < (aF.length : Int)) := by omega
   have hlt2 : j < bF.length := by rw [← c4.out]; exact hlt
   have g3 : ((j : Int) < (bF.length : Int)) := by omega
   have hnx : aF[j] = bF[j] → aF.take (j + 1) = bF.take (j + 1) := by
    intro e
    rw [List.take_succ_eq_append_getElem hlt, List.take_succ_eq_append_getElem hlt2, hpre.out, e]
   have hno : aF[j] ≠ bF[j] → aF ≠ bF := by
    intro e1 e2
    apply e1
    simp [e2]
   replace hnx := hid hnx
   replace hno := hid hno
   obtain ⟨off, rfl, y0⟩ := str_cells (r1.only0 hor.out) hlt
   obtain ⟨off2, rfl, z0⟩ := str_cells (r4.only0 hor.out) hlt2
   generalize aF[j] = s at *
   generalize bF[j] = t at *
   clear hpre
   by_cases hs : s = t
   ·replace hnx := hid (hnx.out hs)
    subst hs
    clear hno
    go_wp2_with fail
    go_region
    go_wp2
    exact ⟨⟨j + 1, by omega, by go_num, hnx, hid (hSA.out.only (Only.refl [] _).drew (by simp)), hid (hSB.out.only (Only.refl [] _).drew (by simp)), hid hor.out.drew⟩, by simp [intOf]; omega⟩
   ·have hF : R = false := by
     rw [hR.out]
     simp [hno.out hs]
    subst hF
    have p1 : ¬ ((str s).toList = (str t).toList) := by rw [str_toList, str_toList]; exact hs
    have q1 : ((str s).toList == (str t).toList) = false := by simpa using p1
    have s1 : ((str s).toList != (str t).toList) = true := by simpa using p1
    clear hs hno hnx hR
    go_wp2_with fail
    go_region
    go_wp2
    go_ret
    exact ⟨rfl, hor.out.drew⟩
  ·have g2 : ¬ ((j : Int) < (aF.length : Int)) := by omega
   have eaF : Hid (aF = bF) := by
    obtain rfl : j = aF.length := by omega
    have h0 := hpre.out
    rw [List.take_of_length_le (Nat.le_refl _), List.take_of_length_le (by rw [c4.out]; exact Nat.le_refl _)] at h0
    exact h0
   clear hpre
   have SA2 := hSA
   have SB2 := hSB
   have o3 := hor
   clear hSA hSB hor a0 a1 a2 a3 a4 a5 b0 b1 b2 b3 b4 b5
   obtain ⟨a0, a1, a2, a3, a4, a5, _, _, _, _, _, _⟩ := SA2.out
   obtain ⟨b0, b1, b2, b3, b4, b5, _, _, _, _, _, _⟩ := SB2.out
   go_wp2
   clear a0 a1 a2 a3 a4 a5 b0 b1 b2 b3 b4 b5
   go_loopw [6] (fun i wr => ∃ j : Nat, j ≤ aD.length ∧ i = .int .i64 (j : Int) ∧ Hid (aD.take j = bD.take j) ∧ Hid (Cl6 wr w.heap.size (.int .i64 af) (.string (str an)) (.string (str au)) (.slice fo aF.length fcap) (.slice do_ aD.length dcap) (.slice mo aM.length mcap)) ∧ Hid (Cl6 wr (w.heap.size + 1) (.int .i64 af) (.string (str an)) (.string (str au)) (.slice go bF.length gcap) (.slice eo bD.length ecap) (.slice no_ bM.length ncap)) ∧ Hid (Only [] w wr)) (fun i _ => aD.length - (intOf i).toNat)
   case atStart => exact ⟨0, by omega, rfl, hid (by simp), SA2, SB2, o3⟩
   case round =>
    obtain ⟨j, hj, rfl, hpre, hSA, hSB, hor⟩ := hrel
    clear SA2 SB2 o3
    obtain ⟨a0, a1, a2, a3, a4, a5, _, _, _, _, _, _⟩ := hSA.out
    obtain ⟨b0, b1, b2, b3, b4, b5, _, _, _, _, _, _⟩ := hSB.out
    by_cases hlt : j < aD.length
    ·have g2 : ((j : Int) < (aD.length : Int)) := by omega
     have hlt2 : j < bD.length := by rw [← c5.out]; exact hlt
     have g3 : ((j : Int) < (bD.length : Int)) := by omega
     have hnx : aD[j] = bD[j] → aD.take (j + 1) = bD.take (j + 1) := by
      intro e
      rw [List.take_succ_eq_append_getElem hlt, List.take_succ_eq_append_getElem hlt2, hpre.out, e]
     have hno : aD[j] ≠ bD[j] → aD ≠ bD := by
      intro e1 e2
      apply e1
      simp [e2]
     replace hnx := hid hnx
     replace hno := hid hno
     obtain ⟨off, rfl, y0, y1, y2, y3⟩ := fd_cells (r2.only0 hor.out) hlt
     obtain ⟨off2, rfl, z0, z1, z2, z3⟩ := fd_cells (r5.only0 hor.out) hlt2
     have hqt := neq_fd aD[j] bD[j]
     generalize aD[j] = s at *
     generalize bD[j] = t at *
     obtain ⟨s1, s2, s3, s4⟩ := s
     obtain ⟨t1, t2, t3, t4⟩ := t
     simp only [fdV] at hqt
     clear hpre
     by_cases hs : (s1, s2, s3, s4) = (t1, t2, t3, t4)
     ·have hnx := hid (hnx.out hs)
      simp only [hs, decide_true, Bool.not_true] at hqt
      clear hs hno
      go_wp2_with fail
      go_region
      go_wp2
      exact ⟨⟨j + 1, by omega, by go_num, hnx, hid (hSA.out.only (Only.refl [] _).drew (by simp)), hid (hSB.out.only (Only.refl [] _).drew (by simp)), hid hor.out.drew⟩, by simp [intOf]; omega⟩
     ·have hF : R = false := by
       rw [hR.out]
       simp [hno.out hs]
      subst hF
      simp only [hs, decide_false, Bool.not_false] at hqt
      clear hs hno hnx hR
      go_wp2_with fail
      go_region
      go_wp2
      go_ret
      exact ⟨rfl, hor.out.drew⟩
    ·have g2 : ¬ ((j : Int) < (aD.length : Int)) := by omega
     have eaD : Hid (aD = bD) := by
      obtain rfl : j = aD.length := by omega
      have h0 := hpre.out
      rw [List.take_of_length_le (Nat.le_refl _), List.take_of_length_le (by rw [c5.out]; exact Nat.le_refl _)] at h0
      exact h0
     clear hpre
     have SA3 := hSA
     have SB3 := hSB
     have o4 := hor
     clear hSA hSB hor a0 a1 a2 a3 a4 a5 b0 b1 b2 b3 b4 b5
     obtain ⟨a0, a1, a2, a3, a4, a5, _, _, _, _, _, _⟩ := SA3.out
     obtain ⟨b0, b1, b2, b3, b4, b5, _, _, _, _, _, _⟩ := SB3.out
     go_wp2
     clear a0 a1 a2 a3 a4 a5 b0 b1 b2 b3 b4 b5
     go_loopw [7] (fun i wr => ∃ j : Nat, j ≤ aM.length ∧ i = .int .i64 (j : Int) ∧ Hid (aM.take j = bM.take j) ∧ Hid (Cl6 wr w.heap.size (.int .i64 af) (.string (str an)) (.string (str au)) (.slice fo aF.length fcap) (.slice do_ aD.length dcap) (.slice mo aM.length mcap)) ∧ Hid (Cl6 wr (w.heap.size + 1) (.int .i64 af) (.string (str an)) (.string (str au)) (.slice go bF.length gcap) (.slice eo bD.length ecap) (.slice no_ bM.length ncap)) ∧ Hid (Only [] w wr)) (fun i _ => aM.length - (intOf i).toNat)
     case atStart => exact ⟨0, by omega, rfl, hid (by simp), SA3, SB3, o4⟩
     case round =>
      obtain ⟨j, hj, rfl, hpre, hSA, hSB, hor⟩ := hrel
      clear SA3 SB3 o4
      obtain ⟨a0, a1, a2, a3, a4, a5, _, _, _, _, _, _⟩ := hSA.out
      obtain ⟨b0, b1, b2, b3, b4, b5, _, _, _, _, _, _⟩ := hSB.out
      by_cases hlt : j < aM.length
      ·have g2 : ((j : Int) < (aM.length : Int)) := by omega
       have hlt2 : j < bM.length := by rw [← c6.out]; exact hlt
       have g3 : ((j : Int) < (bM.length : Int)) := by omega
       have hnx : aM[j] = bM[j] → aM.take (j + 1) = bM.take (j + 1) := by
        intro e
        rw [List.take_succ_eq_append_getElem hlt, List.take_succ_eq_append_getElem hlt2, hpre.out, e]
       have hno : aM[j] ≠ bM[j] → aM ≠ bM := by
        intro e1 e2
        apply e1
        simp [e2]
       replace hnx := hid hnx
       replace hno := hid hno
       obtain ⟨off, vp, vc, vh, rfl, hm1, y0, y1, y2, y3, y4, y5, y6, y7, y8, y9⟩ := me_cells (r3.only0 hor.out) hEA.out hlt
       obtain ⟨off2, up, uc, uh, rfl, hm2, z0, z1, z2, z3, z4, z5, z6, z7, z8, z9⟩ := me_cells (r6.only0 hor.out) hEB.out hlt2
       have HM := hid (rsame_method _ _ ((hm1.only0 hor.out).only0 (Only.refl [] _).drew) ((hm2.only0 hor.out).only0 (Only.refl [] _).drew))
       clear hm1 hm2
       unfold meV at HM
       generalize aM[j] = s at *
       generalize bM[j] = t at *
       clear hpre
       by_cases hs : s = t
       ·have hnx := hid (hnx.out hs)
        have hd : decide (s = t) = true := by simp [hs]
        rw [hd] at HM
        clear hs hno hd
        go_wp2_with fail
        go_region_with (go_at_call 86; refine HM.out.mono ?_; rintro e w4 ⟨rfl, o4⟩)
        all_goals go_wp2
        all_goals exact ⟨⟨j + 1, by omega, by go_num, hnx, hid (hSA.out.only ((Only.refl [] _).drew.trans o4 (by simp)) (by simp)), hid (hSB.out.only ((Only.refl [] _).drew.trans o4 (by simp)) (by simp)), hid (hor.out.drew.trans o4 (by simp))⟩, by simp [intOf]; omega⟩
       ·have hF : R = false := by
         rw [hR.out]
         simp [hno.out hs]
        subst hF
        have hd : decide (s = t) = false := by simp [hs]
        rw [hd] at HM
        clear hs hno hnx hR hd
        go_wp2_with fail
        go_region_with (go_at_call 86; refine HM.out.mono ?_; rintro e w4 ⟨rfl, o4⟩)
        all_goals go_wp2
        all_goals go_ret
        all_goals exact ⟨rfl, hor.out.drew.trans o4 (by simp)⟩
      ·have g2 : ¬ ((j : Int) < (aM.length : Int)) := by omega
       have eaM : Hid (aM = bM) := by
        obtain rfl : j = aM.length := by omega
        have h0 := hpre.out
        rw [List.take_of_length_le (Nat.le_refl _), List.take_of_length_le (by rw [c6.out]; exact Nat.le_refl _)] at h0
        exact h0
       clear hpre
       have hT : R = true := by
        rw [hR.out]
        simp [eaF.out, eaD.out, eaM.out]
       subst hT
       clear hR
       go_wp2
       go_ret
       exact ⟨rfl, hor.out⟩

theorem en_cells {w : World} {ao : Option Addr} {l : List En} {d : Nat} (h : RS w ao (ecs l) d) {j : Nat} (hj : j < l.length) :
  ∃ off, ao = some ⟨d, off, none⟩ ∧ w.cell? ⟨d, off + j * 6, none⟩ = some (.int .i64 l[j].1) ∧ w.cell? ⟨d, off + j * 6 + 1, none⟩ = some (.string (str l[j].2.1)) ∧ w.cell? ⟨d, off + j * 6 + 2, none⟩ = some (.int .i64 l[j].2.2.1) ∧ w.cell? ⟨d, off + j * 6 + 3, none⟩ = some (.int .i64 l[j].2.2.2.1) ∧ w.cell? ⟨d, off + j * 6 + 4, none⟩ = some (.int .i64 l[j].2.2.2.2.1) ∧ w.cell? ⟨d, off + j * 6 + 5, none⟩ = some (.int .i64 l[j].2.2.2.2.2) := by
 obtain ⟨g0, g1, g2, g3, g4, g5⟩ := ecs_get l j hj
 rcases h with h | ⟨off, ha, hc⟩
 ·rw [h] at g0
  simp at g0
 ·refine ⟨off, ha, ?_, ?_, ?_, ?_, ?_, ?_⟩
  ·exact hc _ _ g0
  ·rw [Nat.add_assoc]; exact hc _ _ g1
  ·rw [Nat.add_assoc]; exact hc _ _ g2
  ·rw [Nat.add_assoc]; exact hc _ _ g3
  ·rw [Nat.add_assoc]; exact hc _ _ g4
  ·rw [Nat.add_assoc]; exact hc _ _ g5

set_option maxHeartbeats 4000000 in
set_option maxRecDepth 100000 in
theorem rsame_module {w : World} {P Q : Nat → Prop} (a b : Mo) {vp vc up uc : Value} (hA : MoAt (SlR w P) vp vc a) (hB : MoAt (SlR w Q) up uc b) :
  Calls Tryz.prog 13 #[.agg #[vp, vc], .agg #[up, uc]] w fun e w' => e = .returned (.bool (decide (a = b))) ∧ Only [] w w' := by
 obtain ⟨aP, aC⟩ := a
 obtain ⟨bP, bC⟩ := b
 obtain ⟨hA1, acs, hA3, hEA⟩ := hA
 obtain ⟨hB1, bcs, hB3, hEB⟩ := hB
 obtain ⟨po, pcap, rfl, pl⟩ := SlV.shape hA1
 obtain ⟨co, ccap, rfl, hl⟩ := SlV.shape hA3
 obtain ⟨qo, qcap, rfl, ql⟩ := SlV.shape hB1
 obtain ⟨eo, ecap, rfl, gl⟩ := SlV.shape hB3
 obtain ⟨d1, r1⟩ := SlV.rs hA1
 obtain ⟨d3, r3⟩ := SlV.rs hA3
 obtain ⟨d4, r4⟩ := SlV.rs hB1
 obtain ⟨d6, r6⟩ := SlV.rs hB3
 clear hA1 hA3 hB1 hB3
 simp only at pl hl ql gl r1 r3 r4 r6 hEA hEB
 replace hEA := hid hEA
 replace hEB := hid hEB
 have o1 := ((Only.refl [] w).alloc (.cells #[.slice po aP.length pcap, .slice co aC.length ccap] 32)).alloc (.cells #[.slice qo bP.length qcap, .slice eo bC.length ecap] 32)
 have SA := hid ((mo2_new w (.slice po aP.length pcap) (.slice co aC.length ccap) 32).only ((Only.refl [] _).alloc (.cells #[.slice qo bP.length qcap, .slice eo bC.length ecap] 32)) (by simp))
 have SB := mo2_new (w.alloc (.cells #[.slice po aP.length pcap, .slice co aC.length ccap] 32)) (.slice qo bP.length qcap) (.slice eo bC.length ecap) 32
 rw [World.size_alloc] at SB
 replace SB := hid SB
 obtain ⟨R, hR⟩ : ∃ R, R = decide ((⟨aP, aC⟩ : Mo) = ⟨bP, bC⟩) := ⟨_, rfl⟩
 rw [← hR]
 replace hR := hid hR
 replace o1 := hid o1
 by_cases c1 : aP.length = bP.length
 case neg =>
  have hF : R = false := by
   rw [hR.out]
   simp [show ¬ (aP = bP) from fun e => c1 (by rw [e])]
  subst hF
  have n1 : ((aP.length : Int) != (bP.length : Int)) = true := by simpa using (by omega : ¬ ((aP.length : Int) = (bP.length : Int)))
  have m1 : ¬ ((aP.length : Int) = (bP.length : Int)) := by omega
  clear hR
  go_enter Tryz.func13, Tryz.ntmps13
  go_wp2
  go_ret
  exact ⟨rfl, o1.out⟩
 have n1 : ((aP.length : Int) != (bP.length : Int)) = false := by simp [c1]
 have m1 : ((aP.length : Int) == (bP.length : Int)) = true := by simp [c1]
 replace c1 := hid c1
 by_cases c2 : aC.length = bC.length
 case neg =>
  have hF : R = false := by
   rw [hR.out]
   simp [show ¬ (aC = bC) from fun e => c2 (by rw [e])]
  subst hF
  have n2 : ((aC.length : Int) != (bC.length : Int)) = true := by simpa using (by omega : ¬ ((aC.length : Int) = (bC.length : Int)))
  have m2 : ¬ ((aC.length : Int) = (bC.length : Int)) := by omega
  clear hR
  go_enter Tryz.func13, Tryz.ntmps13
  go_wp2
  go_ret
  exact ⟨rfl, o1.out⟩
 have n2 : ((aC.length : Int) != (bC.length : Int)) = false := by simp [c2]
 have m2 : ((aC.length : Int) == (bC.length : Int)) = true := by simp [c2]
 replace c2 := hid c2
 go_enter Tryz.func13, Tryz.ntmps13
 go_wp2
 go_loopw [5] (fun i wr => ∃ j : Nat, j ≤ aP.length ∧ i = .int .i64 (j : Int) ∧ Hid (aP.take j = bP.take j) ∧ Hid (Mo2 wr w.heap.size (.slice po aP.length pcap) (.slice co aC.length ccap)) ∧ Hid (Mo2 wr (w.heap.size + 1) (.slice qo bP.length qcap) (.slice eo bC.length ecap)) ∧ Hid (Only [] w wr)) (fun i _ => aP.length - (intOf i).toNat)
 case atStart => exact ⟨0, by omega, rfl, hid (by simp), SA, SB, o1⟩
 case round =>
  obtain ⟨j, hj, rfl, hpre, hSA, hSB, hor⟩ := hrel
  clear SA SB o1
  obtain ⟨a0, a1, _, _⟩ := hSA.out
  obtain ⟨b0, b1, _, _⟩ := hSB.out
  by_cases hlt : j < aP.length
  ·have g2 : ((j : Int) < (aP.length : Int)) := by omega
   have hlt2 : j < bP.length := by rw [← c1.out]; exact hlt
   have g3 : ((j : Int) < (bP.length : Int)) := by omega
   have hnx : aP[j] = bP[j] → aP.take (j + 1) = bP.take (j + 1) := by
    intro e
    rw [List.take_succ_eq_append_getElem hlt, List.take_succ_eq_append_getElem hlt2, hpre.out, e]
   have hno : aP[j] ≠ bP[j] → aP ≠ bP := by
    intro e1 e2
    apply e1
    simp [e2]
   replace hnx := hid hnx
   replace hno := hid hno
   obtain ⟨off, rfl, y0, y1, y2, y3, y4, y5⟩ := en_cells (r1.only0 hor.out) hlt
   obtain ⟨off2, rfl, z0, z1, z2, z3, z4, z5⟩ := en_cells (r4.only0 hor.out) hlt2
   have hqt := neq_entry aP[j] bP[j]
   generalize aP[j] = s at *
   generalize bP[j] = t at *
   obtain ⟨s1, s2, s3, s4, s5, s6⟩ := s
   obtain ⟨t1, t2, t3, t4, t5, t6⟩ := t
   simp only [enV] at hqt
   clear hpre
   by_cases hs : (s1, s2, s3, s4, s5, s6) = (t1, t2, t3, t4, t5, t6)
   ·have hnx := hid (hnx.out hs)
    simp only [hs, decide_true, Bool.not_true] at hqt
    clear hs hno
    go_wp2_with fail
    go_region
    go_wp2
    exact ⟨⟨j + 1, by omega, by go_num, hnx, hid (hSA.out.only (Only.refl [] _).drew (by simp)), hid (hSB.out.only (Only.refl [] _).drew (by simp)), hid hor.out.drew⟩, by simp [intOf]; omega⟩
   ·have hF : R = false := by
     rw [hR.out]
     simp [hno.out hs]
    subst hF
    simp only [hs, decide_false, Bool.not_false] at hqt
    clear hs hno hnx hR
    go_wp2_with fail
    go_region
    go_wp2
    go_ret
    exact ⟨rfl, hor.out.drew⟩
  ·have g2 : ¬ ((j : Int) < (aP.length : Int)) := by omega
   have eaP : Hid (aP = bP) := by
    obtain rfl : j = aP.length := by omega
    have h0 := hpre.out
    rw [List.take_of_length_le (Nat.le_refl _), List.take_of_length_le (by rw [c1.out]; exact Nat.le_refl _)] at h0
    exact h0
   clear hpre
   have SA2 := hSA
   have SB2 := hSB
   have o3 := hor
   clear hSA hSB hor a0 a1 b0 b1
   obtain ⟨a0, a1, _, _⟩ := SA2.out
   obtain ⟨b0, b1, _, _⟩ := SB2.out
   go_wp2
   clear a0 a1 b0 b1
   go_loopw [6] (fun i wr => ∃ j : Nat, j ≤ aC.length ∧ i = .int .i64 (j : Int) ∧ Hid (aC.take j = bC.take j) ∧ Hid (Mo2 wr w.heap.size (.slice po aP.length pcap) (.slice co aC.length ccap)) ∧ Hid (Mo2 wr (w.heap.size + 1) (.slice qo bP.length qcap) (.slice eo bC.length ecap)) ∧ Hid (Only [] w wr)) (fun i _ => aC.length - (intOf i).toNat)
   case atStart => exact ⟨0, by omega, rfl, hid (by simp), SA2, SB2, o3⟩
   case round =>
    obtain ⟨j, hj, rfl, hpre, hSA, hSB, hor⟩ := hrel
    clear SA2 SB2 o3
    obtain ⟨a0, a1, _, _⟩ := hSA.out
    obtain ⟨b0, b1, _, _⟩ := hSB.out
    by_cases hlt : j < aC.length
    ·have g2 : ((j : Int) < (aC.length : Int)) := by omega
     have hlt2 : j < bC.length := by rw [← c2.out]; exact hlt
     have g3 : ((j : Int) < (bC.length : Int)) := by omega
     have hnx : aC[j] = bC[j] → aC.take (j + 1) = bC.take (j + 1) := by
      intro e
      rw [List.take_succ_eq_append_getElem hlt, List.take_succ_eq_append_getElem hlt2, hpre.out, e]
     have hno : aC[j] ≠ bC[j] → aC ≠ bC := by
      intro e1 e2
      apply e1
      simp [e2]
     replace hnx := hid hnx
     replace hno := hid hno
     obtain ⟨off, vf, vd, vm, rfl, hm1, y0, y1, y2, y3, y4, y5⟩ := cl_cells (r3.only0 hor.out) hEA.out hlt
     obtain ⟨off2, uf, ud, um, rfl, hm2, z0, z1, z2, z3, z4, z5⟩ := cl_cells (r6.only0 hor.out) hEB.out hlt2
     have HM := hid (rsame_class _ _ ((hm1.only0 hor.out).only0 (Only.refl [] _).drew) ((hm2.only0 hor.out).only0 (Only.refl [] _).drew))
     clear hm1 hm2
     unfold clV at HM
     generalize aC[j] = s at *
     generalize bC[j] = t at *
     clear hpre
     by_cases hs : s = t
     ·have hnx := hid (hnx.out hs)
      have hd : decide (s = t) = true := by simp [hs]
      rw [hd] at HM
      clear hs hno hd
      go_wp2_with fail
      go_region_with (go_at_call 34; refine HM.out.mono ?_; rintro e w4 ⟨rfl, o4⟩)
      all_goals go_wp2
      all_goals exact ⟨⟨j + 1, by omega, by go_num, hnx, hid (hSA.out.only ((Only.refl [] _).drew.trans o4 (by simp)) (by simp)), hid (hSB.out.only ((Only.refl [] _).drew.trans o4 (by simp)) (by simp)), hid (hor.out.drew.trans o4 (by simp))⟩, by simp [intOf]; omega⟩
     ·have hF : R = false := by
       rw [hR.out]
       simp [hno.out hs]
      subst hF
      have hd : decide (s = t) = false := by simp [hs]
      rw [hd] at HM
      clear hs hno hnx hR hd
      go_wp2_with fail
      go_region_with (go_at_call 34; refine HM.out.mono ?_; rintro e w4 ⟨rfl, o4⟩)
      all_goals go_wp2
      all_goals go_ret
      all_goals exact ⟨rfl, hor.out.drew.trans o4 (by simp)⟩
    ·have g2 : ¬ ((j : Int) < (aC.length : Int)) := by omega
     have eaC : Hid (aC = bC) := by
      obtain rfl : j = aC.length := by omega
      have h0 := hpre.out
      rw [List.take_of_length_le (Nat.le_refl _), List.take_of_length_le (by rw [c2.out]; exact Nat.le_refl _)] at h0
      exact h0
     clear hpre
     have hT : R = true := by
      rw [hR.out]
      simp [eaP.out, eaC.out]
     subst hT
     clear hR
     go_wp2
     go_ret
     exact ⟨rfl, hor.out⟩

def okTo (l : List UInt8) : Nat → Bool
  | 0 => true
  | j + 1 => okTo l j && (letter (l.getD j 0) || (digit (l.getD j 0) && decide (0 < j)))

theorem letter_sign (c : UInt8) : letter c = (sign c && !digit c) := by
  unfold sign letter digit
  by_cases h1 : 65 ≤ c.toNat <;> by_cases h2 : c.toNat ≤ 90 <;> by_cases h3 : 97 ≤ c.toNat <;> by_cases h4 : c.toNat ≤ 122 <;> by_cases h5 : c.toNat = 95 <;> by_cases h6 : 48 ≤ c.toNat <;> by_cases h7 : c.toNat ≤ 57
  all_goals first | omega | simp [h1, h2, h3, h4, h5, h6, h7]

theorem okTo_eq (l : List UInt8) (j : Nat) (h : j < l.length) : okTo l (j + 1) = ((l.take (j + 1)).all sign && !digit (l.headD 0)) := by
  have hne : l ≠ [] := by intro e; simp [e] at h
  induction j with
  | zero =>
    cases l with
    | nil => exact absurd rfl hne
    | cons a t => simp [okTo, letter_sign]
  | succ j ih =>
    have hj : l.getD (j + 1) 0 = l[j + 1] := by simp [List.getD, h]
    rw [okTo, ih (by omega), all_take_succ l (j + 1) h, hj]
    have : (letter l[j + 1] || digit l[j + 1] && decide (0 < j + 1)) = sign l[j + 1] := by simp [sign]
    rw [this]
    cases (l.take (j + 1)).all sign <;> cases digit (l.headD 0) <;> cases sign l[j + 1] <;> rfl

theorem name_okTo (l : List UInt8) (h0 : 0 < l.length) (h32 : l.length ≤ 32) : nameOK l = okTo l l.length := by
  cases l with
  | nil => simp at h0
  | cons a t =>
    unfold nameOK
    rw [List.length_cons, okTo_eq (a :: t) t.length (by simp), List.take_of_length_le (by simp)]
    simp at h32 ⊢
    simp [h32]
    cases sign a <;> cases t.all sign <;> cases digit a <;> rfl

theorem okTo_false (l : List UInt8) (j k : Nat) (h : okTo l j = false) (hk : j ≤ k) : okTo l k = false := by
  induction k with
  | zero =>
    obtain rfl : j = 0 := by omega
    exact h
  | succ k ih =>
    by_cases e : j = k + 1
    · rw [← e]
      exact h
    · rw [okTo, ih (by omega)]
      rfl

set_option maxHeartbeats 2000000 in
set_option maxRecDepth 100000 in
theorem rname_any (l : List UInt8) (hl : l.length ≤ 9223372036854775807) (w : World) : Calls Tryz.prog 179 #[.string (str l)] w fun e w' => e = .returned (.bool (nameOK l)) ∧ w' = w := by
  have hs := str_size l
  by_cases h0 : l = []
  · subst h0
    have e1 : nameOK [] = false := by decide
    rw [e1]
    go_enter Tryz.func179, Tryz.ntmps179
    go_wp2
    go_ret
    exact ⟨rfl, rfl⟩
  have hp : 0 < l.length := List.length_pos_iff.2 h0
  have g0 : ¬ ((l.length : Int) < 1) := by omega
  by_cases h1 : 32 < l.length
  · have e1 : nameOK l = false := by
      unfold nameOK
      simp
      omega
    rw [e1]
    have g1 : (32 < (l.length : Int)) := by omega
    go_enter Tryz.func179, Tryz.ntmps179
    go_wp2
    go_ret
    exact ⟨rfl, rfl⟩
  have g1 : ¬ (32 < (l.length : Int)) := by omega
  rw [name_okTo l hp (by omega)]
  go_enter Tryz.func179, Tryz.ntmps179
  go_wp2
  go_loopw [3] (fun i wr => ∃ j : Nat, j ≤ l.length ∧ i = .int .i64 (j : Int) ∧ okTo l j = true ∧ wr = w) (fun i _ => l.length - (intOf i).toNat)
  case atStart => exact ⟨0, by omega, rfl, rfl, rfl⟩
  case round =>
    obtain ⟨j, hj, rfl, hok, rfl⟩ := hrel
    by_cases hlt : j < l.length
    · have g2 : ((j : Int) < (l.length : Int)) := by omega
      have aj := run_at l j hlt
      have hgd : l.getD j 0 = l[j] := by simp [List.getD, hlt]
      have hst : okTo l (j + 1) = (letter l[j] || (digit l[j] && decide (0 < j))) := by
        rw [okTo, hgd, hok]
        simp
      have hno := fun h => okTo_false l (j + 1) l.length h (by omega)
      generalize l[j] = c at *
      replace hst := hid hst
      replace hno := hid hno
      clear hgd hok
      by_cases h1 : 65 ≤ c.toNat <;> by_cases h2 : c.toNat ≤ 90 <;> by_cases h3 : 97 ≤ c.toNat <;> by_cases h4 : c.toNat ≤ 122 <;> by_cases h5 : c.toNat = 95 <;> by_cases h6 : 48 ≤ c.toNat <;> by_cases h7 : c.toNat ≤ 57
      all_goals try omega
      all_goals by_cases hj0 : 0 < j
      all_goals
        have hj1 : (0 < (j : Int)) = (0 < j) := by simp
        go_wp2
        all_goals first
          | (refine ⟨⟨j + 1, by omega, by go_num, ?_, trivial⟩, by simp [intOf]; omega⟩
             rw [hst.out]
             simp [letter, digit, h1, h2, h3, h4, h5, h6, h7, hj0]
             done)
          | (go_ret
             refine ⟨?_, rfl⟩
             rw [hno.out (by rw [hst.out]; simp [letter, digit, h1, h2, h3, h4, h5, h6, h7, hj0])]
             rfl)
          | (exfalso; rename_i hx; simp at hx; omega)
    · have g2 : ¬ ((j : Int) < (l.length : Int)) := by omega
      obtain rfl : j = l.length := by omega
      replace hok := hid hok
      go_wp2
      go_ret
      exact ⟨by rw [hok.out]; rfl, rfl⟩

theorem xmethod_any (l : List UInt8) (hl : l.length ≤ 9223372036854775807) (w : World) : Calls Tryz.prog 182 #[.string (str l)] w fun e w' => e = .returned (.bool (methodOK l)) ∧ w' = w := by
  have HN := hid (rname_any l hl w)
  by_cases h : l = initL
  · subst h
    have ht : (str initL).toList = [60, 105, 110, 105, 116, 62] := str_toList _
    go_enter Tryz.func182, Tryz.ntmps182
    go_wp2_with (go_at_call 179; refine HN.out.mono ?_; rintro e w' ⟨rfl, rfl⟩)
    go_ret
    simp [methodOK]
  · have ht := str_toList l
    have hb2 : ¬ (l = [60, 105, 110, 105, 116, 62]) := h
    go_enter Tryz.func182, Tryz.ntmps182
    go_wp2_with (go_at_call 179; refine HN.out.mono ?_; rintro e w' ⟨rfl, rfl⟩)
    go_ret
    simp [methodOK, h]
    exact fun e => absurd e hb2

set_option maxHeartbeats 400000 in
theorem rcheck_any (t : Ty) (hl : t.2.length ≤ 9223372036854775807) (w : World) : Calls Tryz.prog 149 #[tyV t] w fun e w' => e = .returned (.int .i64 (tyCheck t)) ∧ Only [] w w' := by
  obtain ⟨d, n⟩ := t
  simp only [tyV]
  have ho := (Only.refl [] w).alloc (.cells #[.int .i64 d, .string (str n)] 35)
  have HN := hid (rname_any n hl (w.alloc (.cells #[.int .i64 d, .string (str n)] 35)))
  have ht := str_toList n
  by_cases h1 : d < 0
  · go_enter Tryz.func149, Tryz.ntmps149
    go_wp2
    go_ret
    exact ⟨by simp [tyCheck, h1], ho⟩
  by_cases h2 : 8 < d
  · go_enter Tryz.func149, Tryz.ntmps149
    go_wp2
    go_ret
    exact ⟨by simp [tyCheck, h2], ho⟩
  by_cases h3 : n = []
  · subst h3
    go_enter Tryz.func149, Tryz.ntmps149
    go_wp2_with (go_at_call 179; refine HN.out.mono ?_; rintro e w' ⟨rfl, rfl⟩)
    go_ret
    exact ⟨by simp [tyCheck, h1, h2], ho⟩
  have hi : n.isEmpty = false := by simpa using h3
  cases h4 : nameOK n with
  | true =>
    rw [h4] at HN
    go_enter Tryz.func149, Tryz.ntmps149
    go_wp2_with (go_at_call 179; refine HN.out.mono ?_; rintro e w' ⟨rfl, rfl⟩)
    go_ret
    exact ⟨by simp [tyCheck, h1, h2, h4], ho⟩
  | false =>
    rw [h4] at HN
    go_enter Tryz.func149, Tryz.ntmps149
    go_wp2_with (go_at_call 179; refine HN.out.mono ?_; rintro e w' ⟨rfl, rfl⟩)
    go_ret
    exact ⟨by simp [tyCheck, h1, h2, h3, h4], ho⟩

theorem dnumber_any (t : Ty) (w : World) : Calls Tryz.prog 231 #[tyV t] w fun e w' => e = .returned (.bool (decide (t = (0, [])))) ∧ Only [] w w' := by
  obtain ⟨d, n⟩ := t
  simp only [tyV]
  have ho := (Only.refl [] w).alloc (.cells #[.int .i64 d, .string (str n)] 35)
  have ht := str_toList n
  by_cases h1 : d = 0
  · subst h1
    by_cases h2 : n = []
    · subst h2
      go_enter Tryz.func231, Tryz.ntmps231
      go_wp2
      go_ret
      exact ⟨by simp, ho⟩
    · have hi : n.isEmpty = false := by simpa using h2
      have e1 : Hid (decide (((0 : Int), n) = ((0, []) : Ty)) = false) := by simp [Hid, h2]
      rw [e1.out]
      clear h2
      go_enter Tryz.func231, Tryz.ntmps231
      go_wp2
      go_ret
      exact ⟨rfl, ho⟩
  · have hi : (d == 0) = false := by simpa using h1
    have e1 : Hid (decide ((d, n) = ((0, []) : Ty)) = false) := by simp [Hid, h1]
    rw [e1.out]
    clear h1
    go_enter Tryz.func231, Tryz.ntmps231
    go_wp2
    go_ret
    exact ⟨rfl, ho⟩

end Go.Proofs.YtildemmkhndhjaaGreatDoor
