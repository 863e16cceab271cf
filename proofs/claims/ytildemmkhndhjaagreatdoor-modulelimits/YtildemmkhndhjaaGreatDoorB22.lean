/-
  What the proof leans on, part 22 of 23. The conditions stand in each theorem.
-/
import Derived.Test.YtildemmkhndhjaaGreatDoorB10
import Derived.Test.YtildemmkhndhjaaGreatDoorB21
import Derived.Test.YtildemmkhndhjaaGreatDoorB11
import Derived.Test.YtildemmkhndhjaaGreatDoorB13
import Derived.Deep.DeepCutAuto
import Derived.Test.YtildemmkhndhjaaGreatDoorB18
namespace Go.Proofs.YtildemmkhndhjaaGreatDoor
open Go.RowKit

theorem SlV.rs {w : World} {P : Nat → Prop} {ao : Option Addr} {n cap : Nat} {cs : List Value} (h : SlV w P (.slice ao n cap) n cs) : ∃ d, RS w ao cs d := by
  obtain ⟨a, c, d, e, h⟩ := h
  simp only [Value.slice.injEq] at e
  obtain ⟨rfl, _, rfl⟩ := e
  exact ⟨d, h.rs⟩

theorem SlV.shape {w : World} {P : Nat → Prop} {v : Value} {n : Nat} {cs : List Value} (h : SlV w P v n cs) : ∃ ao cap, v = .slice ao n cap ∧ n ≤ 9223372036854775807 := by
  obtain ⟨a, c, d, e, h⟩ := h
  have := h.le
  have := h.max
  exact ⟨a, c, e, by omega⟩

set_option maxHeartbeats 4000000 in
set_option maxRecDepth 100000 in
theorem rsame_method {w : World} {P Q : Nat → Prop} (a b : Me) {vp vc vh up uc uh : Value} (hA : MeAt (SlR w P) vp vc vh a) (hB : MeAt (SlR w Q) up uc uh b) :
    Calls Tryz.prog 86 #[meV vp vc vh a, meV up uc uh b] w fun e w' => e = .returned (.bool (decide (a = b))) ∧ Only [] w w' := by
  obtain ⟨af, an, ⟨al, av, at_⟩, ast, aloc, ac, ah⟩ := a
  obtain ⟨bf, bn, ⟨bl, bv, bt⟩, bst, bloc, bc, bh⟩ := b
  obtain ⟨hA1, hA2, hA3⟩ := hA
  obtain ⟨hB1, hB2, hB3⟩ := hB
  obtain ⟨po, pcap, rfl, pl⟩ := SlV.shape hA1
  obtain ⟨co, ccap, rfl, cl⟩ := SlV.shape hA2
  obtain ⟨ho, hcap, rfl, hl⟩ := SlV.shape hA3
  obtain ⟨qo, qcap, rfl, ql⟩ := SlV.shape hB1
  obtain ⟨eo, ecap, rfl, el⟩ := SlV.shape hB2
  obtain ⟨go, gcap, rfl, gl⟩ := SlV.shape hB3
  obtain ⟨d1, r1⟩ := SlV.rs hA1
  obtain ⟨d2, r2⟩ := SlV.rs hA2
  obtain ⟨d3, r3⟩ := SlV.rs hA3
  obtain ⟨d4, r4⟩ := SlV.rs hB1
  obtain ⟨d5, r5⟩ := SlV.rs hB2
  obtain ⟨d6, r6⟩ := SlV.rs hB3
  clear hA1 hA2 hA3 hB1 hB2 hB3
  simp only at pl cl hl ql el gl r1 r2 r3 r4 r5 r6
  have o1 := ((Only.refl [] w).alloc (.cells #[.int .i64 af, .string (str an), .slice po al.length pcap, .bool av, .int .i64 at_.1, .string (str at_.2), .int .i64 ast, .int .i64 aloc, .slice co ac.length ccap, .slice ho ah.length hcap] 41)).alloc (.cells #[.int .i64 bf, .string (str bn), .slice qo bl.length qcap, .bool bv, .int .i64 bt.1, .string (str bt.2), .int .i64 bst, .int .i64 bloc, .slice eo bc.length ecap, .slice go bh.length gcap] 41)
  have HS := hid (rsame_any (cap := pcap) (bap := qcap) (TS.of_rs (r1.only0 o1)) (TS.of_rs (r4.only0 o1)) pl av bv at_ bt)
  have kA := fun w' (h : Only [] ((w.alloc (.cells #[.int .i64 af, .string (str an), .slice po al.length pcap, .bool av, .int .i64 at_.1, .string (str at_.2), .int .i64 ast, .int .i64 aloc, .slice co ac.length ccap, .slice ho ah.length hcap] 41)).alloc (.cells #[.int .i64 bf, .string (str bn), .slice qo bl.length qcap, .bool bv, .int .i64 bt.1, .string (str bt.2), .int .i64 bst, .int .i64 bloc, .slice eo bc.length ecap, .slice go bh.length gcap] 41)) w') => (r2.only0 (o1.trans h (by simp))).conv ccap
  have kB := fun w' (h : Only [] ((w.alloc (.cells #[.int .i64 af, .string (str an), .slice po al.length pcap, .bool av, .int .i64 at_.1, .string (str at_.2), .int .i64 ast, .int .i64 aloc, .slice co ac.length ccap, .slice ho ah.length hcap] 41)).alloc (.cells #[.int .i64 bf, .string (str bn), .slice qo bl.length qcap, .bool bv, .int .i64 bt.1, .string (str bt.2), .int .i64 bst, .int .i64 bloc, .slice eo bc.length ecap, .slice go bh.length gcap] 41)) w') => (r5.only0 (o1.trans h (by simp))).conv ecap
  have SA := hid ((me10_new w (.int .i64 af) (.string (str an)) (.slice po al.length pcap) (.bool av) (.int .i64 at_.1) (.string (str at_.2)) (.int .i64 ast) (.int .i64 aloc) (.slice co ac.length ccap) (.slice ho ah.length hcap) 41).only ((Only.refl [] _).alloc (.cells #[.int .i64 bf, .string (str bn), .slice qo bl.length qcap, .bool bv, .int .i64 bt.1, .string (str bt.2), .int .i64 bst, .int .i64 bloc, .slice eo bc.length ecap, .slice go bh.length gcap] 41)) (by simp))
  have SB := me10_new (w.alloc (.cells #[.int .i64 af, .string (str an), .slice po al.length pcap, .bool av, .int .i64 at_.1, .string (str at_.2), .int .i64 ast, .int .i64 aloc, .slice co ac.length ccap, .slice ho ah.length hcap] 41)) (.int .i64 bf) (.string (str bn)) (.slice qo bl.length qcap) (.bool bv) (.int .i64 bt.1) (.string (str bt.2)) (.int .i64 bst) (.int .i64 bloc) (.slice eo bc.length ecap) (.slice go bh.length gcap) 41
  rw [World.size_alloc] at SB
  replace SB := hid SB
  simp only [sigV] at HS
  simp only [meV]
  obtain ⟨R, hR⟩ : ∃ R, R = decide ((⟨af, an, (al, av, at_), ast, aloc, ac, ah⟩ : Me) = ⟨bf, bn, (bl, bv, bt), bst, bloc, bc, bh⟩) := ⟨_, rfl⟩
  rw [← hR]
  replace hR := hid hR
  replace o1 := hid o1
  replace kA := hid kA
  replace kB := hid kB
  by_cases c1 : af = bf
  case neg =>
    have hF : R = false := by
      rw [hR.out]
      simp [c1]
    subst hF
    have n1 : (af == bf) = false := by simpa using c1
    have m1 : (af != bf) = true := by simpa using c1
    clear hR
    go_enter Tryz.func86, Tryz.ntmps86
    go_wp2
    go_ret
    exact ⟨rfl, o1.out⟩
  subst c1
  by_cases c2 : an = bn
  case neg =>
    have hF : R = false := by
      rw [hR.out]
      simp [c2]
    subst hF
    have n2 : (an == bn) = false := by simpa using c2
    have m2 : (an != bn) = true := by simpa using c2
    have p2 : ¬ ((str an).toList = (str bn).toList) := by rw [str_toList, str_toList]; exact c2
    have q2 : ((str an).toList == (str bn).toList) = false := by simpa using p2
    have s2 : ((str an).toList != (str bn).toList) = true := by simpa using p2
    clear hR
    go_enter Tryz.func86, Tryz.ntmps86
    go_wp2
    go_ret
    exact ⟨rfl, o1.out⟩
  subst c2
  by_cases c3 : ((al, av, at_) : Sg) = (bl, bv, bt)
  case neg =>
    have hF : R = false := by
      rw [hR.out]
      simp [show ¬ (((al, av, at_) : Sg) = (bl, bv, bt)) from c3]
    subst hF
    have hs : sameR (al, av, at_) (bl, bv, bt) = false := by simp [sameR, c3]
    rw [hs] at HS
    clear hR
    go_enter Tryz.func86, Tryz.ntmps86
    go_wp2_with (go_at_call 145; refine HS.out.mono ?_; rintro e w3 ⟨rfl, o3⟩; have ka := kA.out w3 o3; have kb := kB.out w3 o3; have SA3 := hid (SA.out.only o3 (by simp)); have SB3 := hid (SB.out.only o3 (by simp)); obtain ⟨a0, a1, a2, a3, a4, a5, a6, a7, a8, a9, _, _, _, _, _, _, _, _, _, _⟩ := SA3.out; obtain ⟨b0, b1, b2, b3, b4, b5, b6, b7, b8, b9, _, _, _, _, _, _, _, _, _, _⟩ := SB3.out)
    go_ret
    exact ⟨rfl, o1.out.trans o3 (by simp)⟩
  have hs : sameR (al, av, at_) (bl, bv, bt) = true := by simp [sameR, c3]
  rw [hs] at HS
  replace c3 := hid c3
  by_cases c4 : ast = bst
  case neg =>
    have hF : R = false := by
      rw [hR.out]
      simp [c4]
    subst hF
    have n4 : (ast == bst) = false := by simpa using c4
    have m4 : (ast != bst) = true := by simpa using c4
    clear hR
    go_enter Tryz.func86, Tryz.ntmps86
    go_wp2_with (go_at_call 145; refine HS.out.mono ?_; rintro e w3 ⟨rfl, o3⟩; have ka := kA.out w3 o3; have kb := kB.out w3 o3; have SA3 := hid (SA.out.only o3 (by simp)); have SB3 := hid (SB.out.only o3 (by simp)); obtain ⟨a0, a1, a2, a3, a4, a5, a6, a7, a8, a9, _, _, _, _, _, _, _, _, _, _⟩ := SA3.out; obtain ⟨b0, b1, b2, b3, b4, b5, b6, b7, b8, b9, _, _, _, _, _, _, _, _, _, _⟩ := SB3.out)
    go_ret
    exact ⟨rfl, o1.out.trans o3 (by simp)⟩
  subst c4
  by_cases c5 : aloc = bloc
  case neg =>
    have hF : R = false := by
      rw [hR.out]
      simp [c5]
    subst hF
    have n5 : (aloc == bloc) = false := by simpa using c5
    have m5 : (aloc != bloc) = true := by simpa using c5
    clear hR
    go_enter Tryz.func86, Tryz.ntmps86
    go_wp2_with (go_at_call 145; refine HS.out.mono ?_; rintro e w3 ⟨rfl, o3⟩; have ka := kA.out w3 o3; have kb := kB.out w3 o3; have SA3 := hid (SA.out.only o3 (by simp)); have SB3 := hid (SB.out.only o3 (by simp)); obtain ⟨a0, a1, a2, a3, a4, a5, a6, a7, a8, a9, _, _, _, _, _, _, _, _, _, _⟩ := SA3.out; obtain ⟨b0, b1, b2, b3, b4, b5, b6, b7, b8, b9, _, _, _, _, _, _, _, _, _, _⟩ := SB3.out)
    go_ret
    exact ⟨rfl, o1.out.trans o3 (by simp)⟩
  subst c5
  by_cases c6 : ac = bc
  case neg =>
    have hF : R = false := by
      rw [hR.out]
      simp [c6]
    subst hF
    have n6 : (ac == bc) = false := by simpa using c6
    have m6 : (ac != bc) = true := by simpa using c6
    have p6 : ¬ ((str ac).toList = (str bc).toList) := by rw [str_toList, str_toList]; exact c6
    have q6 : ((str ac).toList == (str bc).toList) = false := by simpa using p6
    have s6 : ((str ac).toList != (str bc).toList) = true := by simpa using p6
    clear hR
    go_enter Tryz.func86, Tryz.ntmps86
    go_wp2_with (go_at_call 145; refine HS.out.mono ?_; rintro e w3 ⟨rfl, o3⟩; have ka := kA.out w3 o3; have kb := kB.out w3 o3; have SA3 := hid (SA.out.only o3 (by simp)); have SB3 := hid (SB.out.only o3 (by simp)); obtain ⟨a0, a1, a2, a3, a4, a5, a6, a7, a8, a9, _, _, _, _, _, _, _, _, _, _⟩ := SA3.out; obtain ⟨b0, b1, b2, b3, b4, b5, b6, b7, b8, b9, _, _, _, _, _, _, _, _, _, _⟩ := SB3.out)
    go_ret
    exact ⟨rfl, o1.out.trans o3 (by simp)⟩
  subst c6
  by_cases c7 : ah.length = bh.length
  case neg =>
    have hF : R = false := by
      rw [hR.out]
      simp [show ¬ (ah = bh) from fun e => c7 (by rw [e])]
    subst hF
    have n7 : ((ah.length : Int) != (bh.length : Int)) = true := by simpa using (by omega : ¬ ((ah.length : Int) = (bh.length : Int)))
    have m7 : ¬ ((ah.length : Int) = (bh.length : Int)) := by omega
    clear hR
    go_enter Tryz.func86, Tryz.ntmps86
    go_wp2_with (go_at_call 145; refine HS.out.mono ?_; rintro e w3 ⟨rfl, o3⟩; have ka := kA.out w3 o3; have kb := kB.out w3 o3; have SA3 := hid (SA.out.only o3 (by simp)); have SB3 := hid (SB.out.only o3 (by simp)); obtain ⟨a0, a1, a2, a3, a4, a5, a6, a7, a8, a9, _, _, _, _, _, _, _, _, _, _⟩ := SA3.out; obtain ⟨b0, b1, b2, b3, b4, b5, b6, b7, b8, b9, _, _, _, _, _, _, _, _, _, _⟩ := SB3.out)
    go_ret
    exact ⟨rfl, o1.out.trans o3 (by simp)⟩
  have n7 : ((ah.length : Int) != (bh.length : Int)) = false := by simp [c7]
  have m7 : ((ah.length : Int) == (bh.length : Int)) = true := by simp [c7]
  replace c7 := hid c7
  go_enter Tryz.func86, Tryz.ntmps86
  go_wp2_with (go_at_call 145; refine HS.out.mono ?_; rintro e w3 ⟨rfl, o3⟩; have ka := kA.out w3 o3; have kb := kB.out w3 o3; have SA3 := hid (SA.out.only o3 (by simp)); have SB3 := hid (SB.out.only o3 (by simp)); obtain ⟨a0, a1, a2, a3, a4, a5, a6, a7, a8, a9, _, _, _, _, _, _, _, _, _, _⟩ := SA3.out; obtain ⟨b0, b1, b2, b3, b4, b5, b6, b7, b8, b9, _, _, _, _, _, _, _, _, _, _⟩ := SB3.out)
  clear a0 a1 a2 a3 a4 a5 a6 a7 a8 a9 b0 b1 b2 b3 b4 b5 b6 b7 b8 b9 ka kb SA SB HS kA kB
  have o4 := hid (o1.out.trans o3 (by simp))
  clear o3 o1
  go_loopw [5] (fun i wr => ∃ j : Nat, j ≤ ah.length ∧ i = .int .i64 (j : Int) ∧ Hid (ah.take j = bh.take j) ∧ Hid (Me10 wr w.heap.size (.int .i64 af) (.string (str an)) (.slice po al.length pcap) (.bool av) (.int .i64 at_.1) (.string (str at_.2)) (.int .i64 ast) (.int .i64 aloc) (.slice co ac.length ccap) (.slice ho ah.length hcap)) ∧ Hid (Me10 wr (w.heap.size + 1) (.int .i64 af) (.string (str an)) (.slice qo bl.length qcap) (.bool bv) (.int .i64 bt.1) (.string (str bt.2)) (.int .i64 ast) (.int .i64 aloc) (.slice eo ac.length ecap) (.slice go bh.length gcap)) ∧ Hid (Only [] w wr)) (fun i _ => ah.length - (intOf i).toNat)
  case atStart => exact ⟨0, by omega, rfl, hid (by simp), SA3, SB3, o4⟩
  case round =>
    obtain ⟨j, hj, rfl, hpre, hSA, hSB, hor⟩ := hrel
    clear SA3 SB3 o4
    obtain ⟨a0, a1, a2, a3, a4, a5, a6, a7, a8, a9, _, _, _, _, _, _, _, _, _, _⟩ := hSA.out
    obtain ⟨b0, b1, b2, b3, b4, b5, b6, b7, b8, b9, _, _, _, _, _, _, _, _, _, _⟩ := hSB.out
    by_cases hlt : j < ah.length
    · have g2 : ((j : Int) < (ah.length : Int)) := by omega
      have hlt2 : j < bh.length := by rw [← c7.out]; exact hlt
      have g3 : ((j : Int) < (bh.length : Int)) := by omega
      obtain ⟨off, rfl, y0, y1, y2, y3⟩ := hd_cells (r3.only0 hor.out) hlt
      obtain ⟨off2, rfl, z0, z1, z2, z3⟩ := hd_cells (r6.only0 hor.out) hlt2
      have hnx : ah[j] = bh[j] → ah.take (j + 1) = bh.take (j + 1) := by
        intro e
        rw [List.take_succ_eq_append_getElem hlt, List.take_succ_eq_append_getElem hlt2, hpre.out, e]
      have hno : ah[j] ≠ bh[j] → ah ≠ bh := by
        intro e1 e2
        apply e1
        simp [e2]
      have hqt := neq_hd ah[j] bh[j]
      generalize ah[j] = s at *
      generalize bh[j] = t at *
      obtain ⟨s1, s2, s3, s4⟩ := s
      obtain ⟨t1, t2, t3, t4⟩ := t
      simp only [hdV] at hqt
      clear hpre
      by_cases hs : (s1, s2, s3, s4) = (t1, t2, t3, t4)
      · have hnx := hid (hnx hs)
        simp only [hs, decide_true, Bool.not_true] at hqt
        clear hs hno
        go_wp2_with fail
        go_region
        go_wp2
        exact ⟨⟨j + 1, by omega, by go_num, hnx, hid (hSA.out.only (Only.refl [] _).drew (by simp)), hid (hSB.out.only (Only.refl [] _).drew (by simp)), hid hor.out.drew⟩, by simp [intOf]; omega⟩
      · have hF : R = false := by
          rw [hR.out]
          simp [hno hs]
        subst hF
        simp only [hs, decide_false, Bool.not_false] at hqt
        clear hs hno hnx hR
        go_wp2_with fail
        go_region
        go_wp2
        go_ret
        exact ⟨rfl, hor.out.drew⟩
    · have g2 : ¬ ((j : Int) < (ah.length : Int)) := by omega
      have hT : R = true := by
        obtain rfl : j = ah.length := by omega
        have h0 := hpre.out
        rw [List.take_of_length_le (Nat.le_refl _), List.take_of_length_le (by rw [c7.out]; exact Nat.le_refl _)] at h0
        rw [hR.out]
        obtain ⟨k1, k2, k3⟩ : al = bl ∧ av = bv ∧ at_ = bt := by simpa using c3.out
        simp [h0, k1, k2, k3]
      subst hT
      clear hR
      go_wp2
      go_ret
      exact ⟨rfl, hor.out⟩

end Go.Proofs.YtildemmkhndhjaaGreatDoor
namespace Go.Proofs.YtildemmkhndhjaaGreatDoor
open Go.RowKit

theorem str_cells {w : World} {ao : Option Addr} {l : List (List UInt8)} {d : Nat} (h : RS w ao (scs l) d) {j : Nat} (hj : j < l.length) :
    ∃ off, ao = some ⟨d, off, none⟩ ∧ w.cell? ⟨d, off + j, none⟩ = some (.string (str l[j])) := by
  obtain ⟨off, ha, hc⟩ := h.piece 1 j ((els_flat scC (fun _ => rfl) l).el j hj) (by simp [scC])
  refine ⟨off, ha, ?_⟩
  have := hc 0 _ rfl
  simpa using this

set_option maxHeartbeats 4000000 in
set_option maxRecDepth 100000 in
theorem rsame_class {w : World} {P Q : Nat → Prop} (a b : Cl) {vf vd vm uf ud um : Value} (hA : ClAt (SlR w P) vf vd vm a) (hB : ClAt (SlR w Q) uf ud um b) :
    Calls Tryz.prog 34 #[clV vf vd vm a, clV uf ud um b] w fun e w' => e = .returned (.bool (decide (a = b))) ∧ Only [] w w' := by
  obtain ⟨af, an, au, aF, aD, aM⟩ := a
  obtain ⟨bf, bn, bu, bF, bD, bM⟩ := b
  obtain ⟨hA1, hA2, acs, hA3, hEA⟩ := hA
  obtain ⟨hB1, hB2, bcs, hB3, hEB⟩ := hB
  obtain ⟨fo, fcap, rfl, pl⟩ := SlV.shape hA1
  obtain ⟨do_, dcap, rfl, cl⟩ := SlV.shape hA2
  obtain ⟨mo, mcap, rfl, hl⟩ := SlV.shape hA3
  obtain ⟨go, gcap, rfl, ql⟩ := SlV.shape hB1
  obtain ⟨eo, ecap, rfl, el⟩ := SlV.shape hB2
  obtain ⟨no_, ncap, rfl, gl⟩ := SlV.shape hB3
  obtain ⟨d1, r1⟩ := SlV.rs hA1
  obtain ⟨d2, r2⟩ := SlV.rs hA2
  obtain ⟨d3, r3⟩ := SlV.rs hA3
  obtain ⟨d4, r4⟩ := SlV.rs hB1
  obtain ⟨d5, r5⟩ := SlV.rs hB2
  obtain ⟨d6, r6⟩ := SlV.rs hB3
  clear hA1 hA2 hA3 hB1 hB2 hB3
  simp only at pl cl hl ql el gl r1 r2 r3 r4 r5 r6 hEA hEB
  replace hEA := hid hEA
  replace hEB := hid hEB
  have o1 := ((Only.refl [] w).alloc (.cells #[.int .i64 af, .string (str an), .string (str au), .slice fo aF.length fcap, .slice do_ aD.length dcap, .slice mo aM.length mcap] 28)).alloc (.cells #[.int .i64 bf, .string (str bn), .string (str bu), .slice go bF.length gcap, .slice eo bD.length ecap, .slice no_ bM.length ncap] 28)
  have SA := hid ((cl6_new w (.int .i64 af) (.string (str an)) (.string (str au)) (.slice fo aF.length fcap) (.slice do_ aD.length dcap) (.slice mo aM.length mcap) 28).only ((Only.refl [] _).alloc (.cells #[.int .i64 bf, .string (str bn), .string (str bu), .slice go bF.length gcap, .slice eo bD.length ecap, .slice no_ bM.length ncap] 28)) (by simp))
  have SB := cl6_new (w.alloc (.cells #[.int .i64 af, .string (str an), .string (str au), .slice fo aF.length fcap, .slice do_ aD.length dcap, .slice mo aM.length mcap] 28)) (.int .i64 bf) (.string (str bn)) (.string (str bu)) (.slice go bF.length gcap) (.slice eo bD.length ecap) (.slice no_ bM.length ncap) 28
  rw [World.size_alloc] at SB
  replace SB := hid SB
  simp only [clV]
  obtain ⟨R, hR⟩ : ∃ R, R = decide ((⟨af, an, au, aF, aD, aM⟩ : Cl) = ⟨bf, bn, bu, bF, bD, bM⟩) := ⟨_, rfl⟩
  rw [← hR]
  replace hR := hid hR
  replace o1 := hid o1
  by_cases c1 : af = bf
  case neg =>
    have hF : R = false := by
      rw [hR.out]
      simp [c1]
    subst hF
    have n1 : (af == bf) = false := by simpa using c1
    have m1 : (af != bf) = true := by simpa using c1
    clear hR
    go_enter Tryz.func34, Tryz.ntmps34
    go_wp2
    go_ret
    exact ⟨rfl, o1.out⟩
  subst c1
  by_cases c2 : an = bn
  case neg =>
    have hF : R = false := by
      rw [hR.out]
      simp [c2]
    subst hF
    have n2 : (an == bn) = false := by simpa using c2
    have m2 : (an != bn) = true := by simpa using c2
    have p2 : ¬ ((str an).toList = (str bn).toList) := by rw [str_toList, str_toList]; exact c2
    have q2 : ((str an).toList == (str bn).toList) = false := by simpa using p2
    have s2 : ((str an).toList != (str bn).toList) = true := by simpa using p2
    clear hR
    go_enter Tryz.func34, Tryz.ntmps34
    go_wp2
    go_ret
    exact ⟨rfl, o1.out⟩
  subst c2
  by_cases c3 : au = bu
  case neg =>
    have hF : R = false := by
      rw [hR.out]
      simp [c3]
    subst hF
    have n3 : (au == bu) = false := by simpa using c3
    have m3 : (au != bu) = true := by simpa using c3
    have p3 : ¬ ((str au).toList = (str bu).toList) := by rw [str_toList, str_toList]; exact c3
    have q3 : ((str au).toList == (str bu).toList) = false := by simpa using p3
    have s3 : ((str au).toList != (str bu).toList) = true := by simpa using p3
    clear hR
    go_enter Tryz.func34, Tryz.ntmps34
    go_wp2
    go_ret
    exact ⟨rfl, o1.out⟩
  subst c3
  by_cases c4 : aF.length = bF.length
  case neg =>
    have hF : R = false := by
      rw [hR.out]
      simp [show ¬ (aF = bF) from fun e => c4 (by rw [e])]
    subst hF
    have n4 : ((aF.length : Int) != (bF.length : Int)) = true := by simpa using (by omega : ¬ ((aF.length : Int) = (bF.length : Int)))
    have m4 : ¬ ((aF.length : Int) = (bF.length : Int)) := by omega
    clear hR
    go_enter Tryz.func34, Tryz.ntmps34
    go_wp2
    go_ret
    exact ⟨rfl, o1.out⟩
  have n4 : ((aF.length : Int) != (bF.length : Int)) = false := by simp [c4]
  have m4 : ((aF.length : Int) == (bF.length : Int)) = true := by simp [c4]
  replace c4 := hid c4
  by_cases c5 : aD.length = bD.length
  case neg =>
    have hF : R = false := by
      rw [hR.out]
      simp [show ¬ (aD = bD) from fun e => c5 (by rw [e])]
    subst hF
    have n5 : ((aD.length : Int) != (bD.length : Int)) = true := by simpa using (by omega : ¬ ((aD.length : Int) = (bD.length : Int)))
    have m5 : ¬ ((aD.length : Int) = (bD.length : Int)) := by omega
    clear hR
    go_enter Tryz.func34, Tryz.ntmps34
    go_wp2
    go_ret
    exact ⟨rfl, o1.out⟩
  have n5 : ((aD.length : Int) != (bD.length : Int)) = false := by simp [c5]
  have m5 : ((aD.length : Int) == (bD.length : Int)) = true := by simp [c5]
  replace c5 := hid c5
  by_cases c6 : aM.length = bM.length
  case neg =>
    have hF : R = false := by
      rw [hR.out]
      simp [show ¬ (aM = bM) from fun e => c6 (by rw [e])]
    subst hF
    have n6 : ((aM.length : Int) != (bM.length : Int)) = true := by simpa using (by omega : ¬ ((aM.length : Int) = (bM.length : Int)))
    have m6 : ¬ ((aM.length : Int) = (bM.length : Int)) := by omega
    clear hR
    go_enter Tryz.func34, Tryz.ntmps34
    go_wp2
    go_ret
    exact ⟨rfl, o1.out⟩
  have n6 : ((aM.length : Int) != (bM.length : Int)) = false := by simp [c6]
  have m6 : ((aM.length : Int) == (bM.length : Int)) = true := by simp [c6]
  replace c6 := hid c6
  go_enter Tryz.func34, Tryz.ntmps34
  go_wp2
  go_loopw [5] (fun i wr => ∃ j : Nat, j ≤ aF.length ∧ i = .int .i64 (j : Int) ∧ Hid (aF.take j = bF.take j) ∧ Hid (Cl6 wr w.heap.size (.int .i64 af) (.string (str an)) (.string (str au)) (.slice fo aF.length fcap) (.slice do_ aD.length dcap) (.slice mo aM.length mcap)) ∧ Hid (Cl6 wr (w.heap.size + 1) (.int .i64 af) (.string (str an)) (.string (str au)) (.slice go bF.length gcap) (.slice eo bD.length ecap) (.slice no_ bM.length ncap)) ∧ Hid (Only [] w wr)) (fun i _ => aF.length - (intOf i).toNat)
  case atStart => exact ⟨0, by omega, rfl, hid (by simp), SA, SB, o1⟩
  case round =>
    obtain ⟨j, hj, rfl, hpre, hSA, hSB, hor⟩ := hrel
    clear SA SB o1
    obtain ⟨a0, a1, a2, a3, a4, a5, _, _, _, _, _, _⟩ := hSA.out
    obtain ⟨b0, b1, b2, b3, b4, b5, _, _, _, _, _, _⟩ := hSB.out
    by_cases hlt : j < aF.length
    · have g2 : ((j : Int) < (aF.length : Int)) := by omega
      have hlt2 : j < bF.length := by rw [← c4.out]; exact hlt
      have g3 : ((j : Int) < (bF.length : Int)) := by omega
      have hnx : aF[j] = bF[j] → aF.take (j + 1) = bF.take (j + 1) := by
        intro e
        rw [List.take_succ_eq_append_getElem hlt, List.take_succ_eq_append_getElem hlt2, hpre.out, e]
      have hno : aF[j] ≠ bF[j] → aF ≠ bF := by
        intro e1 e2
        apply e1
        simp [e2]
      replace hnx := hid hnx
      replace hno := hid hno
      obtain ⟨off, rfl, y0⟩ := str_cells (r1.only0 hor.out) hlt
      obtain ⟨off2, rfl, z0⟩ := str_cells (r4.only0 hor.out) hlt2
      generalize aF[j] = s at *
      generalize bF[j] = t at *
      clear hpre
      by_cases hs : s = t
      · replace hnx := hid (hnx.out hs)
        subst hs
        clear hno
        go_wp2_with fail
        go_region
        go_wp2
        exact ⟨⟨j + 1, by omega, by go_num, hnx, hid (hSA.out.only (Only.refl [] _).drew (by simp)), hid (hSB.out.only (Only.refl [] _).drew (by simp)), hid hor.out.drew⟩, by simp [intOf]; omega⟩
      · have hF : R = false := by
          rw [hR.out]
          simp [hno.out hs]
        subst hF
        have p1 : ¬ ((str s).toList = (str t).toList) := by rw [str_toList, str_toList]; exact hs
        have q1 : ((str s).toList == (str t).toList) = false := by simpa using p1
        have s1 : ((str s).toList != (str t).toList) = true := by simpa using p1
        clear hs hno hnx hR
        go_wp2_with fail
        go_region
        go_wp2
        go_ret
        exact ⟨rfl, hor.out.drew⟩
    · have g2 : ¬ ((j : Int) < (aF.length : Int)) := by omega
      have eaF : Hid (aF = bF) := by
        obtain rfl : j = aF.length := by omega
        have h0 := hpre.out
        rw [List.take_of_length_le (Nat.le_refl _), List.take_of_length_le (by rw [c4.out]; exact Nat.le_refl _)] at h0
        exact h0
      clear hpre
      have SA2 := hSA
      have SB2 := hSB
      have o3 := hor
      clear hSA hSB hor a0 a1 a2 a3 a4 a5 b0 b1 b2 b3 b4 b5
      obtain ⟨a0, a1, a2, a3, a4, a5, _, _, _, _, _, _⟩ := SA2.out
      obtain ⟨b0, b1, b2, b3, b4, b5, _, _, _, _, _, _⟩ := SB2.out
      go_wp2
      clear a0 a1 a2 a3 a4 a5 b0 b1 b2 b3 b4 b5
      go_loopw [6] (fun i wr => ∃ j : Nat, j ≤ aD.length ∧ i = .int .i64 (j : Int) ∧ Hid (aD.take j = bD.take j) ∧ Hid (Cl6 wr w.heap.size (.int .i64 af) (.string (str an)) (.string (str au)) (.slice fo aF.length fcap) (.slice do_ aD.length dcap) (.slice mo aM.length mcap)) ∧ Hid (Cl6 wr (w.heap.size + 1) (.int .i64 af) (.string (str an)) (.string (str au)) (.slice go bF.length gcap) (.slice eo bD.length ecap) (.slice no_ bM.length ncap)) ∧ Hid (Only [] w wr)) (fun i _ => aD.length - (intOf i).toNat)
      case atStart => exact ⟨0, by omega, rfl, hid (by simp), SA2, SB2, o3⟩
      case round =>
        obtain ⟨j, hj, rfl, hpre, hSA, hSB, hor⟩ := hrel
        clear SA2 SB2 o3
        obtain ⟨a0, a1, a2, a3, a4, a5, _, _, _, _, _, _⟩ := hSA.out
        obtain ⟨b0, b1, b2, b3, b4, b5, _, _, _, _, _, _⟩ := hSB.out
        by_cases hlt : j < aD.length
        · have g2 : ((j : Int) < (aD.length : Int)) := by omega
          have hlt2 : j < bD.length := by rw [← c5.out]; exact hlt
          have g3 : ((j : Int) < (bD.length : Int)) := by omega
          have hnx : aD[j] = bD[j] → aD.take (j + 1) = bD.take (j + 1) := by
            intro e
            rw [List.take_succ_eq_append_getElem hlt, List.take_succ_eq_append_getElem hlt2, hpre.out, e]
          have hno : aD[j] ≠ bD[j] → aD ≠ bD := by
            intro e1 e2
            apply e1
            simp [e2]
          replace hnx := hid hnx
          replace hno := hid hno
          obtain ⟨off, rfl, y0, y1, y2, y3⟩ := fd_cells (r2.only0 hor.out) hlt
          obtain ⟨off2, rfl, z0, z1, z2, z3⟩ := fd_cells (r5.only0 hor.out) hlt2
          have hqt := neq_fd aD[j] bD[j]
          generalize aD[j] = s at *
          generalize bD[j] = t at *
          obtain ⟨s1, s2, s3, s4⟩ := s
          obtain ⟨t1, t2, t3, t4⟩ := t
          simp only [fdV] at hqt
          clear hpre
          by_cases hs : (s1, s2, s3, s4) = (t1, t2, t3, t4)
          · have hnx := hid (hnx.out hs)
            simp only [hs, decide_true, Bool.not_true] at hqt
            clear hs hno
            go_wp2_with fail
            go_region
            go_wp2
            exact ⟨⟨j + 1, by omega, by go_num, hnx, hid (hSA.out.only (Only.refl [] _).drew (by simp)), hid (hSB.out.only (Only.refl [] _).drew (by simp)), hid hor.out.drew⟩, by simp [intOf]; omega⟩
          · have hF : R = false := by
              rw [hR.out]
              simp [hno.out hs]
            subst hF
            simp only [hs, decide_false, Bool.not_false] at hqt
            clear hs hno hnx hR
            go_wp2_with fail
            go_region
            go_wp2
            go_ret
            exact ⟨rfl, hor.out.drew⟩
        · have g2 : ¬ ((j : Int) < (aD.length : Int)) := by omega
          have eaD : Hid (aD = bD) := by
            obtain rfl : j = aD.length := by omega
            have h0 := hpre.out
            rw [List.take_of_length_le (Nat.le_refl _), List.take_of_length_le (by rw [c5.out]; exact Nat.le_refl _)] at h0
            exact h0
          clear hpre
          have SA3 := hSA
          have SB3 := hSB
          have o4 := hor
          clear hSA hSB hor a0 a1 a2 a3 a4 a5 b0 b1 b2 b3 b4 b5
          obtain ⟨a0, a1, a2, a3, a4, a5, _, _, _, _, _, _⟩ := SA3.out
          obtain ⟨b0, b1, b2, b3, b4, b5, _, _, _, _, _, _⟩ := SB3.out
          go_wp2
          clear a0 a1 a2 a3 a4 a5 b0 b1 b2 b3 b4 b5
          go_loopw [7] (fun i wr => ∃ j : Nat, j ≤ aM.length ∧ i = .int .i64 (j : Int) ∧ Hid (aM.take j = bM.take j) ∧ Hid (Cl6 wr w.heap.size (.int .i64 af) (.string (str an)) (.string (str au)) (.slice fo aF.length fcap) (.slice do_ aD.length dcap) (.slice mo aM.length mcap)) ∧ Hid (Cl6 wr (w.heap.size + 1) (.int .i64 af) (.string (str an)) (.string (str au)) (.slice go bF.length gcap) (.slice eo bD.length ecap) (.slice no_ bM.length ncap)) ∧ Hid (Only [] w wr)) (fun i _ => aM.length - (intOf i).toNat)
          case atStart => exact ⟨0, by omega, rfl, hid (by simp), SA3, SB3, o4⟩
          case round =>
            obtain ⟨j, hj, rfl, hpre, hSA, hSB, hor⟩ := hrel
            clear SA3 SB3 o4
            obtain ⟨a0, a1, a2, a3, a4, a5, _, _, _, _, _, _⟩ := hSA.out
            obtain ⟨b0, b1, b2, b3, b4, b5, _, _, _, _, _, _⟩ := hSB.out
            by_cases hlt : j < aM.length
            · have g2 : ((j : Int) < (aM.length : Int)) := by omega
              have hlt2 : j < bM.length := by rw [← c6.out]; exact hlt
              have g3 : ((j : Int) < (bM.length : Int)) := by omega
              have hnx : aM[j] = bM[j] → aM.take (j + 1) = bM.take (j + 1) := by
                intro e
                rw [List.take_succ_eq_append_getElem hlt, List.take_succ_eq_append_getElem hlt2, hpre.out, e]
              have hno : aM[j] ≠ bM[j] → aM ≠ bM := by
                intro e1 e2
                apply e1
                simp [e2]
              replace hnx := hid hnx
              replace hno := hid hno
              obtain ⟨off, vp, vc, vh, rfl, hm1, y0, y1, y2, y3, y4, y5, y6, y7, y8, y9⟩ := me_cells (r3.only0 hor.out) hEA.out hlt
              obtain ⟨off2, up, uc, uh, rfl, hm2, z0, z1, z2, z3, z4, z5, z6, z7, z8, z9⟩ := me_cells (r6.only0 hor.out) hEB.out hlt2
              have HM := hid (rsame_method _ _ ((hm1.only0 hor.out).only0 (Only.refl [] _).drew) ((hm2.only0 hor.out).only0 (Only.refl [] _).drew))
              clear hm1 hm2
              unfold meV at HM
              generalize aM[j] = s at *
              generalize bM[j] = t at *
              clear hpre
              by_cases hs : s = t
              · have hnx := hid (hnx.out hs)
                have hd : decide (s = t) = true := by simp [hs]
                rw [hd] at HM
                clear hs hno hd
                go_wp2_with fail
                go_region_with (go_at_call 86; refine HM.out.mono ?_; rintro e w4 ⟨rfl, o4⟩)
                all_goals go_wp2
                all_goals exact ⟨⟨j + 1, by omega, by go_num, hnx, hid (hSA.out.only ((Only.refl [] _).drew.trans o4 (by simp)) (by simp)), hid (hSB.out.only ((Only.refl [] _).drew.trans o4 (by simp)) (by simp)), hid (hor.out.drew.trans o4 (by simp))⟩, by simp [intOf]; omega⟩
              · have hF : R = false := by
                  rw [hR.out]
                  simp [hno.out hs]
                subst hF
                have hd : decide (s = t) = false := by simp [hs]
                rw [hd] at HM
                clear hs hno hnx hR hd
                go_wp2_with fail
                go_region_with (go_at_call 86; refine HM.out.mono ?_; rintro e w4 ⟨rfl, o4⟩)
                all_goals go_wp2
                all_goals go_ret
                all_goals exact ⟨rfl, hor.out.drew.trans o4 (by simp)⟩
            · have g2 : ¬ ((j : Int) < (aM.length : Int)) := by omega
              have eaM : Hid (aM = bM) := by
                obtain rfl : j = aM.length := by omega
                have h0 := hpre.out
                rw [List.take_of_length_le (Nat.le_refl _), List.take_of_length_le (by rw [c6.out]; exact Nat.le_refl _)] at h0
                exact h0
              clear hpre
              have hT : R = true := by
                rw [hR.out]
                simp [eaF.out, eaD.out, eaM.out]
              subst hT
              clear hR
              go_wp2
              go_ret
              exact ⟨rfl, hor.out⟩

end Go.Proofs.YtildemmkhndhjaaGreatDoor
namespace Go.Proofs.YtildemmkhndhjaaGreatDoor
open Go.RowKit

theorem en_cells {w : World} {ao : Option Addr} {l : List En} {d : Nat} (h : RS w ao (ecs l) d) {j : Nat} (hj : j < l.length) :
    ∃ off, ao = some ⟨d, off, none⟩ ∧ w.cell? ⟨d, off + j * 6, none⟩ = some (.int .i64 l[j].1) ∧ w.cell? ⟨d, off + j * 6 + 1, none⟩ = some (.string (str l[j].2.1)) ∧ w.cell? ⟨d, off + j * 6 + 2, none⟩ = some (.int .i64 l[j].2.2.1) ∧ w.cell? ⟨d, off + j * 6 + 3, none⟩ = some (.int .i64 l[j].2.2.2.1) ∧ w.cell? ⟨d, off + j * 6 + 4, none⟩ = some (.int .i64 l[j].2.2.2.2.1) ∧ w.cell? ⟨d, off + j * 6 + 5, none⟩ = some (.int .i64 l[j].2.2.2.2.2) := by
  obtain ⟨g0, g1, g2, g3, g4, g5⟩ := ecs_get l j hj
  rcases h with h | ⟨off, ha, hc⟩
  · rw [h] at g0
    simp at g0
  · refine ⟨off, ha, ?_, ?_, ?_, ?_, ?_, ?_⟩
    · exact hc _ _ g0
    · rw [Nat.add_assoc]; exact hc _ _ g1
    · rw [Nat.add_assoc]; exact hc _ _ g2
    · rw [Nat.add_assoc]; exact hc _ _ g3
    · rw [Nat.add_assoc]; exact hc _ _ g4
    · rw [Nat.add_assoc]; exact hc _ _ g5

set_option maxHeartbeats 4000000 in
set_option maxRecDepth 100000 in
theorem rsame_module {w : World} {P Q : Nat → Prop} (a b : Mo) {vp vc up uc : Value} (hA : MoAt (SlR w P) vp vc a) (hB : MoAt (SlR w Q) up uc b) :
    Calls Tryz.prog 13 #[.agg #[vp, vc], .agg #[up, uc]] w fun e w' => e = .returned (.bool (decide (a = b))) ∧ Only [] w w' := by
  obtain ⟨aP, aC⟩ := a
  obtain ⟨bP, bC⟩ := b
  obtain ⟨hA1, acs, hA3, hEA⟩ := hA
  obtain ⟨hB1, bcs, hB3, hEB⟩ := hB
  obtain ⟨po, pcap, rfl, pl⟩ := SlV.shape hA1
  obtain ⟨co, ccap, rfl, hl⟩ := SlV.shape hA3
  obtain ⟨qo, qcap, rfl, ql⟩ := SlV.shape hB1
  obtain ⟨eo, ecap, rfl, gl⟩ := SlV.shape hB3
  obtain ⟨d1, r1⟩ := SlV.rs hA1
  obtain ⟨d3, r3⟩ := SlV.rs hA3
  obtain ⟨d4, r4⟩ := SlV.rs hB1
  obtain ⟨d6, r6⟩ := SlV.rs hB3
  clear hA1 hA3 hB1 hB3
  simp only at pl hl ql gl r1 r3 r4 r6 hEA hEB
  replace hEA := hid hEA
  replace hEB := hid hEB
  have o1 := ((Only.refl [] w).alloc (.cells #[.slice po aP.length pcap, .slice co aC.length ccap] 32)).alloc (.cells #[.slice qo bP.length qcap, .slice eo bC.length ecap] 32)
  have SA := hid ((mo2_new w (.slice po aP.length pcap) (.slice co aC.length ccap) 32).only ((Only.refl [] _).alloc (.cells #[.slice qo bP.length qcap, .slice eo bC.length ecap] 32)) (by simp))
  have SB := mo2_new (w.alloc (.cells #[.slice po aP.length pcap, .slice co aC.length ccap] 32)) (.slice qo bP.length qcap) (.slice eo bC.length ecap) 32
  rw [World.size_alloc] at SB
  replace SB := hid SB
  obtain ⟨R, hR⟩ : ∃ R, R = decide ((⟨aP, aC⟩ : Mo) = ⟨bP, bC⟩) := ⟨_, rfl⟩
  rw [← hR]
  replace hR := hid hR
  replace o1 := hid o1
  by_cases c1 : aP.length = bP.length
  case neg =>
    have hF : R = false := by
      rw [hR.out]
      simp [show ¬ (aP = bP) from fun e => c1 (by rw [e])]
    subst hF
    have n1 : ((aP.length : Int) != (bP.length : Int)) = true := by simpa using (by omega : ¬ ((aP.length : Int) = (bP.length : Int)))
    have m1 : ¬ ((aP.length : Int) = (bP.length : Int)) := by omega
    clear hR
    go_enter Tryz.func13, Tryz.ntmps13
    go_wp2
    go_ret
    exact ⟨rfl, o1.out⟩
  have n1 : ((aP.length : Int) != (bP.length : Int)) = false := by simp [c1]
  have m1 : ((aP.length : Int) == (bP.length : Int)) = true := by simp [c1]
  replace c1 := hid c1
  by_cases c2 : aC.length = bC.length
  case neg =>
    have hF : R = false := by
      rw [hR.out]
      simp [show ¬ (aC = bC) from fun e => c2 (by rw [e])]
    subst hF
    have n2 : ((aC.length : Int) != (bC.length : Int)) = true := by simpa using (by omega : ¬ ((aC.length : Int) = (bC.length : Int)))
    have m2 : ¬ ((aC.length : Int) = (bC.length : Int)) := by omega
    clear hR
    go_enter Tryz.func13, Tryz.ntmps13
    go_wp2
    go_ret
    exact ⟨rfl, o1.out⟩
  have n2 : ((aC.length : Int) != (bC.length : Int)) = false := by simp [c2]
  have m2 : ((aC.length : Int) == (bC.length : Int)) = true := by simp [c2]
  replace c2 := hid c2
  go_enter Tryz.func13, Tryz.ntmps13
  go_wp2
  go_loopw [5] (fun i wr => ∃ j : Nat, j ≤ aP.length ∧ i = .int .i64 (j : Int) ∧ Hid (aP.take j = bP.take j) ∧ Hid (Mo2 wr w.heap.size (.slice po aP.length pcap) (.slice co aC.length ccap)) ∧ Hid (Mo2 wr (w.heap.size + 1) (.slice qo bP.length qcap) (.slice eo bC.length ecap)) ∧ Hid (Only [] w wr)) (fun i _ => aP.length - (intOf i).toNat)
  case atStart => exact ⟨0, by omega, rfl, hid (by simp), SA, SB, o1⟩
  case round =>
    obtain ⟨j, hj, rfl, hpre, hSA, hSB, hor⟩ := hrel
    clear SA SB o1
    obtain ⟨a0, a1, _, _⟩ := hSA.out
    obtain ⟨b0, b1, _, _⟩ := hSB.out
    by_cases hlt : j < aP.length
    · have g2 : ((j : Int) < (aP.length : Int)) := by omega
      have hlt2 : j < bP.length := by rw [← c1.out]; exact hlt
      have g3 : ((j : Int) < (bP.length : Int)) := by omega
      have hnx : aP[j] = bP[j] → aP.take (j + 1) = bP.take (j + 1) := by
        intro e
        rw [List.take_succ_eq_append_getElem hlt, List.take_succ_eq_append_getElem hlt2, hpre.out, e]
      have hno : aP[j] ≠ bP[j] → aP ≠ bP := by
        intro e1 e2
        apply e1
        simp [e2]
      replace hnx := hid hnx
      replace hno := hid hno
      obtain ⟨off, rfl, y0, y1, y2, y3, y4, y5⟩ := en_cells (r1.only0 hor.out) hlt
      obtain ⟨off2, rfl, z0, z1, z2, z3, z4, z5⟩ := en_cells (r4.only0 hor.out) hlt2
      have hqt := neq_entry aP[j] bP[j]
      generalize aP[j] = s at *
      generalize bP[j] = t at *
      obtain ⟨s1, s2, s3, s4, s5, s6⟩ := s
      obtain ⟨t1, t2, t3, t4, t5, t6⟩ := t
      simp only [enV] at hqt
      clear hpre
      by_cases hs : (s1, s2, s3, s4, s5, s6) = (t1, t2, t3, t4, t5, t6)
      · have hnx := hid (hnx.out hs)
        simp only [hs, decide_true, Bool.not_true] at hqt
        clear hs hno
        go_wp2_with fail
        go_region
        go_wp2
        exact ⟨⟨j + 1, by omega, by go_num, hnx, hid (hSA.out.only (Only.refl [] _).drew (by simp)), hid (hSB.out.only (Only.refl [] _).drew (by simp)), hid hor.out.drew⟩, by simp [intOf]; omega⟩
      · have hF : R = false := by
          rw [hR.out]
          simp [hno.out hs]
        subst hF
        simp only [hs, decide_false, Bool.not_false] at hqt
        clear hs hno hnx hR
        go_wp2_with fail
        go_region
        go_wp2
        go_ret
        exact ⟨rfl, hor.out.drew⟩
    · have g2 : ¬ ((j : Int) < (aP.length : Int)) := by omega
      have eaP : Hid (aP = bP) := by
        obtain rfl : j = aP.length := by omega
        have h0 := hpre.out
        rw [List.take_of_length_le (Nat.le_refl _), List.take_of_length_le (by rw [c1.out]; exact Nat.le_refl _)] at h0
        exact h0
      clear hpre
      have SA2 := hSA
      have SB2 := hSB
      have o3 := hor
      clear hSA hSB hor a0 a1 b0 b1
      obtain ⟨a0, a1, _, _⟩ := SA2.out
      obtain ⟨b0, b1, _, _⟩ := SB2.out
      go_wp2
      clear a0 a1 b0 b1
      go_loopw [6] (fun i wr => ∃ j : Nat, j ≤ aC.length ∧ i = .int .i64 (j : Int) ∧ Hid (aC.take j = bC.take j) ∧ Hid (Mo2 wr w.heap.size (.slice po aP.length pcap) (.slice co aC.length ccap)) ∧ Hid (Mo2 wr (w.heap.size + 1) (.slice qo bP.length qcap) (.slice eo bC.length ecap)) ∧ Hid (Only [] w wr)) (fun i _ => aC.length - (intOf i).toNat)
      case atStart => exact ⟨0, by omega, rfl, hid (by simp), SA2, SB2, o3⟩
      case round =>
        obtain ⟨j, hj, rfl, hpre, hSA, hSB, hor⟩ := hrel
        clear SA2 SB2 o3
        obtain ⟨a0, a1, _, _⟩ := hSA.out
        obtain ⟨b0, b1, _, _⟩ := hSB.out
        by_cases hlt : j < aC.length
        · have g2 : ((j : Int) < (aC.length : Int)) := by omega
          have hlt2 : j < bC.length := by rw [← c2.out]; exact hlt
          have g3 : ((j : Int) < (bC.length : Int)) := by omega
          have hnx : aC[j] = bC[j] → aC.take (j + 1) = bC.take (j + 1) := by
            intro e
            rw [List.take_succ_eq_append_getElem hlt, List.take_succ_eq_append_getElem hlt2, hpre.out, e]
          have hno : aC[j] ≠ bC[j] → aC ≠ bC := by
            intro e1 e2
            apply e1
            simp [e2]
          replace hnx := hid hnx
          replace hno := hid hno
          obtain ⟨off, vf, vd, vm, rfl, hm1, y0, y1, y2, y3, y4, y5⟩ := cl_cells (r3.only0 hor.out) hEA.out hlt
          obtain ⟨off2, uf, ud, um, rfl, hm2, z0, z1, z2, z3, z4, z5⟩ := cl_cells (r6.only0 hor.out) hEB.out hlt2
          have HM := hid (rsame_class _ _ ((hm1.only0 hor.out).only0 (Only.refl [] _).drew) ((hm2.only0 hor.out).only0 (Only.refl [] _).drew))
          clear hm1 hm2
          unfold clV at HM
          generalize aC[j] = s at *
          generalize bC[j] = t at *
          clear hpre
          by_cases hs : s = t
          · have hnx := hid (hnx.out hs)
            have hd : decide (s = t) = true := by simp [hs]
            rw [hd] at HM
            clear hs hno hd
            go_wp2_with fail
            go_region_with (go_at_call 34; refine HM.out.mono ?_; rintro e w4 ⟨rfl, o4⟩)
            all_goals go_wp2
            all_goals exact ⟨⟨j + 1, by omega, by go_num, hnx, hid (hSA.out.only ((Only.refl [] _).drew.trans o4 (by simp)) (by simp)), hid (hSB.out.only ((Only.refl [] _).drew.trans o4 (by simp)) (by simp)), hid (hor.out.drew.trans o4 (by simp))⟩, by simp [intOf]; omega⟩
          · have hF : R = false := by
              rw [hR.out]
              simp [hno.out hs]
            subst hF
            have hd : decide (s = t) = false := by simp [hs]
            rw [hd] at HM
            clear hs hno hnx hR hd
            go_wp2_with fail
            go_region_with (go_at_call 34; refine HM.out.mono ?_; rintro e w4 ⟨rfl, o4⟩)
            all_goals go_wp2
            all_goals go_ret
            all_goals exact ⟨rfl, hor.out.drew.trans o4 (by simp)⟩
        · have g2 : ¬ ((j : Int) < (aC.length : Int)) := by omega
          have eaC : Hid (aC = bC) := by
            obtain rfl : j = aC.length := by omega
            have h0 := hpre.out
            rw [List.take_of_length_le (Nat.le_refl _), List.take_of_length_le (by rw [c2.out]; exact Nat.le_refl _)] at h0
            exact h0
          clear hpre
          have hT : R = true := by
            rw [hR.out]
            simp [eaP.out, eaC.out]
          subst hT
          clear hR
          go_wp2
          go_ret
          exact ⟨rfl, hor.out⟩

end Go.Proofs.YtildemmkhndhjaaGreatDoor
namespace Go.Proofs.YtildemmkhndhjaaGreatDoor
open Go.RowKit

set_option maxHeartbeats 4000000 in
set_option maxRecDepth 100000 in
theorem limits_0 {w : World} (hg : Ety w) (kind n : Int) (hK : kind % 5 = 0) : Calls Tryz.prog 3 #[.int .i64 kind, .int .i64 n] w fun e w' => e = .returned (.bool true) ∧ Only [] w w' := by
  have HK := hid (known5 hg)
  go_enter Tryz.func3, Tryz.ntmps3
  go_wp2_with fail
  refine HK.out.mono ?_
  rintro e w1 ⟨rfl, o1⟩
  clear HK
  obtain ⟨N, hN, hNl⟩ : ∃ N : Nat, n % 70 = (N : Int) ∧ N < 70 := ⟨(n % 70).toNat, by omega, by omega⟩
  have H1 := within_any kind 5 (by omega) w1
  have H2 := within_any n 70 (by omega) w1
  rw [hK] at H1
  rw [hN] at H2
  clear hK hN
  replace H1 := hid H1
  replace H2 := hid H2
  go_wp2_with fail
  refine H1.out.mono ?_
  rintro e w2 ⟨rfl, rfl⟩
  go_wp2_with fail
  refine H2.out.mono ?_
  rintro e w2 ⟨rfl, rfl⟩
  clear H1 H2
  go_wp2_with fail
  obtain ⟨hI, hWs⟩ := limI_new o1
  have eW : (((w2.alloc (.cells #[.int .i64 0, .string ⟨#[65]⟩, .string ⟨#[79, 98, 106, 101, 99, 116]⟩, .slice none 0 0, .slice none 0 0, .slice none 0 0] 28)).alloc (.cells #[.slice none 0 0, .slice none 0 0] 32)).alloc (.cells #[.int .u8 42] 5)).alloc (.cells #[.int .i64 4, .string ⟨#[102]⟩, .slice none 0 0, .bool true, .int .i64 0, .string ⟨#[]⟩, .int .i64 1, .int .i64 0, .slice (some ⟨w2.heap.size + 1 + 1, 0, none⟩) 1 1, .slice none 0 0] 41) = limW w2 := rfl
  rw [eW]
  generalize limW w2 = W at *
  clear eW
  obtain ⟨cb, hcb⟩ : ∃ cb, cb = w2.heap.size := ⟨_, rfl⟩
  rw [← hcb] at hI hWs ⊢
  obtain ⟨mb, hmb⟩ : ∃ mb, mb = cb + 1 := ⟨_, rfl⟩
  rw [← hmb] at hI hWs ⊢
  obtain ⟨db, hdb⟩ : ∃ db, db = mb + 1 := ⟨_, rfl⟩
  rw [← hdb] at hI hWs ⊢
  obtain ⟨fb, hfb⟩ : ∃ fb, fb = db + 1 := ⟨_, rfl⟩
  rw [← hfb] at hI hWs ⊢
  clear hcb hmb hdb hfb o1
  replace hI := hid hI
  have hBf : fb < W.heap.size := by omega
  obtain ⟨B, hB⟩ : ∃ B, B = W.heap.size := ⟨_, rfl⟩
  rw [← hB] at hBf
  have hBW : Hid (B ≤ W.heap.size) := by unfold Hid; omega
  clear hWs hB
  go_loopw [7, 9] (fun most i wr => ∃ j : Nat, j ≤ N ∧ i = .int .i64 (j : Int) ∧ most = .int .i64 (mostJ 64 64 j : Int) ∧ ∃ ao cap, Hid (LimI w wr cb mb db fb (.slice none 0 0) (.slice none 0 0) (.slice none 0 0) (.slice ao j cap) ⟨#[102]⟩ (.slice none 0 0)) ∧ Hid (wr.ownsRow B 28 6 (.slice ao j cap) j (clz ((List.range j).map clN))) ∧ Hid (B ≤ wr.heap.size)) (fun _ i _ => N - (intOf i).toNat)
  case atStart => exact ⟨0, by omega, rfl, rfl, none, 0, hI, hid (World.ownsRow_nil _ _ _ _), hBW⟩
  case round =>
    obtain ⟨j, hj, rfl, rfl, ao, cap, hJ, hown, hBr⟩ := hrel
    clear hI hBW
    by_cases hlt : j < N
    · have g2 : ((j : Int) < (N : Int)) := by omega
      obtain ⟨c0, c1, z0, z1⟩ := hJ.out.m
      go_wp2_with fail
      go_region_law (first
        | (go_simp; go_at_call 8; refine (lname_any j (by omega) _).mono ?_; rintro e w3 ⟨rfl, ho3⟩; have o3 : Only [] wr w3 := (Only.refl [] wr).drew.trans ho3 (by simp); have hown3 := rows_only hown.out o3 (by simp); have hB3 := Nat.le_trans hBr.out o3.size; obtain ⟨d0, d1, y0, y1⟩ := hJ.out.m.only o3 (by simp); have d' := fun o => cell_alloc o d1; dsimp only)
        | (refine step_append_any (ys := clz [clN j]) rfl (.tmp 35) (.tmp 39) elCl Tryz.underlying30 rfl rfl rfl (rows_only hown3 ((Only.refl [] w3).alloc (.cells #[.int .i64 0, .string (str (nmL j)), .string ⟨#[79, 98, 106, 101, 99, 116]⟩, .slice none 0 0, .slice none 0 0, .slice none 0 0] 28)) (by simp)) (RS.fresh w3 #[.int .i64 0, .string (str (nmL j)), .string ⟨#[79, 98, 106, 101, 99, 116]⟩, .slice none 0 0, .slice none 0 0, .slice none 0 0] 28) rfl (by simp [clz, clC, clN, Value.oneCell']) (by simp) (by omega) (by simp; omega) ?_; intro ao4 cap4 w4 hA4; have hJ4 := hid (hJ.out.grow o3 hown3 hA4 hBf); obtain ⟨k0, k1, x0, x1⟩ := hJ4.out.m))
      all_goals
        have hown4 : Hid ((w4.setCell ⟨mb, 1, none⟩ (.slice ao4 (j + 1) cap4)).ownsRow B 28 6 (.slice ao4 (j + 1) cap4) (j + 1) (clz ((List.range (j + 1)).map clN))) := by
          unfold Hid
          rw [range_map_succ, show clz ((List.range j).map clN ++ [clN j]) = clz ((List.range j).map clN) ++ clz [clN j] by simp [clz]]
          exact rows_set hA4.own (by have := hJ.out.h; omega)
        have hJ5 := hid (hJ4.out.putC (.slice ao4 (j + 1) cap4))
        have hB5 : Hid (B ≤ (w4.setCell ⟨mb, 1, none⟩ (.slice ao4 (j + 1) cap4)).heap.size) := by
          have g1 := hA4.only.size
          unfold Hid
          simp at g1 ⊢
          omega
        clear hA4 hJ4
        go_wp2
        exact ⟨⟨j + 1, by omega, by go_num, by simp [mostJ], ao4, cap4, hJ5, hown4, hB5⟩, by simp [intOf]; omega⟩
    · have g2 : ¬ ((j : Int) < (N : Int)) := by omega
      obtain rfl : j = N := by omega
      obtain ⟨ao5, rfl⟩ : ∃ ao5, ao5 = ao := ⟨_, rfl⟩
      obtain ⟨cap5, rfl⟩ : ∃ cap5, cap5 = cap := ⟨_, rfl⟩
      have hL := hJ
      have hMo : Hid (MoAt (SlR wr fun _ => True) (.slice none 0 0) (.slice ao5 j cap5) ⟨[], (List.range j).map clN⟩) := ⟨SlV.nil _ _, clz ((List.range j).map clN), by simpa using own_slr hown.out, els_clz wr (List.range j)⟩
      replace hMo : Hid (MoAt (SlR _ fun _ => True) (.slice none 0 0) (.slice ao5 j cap5) (modK 0 j)) := hMo
      have hgw := hid (hg.only0 hL.out.o)
      have HC := hid (mcheck_any hgw.out (P := fun _ => True) (modK 0 j) (fit_k 0 j) hMo.out)
      obtain ⟨m0, m1, _, _⟩ := hL.out.m
      go_wp2_with fail
      refine HC.out.mono ?_
      rintro e w7 ⟨v1, rfl, hev1, ho7⟩
      clear HC m0 m1
      have hL7 := hid (hL.out.only ho7 (by simp))
      have hMo7 := hid (hMo.out.only0 ho7)
      have hg7 := hid (hgw.out.only0 ho7)
      have HW := hid (mwrite_any hg7.out (P := fun _ => True) (modK 0 j) (fit_k 0 j) (by rw [pool_nil]; simp) hMo7.out)
      clear hL hMo hgw
      obtain ⟨m0, m1, _, _⟩ := hL7.out.m
      by_cases hm : mostK 0 j < j
      · obtain ⟨e1, e2⟩ := lim_many 0 j (by omega) hNl hm
        rw [e1] at hev1
        rw [e2] at HW
        obtain ⟨p1, rfl, hb1⟩ : ∃ p, v1 = badV p ∧ BadAt w7 p (0, 0, 0, 4) := by
          rcases hev1.cases_nil with ⟨h, _⟩ | ⟨_, p, h1, _, h2⟩
          · exact absurd h (by decide)
          · exact ⟨p, h1, h2⟩
        clear hev1 e1 e2
        have gm : ((mostJ 64 64 j : Nat) : Int) < (j : Int) := by
          have : mostJ 64 64 j = mostK 0 j := by unfold mostJ mostK; split <;> simp
          rw [this]
          omega
        go_wp2_with fail
        refine HW.out.mono ?_
        rintro e w8 ⟨bo, bcap, v2, rfl, hown8, hev2, ho8⟩
        obtain ⟨p2, rfl, hb2⟩ : ∃ p, v2 = badV p ∧ BadAt w8 p (0, 0, 0, 4) := by
          rcases hev2.cases_nil with ⟨h, _⟩ | ⟨_, p, h1, _, h2⟩
          · exact absurd h (by decide)
          · exact ⟨p, h1, h2⟩
        clear hev2 HW hown8 m0 m1
        have hg8 := hid (hg7.out.only0 ho8)
        have HX := hid (wrongly4 hg8.out (hb1.only ho8 (by simp)))
        replace hb2 := hid hb2
        have o8 := hid (hL7.out.o.trans ho8 (by simp))
        clear hb1 ho8
        go_wp2_with fail
        refine HX.out.mono ?_
        rintro e w9 ⟨rfl, ho9⟩
        have HY := hid (wrongly4 (hg8.out.only0 ho9) (hb2.out.only ho9 (by simp)))
        clear HX
        go_wp2_with fail
        refine HY.out.mono ?_
        rintro e w10 ⟨rfl, ho10⟩
        go_wp2_with fail
        go_ret
        exact ⟨rfl, (o8.out.trans ho9 (by simp)).trans ho10 (by simp)⟩
      · obtain ⟨e1, e2, e3⟩ := lim_right 0 j (by omega) hNl hm
        have hlen := len_all 0 j (by omega) hNl
        rw [e1] at hev1
        rw [e2] at HW
        simp only at HW
        obtain rfl : v1 = .nilIface := by
          rcases hev1.cases_nil with ⟨_, h⟩ | ⟨h, _⟩
          · exact h
          · exact absurd rfl h
        clear hev1 e1 e2
        have gm : ¬ ((mostJ 64 64 j : Nat) : Int) < (j : Int) := by
          have : mostJ 64 64 j = mostK 0 j := by unfold mostJ mostK; split <;> simp
          rw [this]
          omega
        go_wp2_with fail
        refine HW.out.mono ?_
        rintro e w8 ⟨bo, bcap, v2, rfl, hown8, hev2, ho8⟩
        obtain rfl : v2 = .nilIface := by
          rcases hev2.cases_nil with ⟨_, h⟩ | ⟨h, _⟩
          · exact h
          · exact absurd rfl h
        clear hev2 HW m0 m1
        have hg8 := hid (hg7.out.only0 ho8)
        have hL8 := hid (hL7.out.only ho8 (by simp))
        have hMo8 := hid (hMo7.out.only0 ho8)
        clear hL7 hMo7 hg7
        obtain ⟨q1, _, _, q4, _⟩ := RS.of_owns hown8
        have HR := mread_any hg8.out (cap := bcap) (bs_of_rs q1) q4 (by omega)
        rw [e3] at HR
        replace HR := hid HR
        clear e3 q1 q4 hown8
        go_wp2_with fail
        refine HR.out.mono ?_
        rintro e w9 ⟨vp, vc, v3, rfl, hev3, _, _, hA, ho9⟩
        obtain rfl : v3 = .nilIface := by
          rcases hev3.cases_nil with ⟨_, h⟩ | ⟨h, _⟩
          · exact h
          · exact absurd rfl h
        clear hev3 HR
        obtain ⟨po, pc, rfl⟩ := rows_slice hA.pool.1
        obtain ⟨ccs0, ⟨hc1, _⟩, _⟩ := hA.classes
        obtain ⟨co, cc, rfl⟩ := rows_slice hc1
        clear hc1
        have qx := (Only.refl [] w9).alloc (.cells #[.slice po (modK 0 j).pool.length pc, .slice co (modK 0 j).classes.length cc] 32)
        have X9 := mo2_new w9 (.slice po (modK 0 j).pool.length pc) (.slice co (modK 0 j).classes.length cc) 32
        have hL9 := hid (hL8.out.only (ho9.trans qx (by simp)) (by simp))
        have HS := rsame_module _ _ ((hA.imp fun _ _ _ _ _ g => owr_slice g).only0 qx) (hMo8.out.only0 (ho9.trans qx (by simp)))
        rw [decide_eq_true rfl] at HS
        replace HS := hid HS
        obtain ⟨x0, x1, _, _⟩ := X9
        obtain ⟨m0, m1, _, _⟩ := hL9.out.m
        clear hA hL8 hMo8
        go_wp2_with fail
        refine HS.out.mono ?_
        rintro e w10 ⟨rfl, ho10⟩
        go_wp2_with fail
        go_ret
        exact ⟨rfl, hL9.out.o.trans ho10 (by simp)⟩

end Go.Proofs.YtildemmkhndhjaaGreatDoor
