/-
  The walk of ArenaFresh. No conditions beyond the arguments' own shape.
-/
import Derived.Test.YtkaklabcfhefaaaAFreshP
namespace Go.Proofs.Ytkaklabcfhefaaa
open Go.RowKit

set_option linter.unusedSimpArgs false

theorem few_st {W : World} {N : Nat → Prop} {a : Nat} {s : St} (h : Ar W N a s.sw) : s.l.length ≤ 65536 ∧ 8 * (flW s.l).length ≤ 1048576 := by
  have h1 := few_obs s.l
  have h2 : 8 * (flW s.l).length ≤ s.m := h.ok.fit
  have h3 : s.m ≤ 1048576 := h.ok.m1
  exact ⟨by omega, by omega⟩

set_option maxRecDepth 20000 in
set_option maxHeartbeats 16000000 in
theorem fresh_any {w : World} (x : Int) (_hx : i64 x) {ao : Option Addr} {L : List Cl} {cap d : Nat} (hL : ClS w ao L d) (hl : L.length ≤ 9223372036854775807) (z : Int) (hz : i64 z) :
    Calls Try.prog 5 #[.int .i64 x, .slice ao L.length cap, .int .i64 z] w fun e w' => e = .returned (.bool true) ∧ Only [] w w' := by
  have hdL : L ≠ [] → d < w.heap.size := fun hn => hL.rs.lt (fun e => hn (List.eq_nil_of_length_eq_zero (by have := congrArg List.length e; rw [clz_length] at this; simp only [List.length_nil] at this; omega)))
  have hKn := hid (known15 w)
  have hMd := hid (fun W (ho : Only [] w W) => made_any (N := fun b => b < w.heap.size) (fun b hb => Nat.lt_of_lt_of_le hb ho.size) x (cap := cap) (hL.kep (Kep.of0 (N := fun b => b < w.heap.size) ho) hdL) hdL hl)
  obtain ⟨S, hS⟩ : ∃ S, S = madeTo (256 + (x % 8000).toNat) L (min 60 L.length) := ⟨_, rfl⟩
  have hZ : allZ S.l := by rw [hS]; exact allZ_made _ _ _
  rw [← hS] at hMd
  clear hS
  replace hZ := hid hZ
  obtain ⟨N, hN⟩ : ∃ N : Nat → Prop, N = fun b => b < w.heap.size := ⟨_, rfl⟩
  have hNd : L ≠ [] → N d := by rw [hN]; exact hdL
  rw [← hN] at hMd
  replace hN := hid hN
  have hW := hid within_at
  go_enter Try.func5, Try.ntmps5
  go_wp2_with (first
    | (go_at_call 9; refine hKn.out.mono ?_; rintro e w1 ⟨rfl, ho1⟩; replace ho1 := hid ho1)
    | (go_at_call 22; refine (hMd.out _ ho1.out).mono ?_; rintro e w2 ⟨rfl, A1, K1⟩; replace A1 := hid A1; replace K1 := hid ((Kep.of0 ho1.out).trans K1)))
  clear hMd hKn
  generalize w1.heap.size = a at *
  clear ho1
  go_loopw [8] (fun i wr => ∃ t : Nat, t ≤ 3 ∧ i = .int .i64 (t : Int) ∧ ∃ T : St, Hid (allZ T.l) ∧ Hid (Ar wr N a T.sw) ∧ Hid (Kep N w wr)) (fun i _ => 3 - (intOf i).toNat)
  case atStart => exact ⟨0, by omega, rfl, S, hZ, A1, K1⟩
  case round =>
    obtain ⟨t, ht, rfl, T, hT, hA, hK⟩ := hrel
    clear A1 K1 hZ
    by_cases hlt : t < 3
    · have i1 : (t : Int) < 3 := by omega
      have hAll := hid (All_ar hA.out)
      obtain ⟨hlen, hfew⟩ := few_st hA.out
      go_wp2_with (go_at_call 23; refine hAll.out.mono ?_; rintro e w3 ⟨bo, bc, bd, M, rfl, hR, hMb, hNM, A3, o3, _⟩; replace hR := hid hR; replace A3 := hid A3; replace K3 := hid (hK.out.trans (.of0 o3)); replace hNM := hid hNM)
      clear hAll hA hK
      go_loopw [10] (fun i wr => ∃ q : Nat, q ≤ T.l.length ∧ i = .int .i64 (q : Int) ∧ ∃ P : St, Hid (FrI T.l P.l q 0) ∧ Hid (Ar wr M a P.sw) ∧ Hid (Kep M w3 wr)) (fun i _ => T.l.length - (intOf i).toNat)
      case atStart => exact ⟨0, by omega, rfl, T, hid (FrI.start hT.out), A3, hid (Kep.refl _ _)⟩
      case round =>
        obtain ⟨q, hq, rfl, P, hF, hA, hK⟩ := hrel
        clear A3
        by_cases hq2 : q < T.l.length
        · have i2 : (q : Int) < (T.l.length : Int) := by omega
          have hne : T.l ≠ [] := fun e => by rw [e] at hq2; simp at hq2
          have hql : q < (adrP T.l).length := by rw [adrP_length]; exact hq2
          have hqP : q < P.l.length := by have := lens_length hF.out.len; omega
          obtain ⟨off, rfl, hc⟩ := (hR.out.kep hK.out (fun _ => hMb hne)).at (j := q) (by rw [ics_length]; omega)
          have c1 := hc q _ (ics_get _ q hql)
          rw [adrP_get] at c1
          clear hc
          have hend := ofs_end T.l q hq2
          have hX : i64 (8 * (ofs T.l q : Int) + 8) := ⟨by omega, by omega⟩
          have hnn := lens_at hF.out.len q hqP hq2
          have hs0 := hF.out.slots hqP
          rw [hnn] at hs0
          have hSl0 := fun n => Slots_any (l := P.l) (hA.out.only0 (only_drewN wr n)).used (8 * (ofs T.l q : Int) + 8) hX
          simp only [hs0] at hSl0
          have hSl := hid hSl0
          clear hSl0 hs0
          have hnb : (T.l[q].2.length : Int) ≤ 1048576 := by omega
          have hofs : 8 * (ofs T.l q : Int) ≤ 1048576 := by omega
          replace hend := hid hend
          go_wp2
          go_quiet (first | (go_at_call 24; exact Calls.quiet_of (hSl.out _)) | fail)
          go_wp2
          go_loopw [13] (fun i wr => ∃ k : Nat, k ≤ T.l[q].2.length ∧ i = .int .i64 (k : Int) ∧ ∃ P2 : St, Hid (FrI T.l P2.l q k) ∧ Hid (Ar wr M a P2.sw) ∧ Hid (Kep M w3 wr)) (fun i _ => T.l[q].2.length - (intOf i).toNat)
          case atStart => exact ⟨0, by omega, rfl, P, hF, hid (hA.out.only0 (only_drewN _ _)), hid (hK.out.trans (.of0 (only_drewN _ _)))⟩
          case round =>
            obtain ⟨k, hk, rfl, P2, hF2, hA2, hK2⟩ := hrel
            clear hSl c1
            by_cases hk2 : k < T.l[q].2.length
            · have i3 : (k : Int) < (T.l[q].2.length : Int) := by omega
              have hqP2 : q < P2.l.length := by have := lens_length hF2.out.len; omega
              have hnn2 := lens_at hF2.out.len q hqP2 hq2
              obtain ⟨off2, hoff2, hc⟩ := (hR.out.kep hK2.out (fun _ => hMb hne)).at (j := q) (by rw [ics_length]; omega)
              obtain rfl : off = off2 := by simpa using hoff2
              have c1 := hc q _ (ics_get _ q hql)
              rw [adrP_get] at c1
              clear hc hoff2
              have hg0 := hF2.out.get hqP2 (show k < P2.l[q].2.length by omega)
              have hp0 := hF2.out.putS hqP2 (show k < P2.l[q].2.length by omega) (-1)
              have hG0 := fun n => Get_any (l := P2.l) (hA2.out.only0 (only_drewN wr n)).used (8 * (ofs T.l q : Int) + 8) (k : Int) hX ⟨by omega, by omega⟩
              simp only [hg0] at hG0
              have hG := hid hG0
              have hP0 := fun W (ho : Only [] wr W) => (Put_any (hA2.out.only0 ho) (8 * (ofs T.l q : Int) + 8) (k : Int) (-1) hX ⟨by omega, by omega⟩ ⟨by decide, by decide⟩)
              simp only [hp0] at hP0
              have hPp := hid (fun W (ho : Only [] wr W) => (hP0 W ho).mono (R' := fun e w' => e = .returned (.int .i64 0) ∧ Ar w' M a (St.sw { P2 with l := P2.l.set q (P2.l[q].1, P2.l[q].2.set k (-1)) }) ∧ Kep M wr w') (fun e w' ⟨z1, z2, z3⟩ => ⟨z1, z2, (Kep.of0 ho).trans z3⟩))
              have hF3 := hid (hF2.out.put hqP2 (-1))
              clear hG0 hP0 hg0 hp0 hnn2
              generalize hU : ({ P2 with l := P2.l.set q (P2.l[q].1, P2.l[q].2.set k (-1)) } : St) = U at *
              have hF4 : Hid (FrI T.l U.l q (k + 1)) := by rw [← hU]; exact hF3
              clear hF3 hU
              generalize ofs T.l q = p at *
              generalize T.l[q].2.length = nn at *
              go_wp2
              go_quiet (first | (go_at_call 25; exact Calls.quiet_of (hG.out _)) | fail)
              go_wp2
              go_region_with (go_at_call 26; with_reducible refine (hPp.out _ (by repeat (first | with_reducible exact Only.refl _ _ | with_reducible refine Only.drew ?_ | with_reducible refine onlyN ?_ _))).mono ?_; rintro e w6 ⟨rfl, A6, K6⟩; replace A6 := hid A6; replace K6 := hid K6)
              all_goals
                go_wp2
                exact ⟨⟨k + 1, hk2, by go_num, U, hF4, A6, hid (hK2.out.trans K6.out)⟩, by simp [intOf]; omega⟩
            · have hkk : k = T.l[q].2.length := by omega
              have i3 : ¬ (k : Int) < (T.l[q].2.length : Int) := by omega
              clear hkk hk hk2
              generalize T.l[q].2.length = nn at *
              go_wp2
              exact ⟨⟨q + 1, hq2, by go_num, P2, hid hF2.out.next, hA2, hK2⟩, by simp [intOf]; omega⟩
        · have hqq : q = T.l.length := by omega
          have i2 : ¬ (q : Int) < (T.l.length : Int) := by omega
          have hFl := hid (flip_at hA.out)
          clear hq2 hq hR
          go_wp2_with (go_at_call 27; refine hFl.out.mono ?_; rintro e w6 ⟨rfl, A6, K6⟩; replace A6 := hid A6; replace K6 := hid (hK.out.trans K6))
          clear hFl hA hK
          go_loopw [16] (fun i wr => ∃ j : Nat, j ≤ min 60 L.length ∧ i = .int .i64 (j : Int) ∧ ∃ U : St, Hid (allZ U.l) ∧ Hid (Ar wr M a U.sw) ∧ Hid (Kep M w3 wr)) (fun i _ => 60 - (intOf i).toNat)
          case atStart => exact ⟨0, Nat.zero_le _, rfl, _, hid (fun o ho => by cases ho), A6, K6⟩
          case round =>
            obtain ⟨j, hj, rfl, U, hU, hA, hK⟩ := hrel
            clear A6 K6
            by_cases hlj : j < L.length ∧ j < 60
            · obtain ⟨h1, h2⟩ := hlj
              obtain ⟨off, rfl, _, _, c2, _, _⟩ := (hL.kep ((K3.out.trans (hK.out.mono hNM.out))) hNd).at h1
              obtain ⟨_, _, q2, _, _⟩ := hL.all _ (List.getElem_mem h1)
              have b0 : 0 ≤ L[j].2.2.1 % 20 := Int.emod_nonneg _ (by decide)
              have b1 : L[j].2.2.1 % 20 < 20 := Int.emod_lt_of_pos _ (by decide)
              have i3 : (j : Int) < (L.length : Int) := by omega
              have i4 : (j : Int) < 60 := by omega
              rw [Nat.mul_comm 5 j] at c2
              have hZ := hid (allZ_make hU.out z (L[j].2.2.1 % 20))
              have hM := hid (fun W (ho : Only [] wr W) => (Make_any (hA.out.only0 ho) z (L[j].2.2.1 % 20) hz ⟨by omega, by omega⟩).mono (R' := fun e w' => e = .returned (.tuple #[.int .i64 (makeS U z (L[j].2.2.1 % 20)).2.1, .int .i64 (makeS U z (L[j].2.2.1 % 20)).2.2]) ∧ Ar w' M a (makeS U z (L[j].2.2.1 % 20)).1.sw ∧ Kep M wr w') (fun e w' ⟨z1, z2, z3⟩ => ⟨z1, z2, (Kep.of0 ho).trans z3⟩))
              have hWj := hid (fun W => hW.out L[j].2.2.1 20 ⟨by decide, by decide⟩ W)
              clear q2 b0 b1
              generalize L[j].2.2.1 % 20 = n at *
              generalize L[j].2.2.1 = mm at *
              generalize hE : makeS U z n = E at *
              replace hE := hid hE
              go_wp2
              go_region_with (first
                | (go_at_call 18; with_reducible refine (hWj.out _).mono ?_; rintro e w7 ⟨rfl, rfl⟩)
                | (go_at_call 19; with_reducible refine (hM.out _ (by repeat (first | with_reducible exact Only.refl _ _ | with_reducible refine Only.drew ?_ | with_reducible refine onlyN ?_ _))).mono ?_; rintro e w8 ⟨rfl, hA4, hK4⟩; replace hA4 := hid hA4; replace hK4 := hid hK4))
              all_goals
                go_wp2
                exact ⟨⟨j + 1, by omega, by go_num, E.1, hZ, hA4, hid (hK.out.trans hK4.out)⟩, by simp [intOf]; omega⟩
            · have fin : Ar wr N a U.sw ∧ Kep N w wr := ⟨hA.out.mono hNM.out, K3.out.trans (hK.out.mono hNM.out)⟩
              replace fin := hid fin
              by_cases h1 : j < L.length
              · have i3 : (j : Int) < (L.length : Int) := by omega
                have i4 : ¬ (j : Int) < 60 := by omega
                clear hlj hj
                go_wp2
                exact ⟨⟨t + 1, hlt, by go_num, U, hU, hid fin.out.1, hid fin.out.2⟩, by simp [intOf]; omega⟩
              · have i3 : ¬ (j : Int) < (L.length : Int) := by omega
                clear hlj hj
                go_wp2
                exact ⟨⟨t + 1, hlt, by go_num, U, hU, hid fin.out.1, hid fin.out.2⟩, by simp [intOf]; omega⟩
    · have i1 : ¬ (t : Int) < 3 := by omega
      have hkk : Kep (fun b => b < w.heap.size) w wr := by rw [← hN.out]; exact hK.out
      replace hkk := hid hkk
      clear hlt ht
      go_wp2
      go_ret
      exact ⟨rfl, hkk.out.only⟩

end Go.Proofs.Ytkaklabcfhefaaa
