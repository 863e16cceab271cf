/-
  The walk of PoolFull: it answers true of whatever number and call, and writes nothing that was there. No conditions.
-/
import Derived.Test.YtcdjddakdlflmaaPBuilds
namespace Go.Proofs.Ytcdjddakdlflmaa
open Go.RowKit

/-- So many numbers. -/
def nums (k : Nat) : List En := (List.range k).map fun i : Nat => ((2, [], (i : Int), 0, 0, 0) : En)

theorem nums_len (k : Nat) : (nums k).length = k := by simp [nums]
theorem nums_succ (k : Nat) : nums (k + 1) = nums k ++ [(2, [], (k : Int), 0, 0, 0)] := by simp [nums, List.range_succ]

theorem nums_right (k : Nat) (l : List En) : ∀ e ∈ nums k, wrongE l e = 0 := by
  intro e he
  obtain ⟨i, _, rfl⟩ := List.mem_map.1 he
  simp [wrongE, usedE]

theorem nums_new (k : Nat) (hk : k ≤ 4096) : newE (nums k) = nums k := by
  have hc : checkE (nums k) = (0, 0) := by
    unfold checkE
    rw [if_neg (by rw [nums_len]; omega), firstWrong_ok (nums_right k _)]
  unfold newE
  rw [hc]
  simp

theorem nums_text (k : Nat) : ∀ e ∈ nums k, e.2.1 = [] := by
  intro e he
  obtain ⟨i, _, rfl⟩ := List.mem_map.1 he
  rfl

theorem owe_block' {w : World} {B : Nat} {v : Value} {l : List En} (h : OwE w B v l) : ∀ x ∈ v.ownBlock.toList, B ≤ x := by
  intro x hx
  rcases h.2 with ⟨rfl, _⟩ | ⟨g, cap, cur, rfl, q2, _⟩
  · cases hx
  · simp [Value.ownBlock] at hx
    omega

theorem seven (x : Int) : ∃ z : Nat, z ≤ 6 ∧ (x.tmod 7 = (z : Int) ∨ (0 < z ∧ x.tmod 7 = -(z : Int))) := by
  have h1 := Int.tmod_lt_of_pos x (by decide : (0 : Int) < 7)
  have h2 := Int.lt_tmod_of_pos x (by decide : (0 : Int) < 7)
  generalize x.tmod 7 = y at *
  by_cases h : y < 0
  · exact ⟨(-y).toNat, by omega, .inr ⟨by omega, by omega⟩⟩
  · exact ⟨y.toNat, by omega, .inl (by omega)⟩

set_option maxHeartbeats 4000000 in
set_option maxRecDepth 100000 in
theorem full_any {w : World} (x : Int) {c : Cal} (hC : CalOK w c) :
    Calls Try.prog 6 #[.int .i64 x, clV c] w fun e w' => e = .returned (.bool true) ∧ Only [] w w' := by
  have o0 := (Only.refl [] w).alloc (.cells #[.int .i64 c.k, .int .i64 c.n, .string (str c.c), .string (str c.m), .int .i64 c.t.1, .string (str c.t.2), .slice c.ao c.ps.length c.cap, .bool c.v, .int .i64 c.r.1, .string (str c.r.2)] 45)
  have C0 := hid (calAt_new w c 45)
  have HK := hid (known_any (w.alloc (.cells #[.int .i64 c.k, .int .i64 c.n, .string (str c.c), .string (str c.m), .int .i64 c.t.1, .string (str c.t.2), .slice c.ao c.ps.length c.cap, .bool c.v, .int .i64 c.r.1, .string (str c.r.2)] 45)))
  replace hC := hid hC
  simp only [clV]
  by_cases hp : 100 < c.ps.length
  · have gp : (100 < (c.ps.length : Int)) := by omega
    go_enter Try.func6, Try.ntmps6
    go_wp2_with fail
    refine HK.out.mono ?_
    rintro e w1 ⟨rfl, ho1⟩
    obtain ⟨c0, c1, c2, c3, c4, c5, c6, c7, c8, c9⟩ := C0.out.only ho1 (by simp)
    simp only [Nat.zero_add] at c0 c1 c2 c3 c4 c5 c6 c7 c8 c9
    go_wp2
    go_ret
    exact ⟨rfl, o0.next ho1 (by simp)⟩
  · have gp : ¬ (100 < (c.ps.length : Int)) := by omega
    go_enter Try.func6, Try.ntmps6
    go_wp2_with fail
    refine HK.out.mono ?_
    rintro e w1 ⟨rfl, ho1⟩
    have o1 := o0.next ho1 (by simp)
    have C1 := hid (C0.out.only ho1 (by simp))
    obtain ⟨c0, c1, c2, c3, c4, c5, c6, c7, c8, c9⟩ := C1.out
    simp only [Nat.zero_add] at c0 c1 c2 c3 c4 c5 c6 c7 c8 c9
    clear c0 c1 c2 c3 c4 c5 c7 c8 c9
    obtain ⟨z, hz, hy⟩ := seven x
    rcases hy with hy | ⟨hy0, hy⟩
    · have gz : ¬ ((z : Int) < 0) := by omega
      go_wp2
      clear c6
      go_loopw [5, 6] (fun v i wr => ∃ k : Nat, k ≤ 4096 - z ∧ i = .int .i64 (k : Int) ∧ ∃ ao cp, v = .slice ao (nums k).length cp ∧ OwE wr w1.heap.size (.slice ao (nums k).length cp) (nums k) ∧ Only [] w1 wr) (fun _ i _ => 4096 - (intOf i).toNat)
      case atStart => exact ⟨0, by omega, rfl, none, 0, rfl, owe_nil _ _, Only.refl _ _⟩
      case round =>
        obtain ⟨k, hk, rfl, ao, cp, rfl, hown, hor⟩ := hrel
        have how := o1.next hor (by simp)
        have hzw := hor.size
        by_cases hlt : k < 4096 - z
        · have g2 : ((k : Int) < 4096 - (z : Int)) := by omega
          have hO := hid (owe_only hown ((Only.refl [] wr).alloc (.cells #[.int .i64 2, .string (str []), .int .i64 (k : Int), .int .i64 0, .int .i64 0, .int .i64 0] 38)) (by simp))
          have hX := hid (es_one wr (2, [], (k : Int), 0, 0, 0) 38)
          have hnl := hid (nums_len k)
          have hbk := hid (owe_block' hown)
          clear hown
          go_wp2_with (at_builtin; refine wpList_append_entries rfl (.tmp 28) (.tmp 31) Try.underlying22 rfl rfl rfl hO.out hX.out (by simp) (by rw [hnl.out]; simp; omega) (by simp; omega) ?_)
          intro ao' cp' w2 hown2 hg2 hao2 hnn2 hold2
          have hor2 : Only [] w1 w2 := (hor.alloc _).next (Only.of_grown hg2) hbk.out
          clear hg2 hao2 hnn2 hold2
          replace hown2 := hid hown2
          go_wp2
          refine ⟨⟨k + 1, by omega, by go_num, ao', cp', by rw [nums_succ]; simp, ?_, hor2⟩, by simp [intOf]; omega⟩
          rw [nums_succ]
          simpa using hown2.out
        · have g2 : ¬ ((k : Int) < 4096 - (z : Int)) := by omega
          obtain rfl : k = 4096 - z := by omega
          have hES := ES.of_owns hown
          have HN := new_any (cap := cp) hES.1 hES.2.2.2.1 (by rw [nums_len]; omega) (fun e he => by rw [nums_text _ e he]; simp)
          have HN2 := fun W (hW : Only [] wr W) => rnew_any (cap := cp) (hES.1.only hW (by simp)) hES.2.2.2.1 (by rw [nums_len]; omega) (fun e he => by rw [nums_text _ e he]; simp)
          have hnl := nums_len (4096 - z)
          unfold NewPost at HN HN2
          rw [nums_new _ (by omega)] at HN HN2
          generalize nums (4096 - z) = N at *
          replace HN := hid HN
          replace HN2 := hid HN2
          have hN : N.length ≤ 4096 := by omega
          replace hnl := hid hnl
          clear hown hES
          go_wp2_with fail
          refine HN.out.mono ?_
          rintro e w4 ⟨b, R, rfl, hb4, hB4, hR4, ho4⟩
          replace hB4 := hid hB4
          replace HN2 := hid (HN2.out _ ho4)
          go_wp2_with fail
          refine HN2.out.mono ?_
          rintro e w5 ⟨r, Q, rfl, hb5, hB5, hR5, ho5⟩
          have hz4 := ho4.size
          have hbl := hB4.out.lt
          have hrl := hB4.out.row_lt
          have S5 : Bs2 w1 w5 b r R Q N := by
            refine ⟨⟨hB4.out.only ho5 (by simp) (by simp), hB5, by omega, ?_, ?_, ?_⟩, (hor.next ho4 (by simp)).next ho5 (by simp), by omega, by omega, ?_, ?_⟩
            · intro e
              have := hrl _ e
              omega
            · intro e
              have := hR5 _ e
              omega
            · intro g hg e
              have := hrl _ hg
              have := hR5 _ e
              omega
            · intro g hg
              have := hR4 _ hg
              omega
            · intro g hg
              have := hR5 _ hg
              omega
          have S6 := S5.next ((Only.refl [] _).drew)
          have hko := (hC.out.only o1 (by simp))
          have HT := told_any S6.tw (by omega) (hko.only S6.only (by simp)) (fun hne => S6.apart (hko.ts.lt hne))
          have hcl' := callB_len N hN c
          generalize (callB N c).1 = N2 at *
          obtain ⟨c0, c1, c2, c3, c4, c5, c6, c7, c8, c9⟩ := C1.out.only S5.only (by simp)
          simp only [Nat.zero_add] at c0 c1 c2 c3 c4 c5 c6 c7 c8 c9
          simp only [clV] at HT
          replace HT := hid HT
          replace S6 := hid S6
          replace hko := hid hko
          replace hcl' := hid hcl'
          clear S5 hB4 hB5 HN HN2 hR4 hR5 hrl
          go_wp2_with fail
          go_region_with (first | (go_at_call 16; with_reducible refine HT.out.mono ?_; rintro e w6 ⟨rfl, R2, Q2, ht⟩; have S7 := S6.out.step ht; obtain ⟨ar, cr, k6, E6⟩ := S7.slice; have HP := hid (pool_any S7.tw.p (by have := hcl'.out; omega)); replace E6 := hid E6; replace S7 := hid S7; clear ht HT) | (go_at_call 17; with_reducible refine HP.out.mono ?_; rintro e w7 ⟨ap, cp', rfl, hown7, ho7⟩; have HS := same_any (cap := cp') (bap := cr) (ES.of_owns hown7).1 (E6.out.only ho7 (by simp)) (by have := hcl'.out; omega); rw [decide_eq_true rfl] at HS; replace HS := hid HS; have k7 := (ho7.cell (p := ⟨r, 0, none⟩) S7.out.tw.q.lt (by simp)).trans k6; clear hown7 HP) | (go_at_call 12; with_reducible refine HS.out.mono ?_; rintro e w8 ⟨rfl, ho8⟩; have S9 := (S7.out.next ho7).next ho8; have HT2 := told_any S9.tw (by have := hcl'.out; omega) (hko.out.only S9.only (by simp)) (fun hne => S9.apart (hko.out.ts.lt hne)); have hc3 := hid (callB_len N2 hcl'.out c); generalize (callB N2 c).1 = N3 at *; obtain ⟨d0, d1, d2, d3, d4, d5, d6, d7, d8, d9⟩ := C1.out.only S9.only (by simp); simp only [Nat.zero_add] at d0 d1 d2 d3 d4 d5 d6 d7 d8 d9; simp only [clV] at HT2; replace HT2 := hid HT2; replace S9 := hid S9; clear HS) | (go_at_call 16; with_reducible refine HT2.out.mono ?_; rintro e w9 ⟨rfl, R3, Q3, ht3⟩; have S10 := S9.out.step ht3; have HP2 := hid (pool_any S10.tw.p (by have := hc3.out; omega)); have gl : ((N3.length : Int) ≤ 4096) := (by have := hc3.out; omega); replace S10 := hid S10; clear ht3 HT2) | (go_at_call 17; with_reducible refine HP2.out.mono ?_; rintro e w10 ⟨ap2, cp2, rfl, hown10, ho10⟩; clear hown10))
          all_goals
            go_wp2
            go_ret
            exact ⟨rfl, o1.next (S10.out.next ho10).only (by simp)⟩
    · have gz : (-(z : Int) < 0) := by omega
      go_wp2
      clear c6
      go_loopw [5, 6] (fun v i wr => ∃ k : Nat, k ≤ 4096 - z ∧ i = .int .i64 (k : Int) ∧ ∃ ao cp, v = .slice ao (nums k).length cp ∧ OwE wr w1.heap.size (.slice ao (nums k).length cp) (nums k) ∧ Only [] w1 wr) (fun _ i _ => 4096 - (intOf i).toNat)
      case atStart => exact ⟨0, by omega, rfl, none, 0, rfl, owe_nil _ _, Only.refl _ _⟩
      case round =>
        obtain ⟨k, hk, rfl, ao, cp, rfl, hown, hor⟩ := hrel
        have how := o1.next hor (by simp)
        have hzw := hor.size
        by_cases hlt : k < 4096 - z
        · have g2 : ((k : Int) < 4096 - (z : Int)) := by omega
          have hO := hid (owe_only hown ((Only.refl [] wr).alloc (.cells #[.int .i64 2, .string (str []), .int .i64 (k : Int), .int .i64 0, .int .i64 0, .int .i64 0] 38)) (by simp))
          have hX := hid (es_one wr (2, [], (k : Int), 0, 0, 0) 38)
          have hnl := hid (nums_len k)
          have hbk := hid (owe_block' hown)
          clear hown
          go_wp2_with (at_builtin; refine wpList_append_entries rfl (.tmp 28) (.tmp 31) Try.underlying22 rfl rfl rfl hO.out hX.out (by simp) (by rw [hnl.out]; simp; omega) (by simp; omega) ?_)
          intro ao' cp' w2 hown2 hg2 hao2 hnn2 hold2
          have hor2 : Only [] w1 w2 := (hor.alloc _).next (Only.of_grown hg2) hbk.out
          clear hg2 hao2 hnn2 hold2
          replace hown2 := hid hown2
          go_wp2
          refine ⟨⟨k + 1, by omega, by go_num, ao', cp', by rw [nums_succ]; simp, ?_, hor2⟩, by simp [intOf]; omega⟩
          rw [nums_succ]
          simpa using hown2.out
        · have g2 : ¬ ((k : Int) < 4096 - (z : Int)) := by omega
          obtain rfl : k = 4096 - z := by omega
          have hES := ES.of_owns hown
          have HN := new_any (cap := cp) hES.1 hES.2.2.2.1 (by rw [nums_len]; omega) (fun e he => by rw [nums_text _ e he]; simp)
          have HN2 := fun W (hW : Only [] wr W) => rnew_any (cap := cp) (hES.1.only hW (by simp)) hES.2.2.2.1 (by rw [nums_len]; omega) (fun e he => by rw [nums_text _ e he]; simp)
          have hnl := nums_len (4096 - z)
          unfold NewPost at HN HN2
          rw [nums_new _ (by omega)] at HN HN2
          generalize nums (4096 - z) = N at *
          replace HN := hid HN
          replace HN2 := hid HN2
          have hN : N.length ≤ 4096 := by omega
          replace hnl := hid hnl
          clear hown hES
          go_wp2_with fail
          refine HN.out.mono ?_
          rintro e w4 ⟨b, R, rfl, hb4, hB4, hR4, ho4⟩
          replace hB4 := hid hB4
          replace HN2 := hid (HN2.out _ ho4)
          go_wp2_with fail
          refine HN2.out.mono ?_
          rintro e w5 ⟨r, Q, rfl, hb5, hB5, hR5, ho5⟩
          have hz4 := ho4.size
          have hbl := hB4.out.lt
          have hrl := hB4.out.row_lt
          have S5 : Bs2 w1 w5 b r R Q N := by
            refine ⟨⟨hB4.out.only ho5 (by simp) (by simp), hB5, by omega, ?_, ?_, ?_⟩, (hor.next ho4 (by simp)).next ho5 (by simp), by omega, by omega, ?_, ?_⟩
            · intro e
              have := hrl _ e
              omega
            · intro e
              have := hR5 _ e
              omega
            · intro g hg e
              have := hrl _ hg
              have := hR5 _ e
              omega
            · intro g hg
              have := hR4 _ hg
              omega
            · intro g hg
              have := hR5 _ hg
              omega
          have S6 := S5.next ((Only.refl [] _).drew)
          have hko := (hC.out.only o1 (by simp))
          have HT := told_any S6.tw (by omega) (hko.only S6.only (by simp)) (fun hne => S6.apart (hko.ts.lt hne))
          have hcl' := callB_len N hN c
          generalize (callB N c).1 = N2 at *
          obtain ⟨c0, c1, c2, c3, c4, c5, c6, c7, c8, c9⟩ := C1.out.only S5.only (by simp)
          simp only [Nat.zero_add] at c0 c1 c2 c3 c4 c5 c6 c7 c8 c9
          simp only [clV] at HT
          replace HT := hid HT
          replace S6 := hid S6
          replace hko := hid hko
          replace hcl' := hid hcl'
          clear S5 hB4 hB5 HN HN2 hR4 hR5 hrl
          go_wp2_with fail
          go_region_with (first | (go_at_call 16; with_reducible refine HT.out.mono ?_; rintro e w6 ⟨rfl, R2, Q2, ht⟩; have S7 := S6.out.step ht; obtain ⟨ar, cr, k6, E6⟩ := S7.slice; have HP := hid (pool_any S7.tw.p (by have := hcl'.out; omega)); replace E6 := hid E6; replace S7 := hid S7; clear ht HT) | (go_at_call 17; with_reducible refine HP.out.mono ?_; rintro e w7 ⟨ap, cp', rfl, hown7, ho7⟩; have HS := same_any (cap := cp') (bap := cr) (ES.of_owns hown7).1 (E6.out.only ho7 (by simp)) (by have := hcl'.out; omega); rw [decide_eq_true rfl] at HS; replace HS := hid HS; have k7 := (ho7.cell (p := ⟨r, 0, none⟩) S7.out.tw.q.lt (by simp)).trans k6; clear hown7 HP) | (go_at_call 12; with_reducible refine HS.out.mono ?_; rintro e w8 ⟨rfl, ho8⟩; have S9 := (S7.out.next ho7).next ho8; have HT2 := told_any S9.tw (by have := hcl'.out; omega) (hko.out.only S9.only (by simp)) (fun hne => S9.apart (hko.out.ts.lt hne)); have hc3 := hid (callB_len N2 hcl'.out c); generalize (callB N2 c).1 = N3 at *; obtain ⟨d0, d1, d2, d3, d4, d5, d6, d7, d8, d9⟩ := C1.out.only S9.only (by simp); simp only [Nat.zero_add] at d0 d1 d2 d3 d4 d5 d6 d7 d8 d9; simp only [clV] at HT2; replace HT2 := hid HT2; replace S9 := hid S9; clear HS) | (go_at_call 16; with_reducible refine HT2.out.mono ?_; rintro e w9 ⟨rfl, R3, Q3, ht3⟩; have S10 := S9.out.step ht3; have HP2 := hid (pool_any S10.tw.p (by have := hc3.out; omega)); have gl : ((N3.length : Int) ≤ 4096) := (by have := hc3.out; omega); replace S10 := hid S10; clear ht3 HT2) | (go_at_call 17; with_reducible refine HP2.out.mono ?_; rintro e w10 ⟨ap2, cp2, rfl, hown10, ho10⟩; clear hown10))
          all_goals
            go_wp2
            go_ret
            exact ⟨rfl, o1.next (S10.out.next ho10).only (by simp)⟩

theorem full_walk (x : Int) (_ : (Lit.int .i64 x).wf = true) {w : World} {c : Cal} (hC : CalOK w c) :
    Calls Try.prog 6 #[.int .i64 x, clV c] w fun e w' => e = .returned (.bool true) ∧ Below w.heap.size w w' :=
  (full_any x hC).mono fun _ _ h => ⟨h.1, h.2.below (Nat.le_refl _) (by simp)⟩

end Go.Proofs.Ytcdjddakdlflmaa
