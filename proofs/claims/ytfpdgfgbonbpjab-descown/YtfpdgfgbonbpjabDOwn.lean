/-
  The walk of DescOwn: it answers true of whatever text and types, and writes nothing that was there. No conditions.
-/
import Derived.Test.YtfpdgfgbonbpjabDOwnP
namespace Go.Proofs.Ytfpdgfgbonbpjab
open Go.RowKit

theorem sigR_len (b : List UInt8) : (sigR b).1.1.length ≤ 16 := by
  unfold sigR
  split
  · simp
  · split
    · simp
    · simp
      omega

/-- The block of a row; d, if it has none. -/
def blkOf (ao : Option Addr) (d : Nat) : Nat := match ao with | none => d | some a => a.block

theorem om_start {w6 : World} {A : Nat} {aA : Option Addr} {ps : List Ty} {cA : Nat} {v : Bool} {t : Ty} {aM : Option Addr} {l : List Ty} {cM : Nat} (ow : Own w6 0 (.slice aA ps.length cA) ps) (ltA : ∀ a, aA = some a → a.block < A) (sg : SigAt w6 A (.slice aA ps.length cA) v t)
    (om : Own w6 0 (.slice aM l.length cM) l) (gtA : ∀ a, aM = some a → A < a.block) : OM w6 w6 A [A, blkOf aA A, blkOf aM A] aA ps.length cA v t aM l.length cM := by
  refine ⟨⟨ps, rfl, ow⟩, sg, Only.refl _ _, fun a ha => ?_, ⟨l, rfl, om⟩, fun a ha => ?_, fun a b ha hb => ?_, by simp⟩
  · have := ltA a ha
    subst ha
    exact ⟨.inl (by simp [blkOf]), by omega⟩
  · have := gtA a ha
    subst ha
    exact ⟨by simp [blkOf], by omega⟩
  · have := ltA a ha
    have := gtA b hb
    omega

theorem own_blk {w : World} {B : Nat} {ao : Option Addr} {cap : Nat} {l : List Ty} (h : Own w B (.slice ao l.length cap) l) : ∀ a, ao = some a → B ≤ a.block ∧ a.block < w.heap.size := by
  intro a ha
  exact h.lt a.block (by simp [Value.ownBlock, ha])

theorem blkOf_or {ao : Option Addr} {d x y : Nat} (h : ∀ a, ao = some a → x ≤ a.block ∧ a.block < y) : blkOf ao d = d ∨ x ≤ blkOf ao d ∧ blkOf ao d < y := by
  cases ao with
  | none => exact .inl rfl
  | some a => exact .inr (h a rfl)

/-- A row that lies in none of three blocks stays. -/
theorem own_three {w w' : World} {B : Nat} {ao : Option Addr} {cap : Nat} {l : List Ty} {p q r : Nat} (h : Own w B (.slice ao l.length cap) l) (ho : Only [p, q, r] w w') (hx : ∀ a, ao = some a → a.block ≠ p ∧ a.block ≠ q ∧ a.block ≠ r) : Own w' B (.slice ao l.length cap) l := by
  refine own_only h ho fun k hk => ?_
  cases ao with
  | none => cases hk
  | some a =>
    simp [Value.ownBlock] at hk
    subst hk
    have := hx a rfl
    simp
    exact this

set_option maxHeartbeats 400000 in
set_option maxRecDepth 100000 in
theorem own_walk (b : List UInt8) (hb : b.length ≤ 9223372036854775807) {w : World} {ao : Option Addr} {cap : Nat} {l : List Ty} {k : Nat} (hT : TS w ao l k) (hz : l.length ≤ 9223372036854775807) (hc : l.length ≤ cap) (hn : ao = none → cap = 0) (hA : ∀ t ∈ l, t.2.length ≤ 9223372036854775807) :
    Calls Try.prog 8 #[.string (str b), .slice ao l.length cap] w fun e w' => e = .returned (.bool true) ∧ Below w.heap.size w w' := by
  by_cases h100 : 100 < l.length
  · have g1 : (100 < (l.length : Int)) := by omega
    go_enter Try.func8, Try.ntmps8
    go_wp2_with fail
    refine (known_any _).mono ?_
    rintro e w1 ⟨rfl, ho1⟩
    go_wp2
    go_ret
    exact ⟨by simp, ho1.below (Nat.le_refl _) (by simp)⟩
  · have g1 : ¬ (100 < (l.length : Int)) := by omega
    have H1 := fun W => sig_any b hb W
    have hps := sigR_len b
    generalize sigR b = X at *
    obtain ⟨⟨ps, pv, pd, pn⟩, pe⟩ := X
    simp only [sigV] at H1 hps
    replace H1 := hid H1
    go_enter Try.func8, Try.ntmps8
    go_wp2_with fail
    refine (known_any _).mono ?_
    rintro e w1 ⟨rfl, ho1⟩
    go_wp2_with fail
    refine (H1.out w1).mono ?_
    rintro e w2 ⟨va, rfl, owA, ho2⟩
    obtain ⟨aA, cA, rfl⟩ := own_slice owA
    have sA := hid (sig_new w2 (.slice aA ps.length cA) pv pd pn)
    have o2 := (ho1.next ho2 (by simp)).alloc (.cells #[.slice aA ps.length cA, .bool pv, .int .i64 pd, .string (str pn)] 26)
    have s1 := ho1.size
    have s2 := ho2.size
    replace owA := hid owA
    go_wp2_with fail
    refine (H1.out _).mono ?_
    rintro e w3 ⟨vb, rfl, owB, ho3⟩
    obtain ⟨aB, cB, rfl⟩ := own_slice owB
    have sB := hid (sig_new w3 (.slice aB ps.length cB) pv pd pn)
    replace sA := hid ((sA.out.only ho3 (by simp)).only ((Only.refl [] w3).alloc (.cells #[.slice aB ps.length cB, .bool pv, .int .i64 pd, .string (str pn)] 26)) (by simp))
    have o3 := (o2.next ho3 (by simp)).alloc (.cells #[.slice aB ps.length cB, .bool pv, .int .i64 pd, .string (str pn)] 26)
    have s3 := ho3.size
    rw [World.size_alloc] at s3
    replace owB := hid owB
    have HW := twin_any (cap := cB) (TS.of_owns (own_only owB.out ((Only.refl [] w3).alloc (.cells #[.slice aB ps.length cB, .bool pv, .int .i64 pd, .string (str pn)] 26)) (by simp))).1 (TS.of_owns owB.out).2.2.2.1 (by omega) pv (pd, pn)
    simp only [sigV] at HW
    replace HW := hid HW
    go_wp2_with fail
    refine HW.out.mono ?_
    rintro e w4 ⟨aW, cW, rfl, owW, ho4⟩
    have sW := hid (sig_new w4 (.slice aW ps.length cW) pv pd pn)
    have q4 := ho4.alloc (.cells #[.slice aW ps.length cW, .bool pv, .int .i64 pd, .string (str pn)] 26)
    replace sA := hid (sA.out.only q4 (by simp))
    replace sB := hid (sB.out.only q4 (by simp))
    have o4 := o3.next q4 (by simp)
    have s4 := ho4.size
    rw [World.size_alloc] at s4
    replace owW := hid owW
    have hom := own_made (w4.alloc (.cells #[.slice aW ps.length cW, .bool pv, .int .i64 pd, .string (str pn)] 26))
    rw [World.size_alloc] at hom
    replace hom := hid hom
    have hT4 := hid (hT.only (o4.alloc (.cells #[] 24)) (by simp))
    go_wp2_with (at_builtin; refine wpList_append_types rfl (.tmp 35) (.tmp 36) rfl rfl rfl hom.out hT4.out hn (by simp; omega) (by simp) ?_)
    intro aM cM w5 owM hgrow _ _
    have ho5 : Only [] (w4.alloc (.cells #[.slice aW ps.length cW, .bool pv, .int .i64 pd, .string (str pn)] 26)) w5 := ((Only.refl [] _).alloc _).trans (Only.of_grown hgrow) (by simp [Value.ownBlock])
    have o5 := o4.next ho5 (by simp)
    have s5 := ho5.size
    rw [World.size_alloc] at s5
    replace sA := hid (sA.out.only ho5 (by simp))
    replace sB := hid (sB.out.only ho5 (by simp))
    replace sW := hid (sW.out.only ho5 (by simp))
    obtain ⟨hT5, hc5, _, hn5, _⟩ := TS.of_owns owM
    have HM := make_any (cap := cM) hT5 hz hc5 hn5 hA true
    have HD := fun (W : World) (hW : Only [] w W) => make_any (cap := cap) (hT.only hW (by simp)) hz hc hn hA true
    have hrE : makeE true l = 0 → (makeR true l).1.length ≤ 16 := by
      intro h
      have h2 : sigCheck l true (0, []) = 0 := by
        simp [makeE, makeP, makeT] at h
        exact h
      simp [makeR, h, makeP]
      exact (sigCheck_ok h2).1
    generalize makeR true l = Y at *
    generalize makeE true l = ye at *
    obtain ⟨cs, cv, cd, cn⟩ := Y
    simp only [sigV] at HM HD hrE
    replace HM := hid HM
    replace HD := hid HD
    replace hrE := hid hrE
    clear hT5 hc5 hn5
    replace owM := hid owM
    go_wp2_with fail
    refine HM.out.mono ?_
    rintro e w6 ⟨aC, cC, rfl, owC, ho6⟩
    have sC := hid (sig_new w6 (.slice aC cs.length cC) cv cd cn)
    have q6 := ho6.alloc (.cells #[.slice aC cs.length cC, .bool cv, .int .i64 cd, .string (str cn)] 26)
    have o6 := o5.next q6 (by simp)
    have s6 := ho6.size
    replace sA := hid (sA.out.only q6 (by simp))
    replace sB := hid (sB.out.only q6 (by simp))
    replace sW := hid (sW.out.only q6 (by simp))
    replace owC := hid owC
    have bA := own_blk owA.out
    have bB := own_blk owB.out
    have bW := own_blk owW.out
    have bM := own_blk owM.out
    have bC := own_blk owC.out
    have r4 : Only [] w4 (w6.alloc (.cells #[.slice aC cs.length cC, .bool cv, .int .i64 cd, .string (str cn)] 26)) := (((Only.refl [] w4).alloc _).next ho5 (by simp)).next q6 (by simp)
    have r3 : Only [] w3 (w6.alloc (.cells #[.slice aC cs.length cC, .bool cv, .int .i64 cd, .string (str cn)] 26)) := (((Only.refl [] w3).alloc _).next ho4 (by simp)).next r4 (by simp)
    have r2 : Only [] w2 (w6.alloc (.cells #[.slice aC cs.length cC, .bool cv, .int .i64 cd, .string (str cn)] 26)) := (((Only.refl [] w2).alloc _).next ho3 (by simp)).next r3 (by simp)
    have OA := own_mono (own_only owA.out r2 (by simp)) (Nat.zero_le _)
    have OB := hid (own_only owB.out r3 (by simp))
    have OW := hid (own_only owW.out r4 (by simp))
    have OQ := own_mono (own_only owM.out q6 (by simp)) (Nat.zero_le _)
    have OC := hid (own_only owC.out ((Only.refl [] w6).alloc (.cells #[.slice aC cs.length cC, .bool cv, .int .i64 cd, .string (str cn)] 26)) (by simp))
    have H0 := hid (om_start OA (fun a ha => (bA a ha).2) sA.out OQ (fun a ha => by have := (bM a ha).1; omega))
    have hbA : blkOf aA w2.heap.size ≤ w2.heap.size ∧ w.heap.size ≤ blkOf aA w2.heap.size := by
      rcases blkOf_or (d := w2.heap.size) bA with h | h
      · omega
      · omega
    have hbM := blkOf_or (d := w2.heap.size) bM
    simp only [World.size_alloc] at hbM bB bW bM
    have hSw : ∀ x ∈ [w2.heap.size, blkOf aA w2.heap.size, blkOf aM w2.heap.size], w.heap.size ≤ x := by
      intro x hx
      simp at hx
      omega
    replace hSw := hid hSw
    replace bA := hid bA
    replace bB := hid bB
    replace bW := hid bW
    replace bM := hid bM
    replace bC := hid bC
    clear r2 r3 r4 OA OQ owA owB owW owM owC sA q4 q6 ho1 ho2 ho3 ho4 ho5 ho6 hgrow hom hT4 HM HW H1
    go_wp2
    go_loopw [13] (fun i wr => ∃ j : Nat, j ≤ ps.length ∧ i = .int .i64 (j : Int) ∧ OM (w6.alloc (.cells #[.slice aC cs.length cC, .bool cv, .int .i64 cd, .string (str cn)] 26)) wr w2.heap.size [w2.heap.size, blkOf aA w2.heap.size, blkOf aM w2.heap.size] aA ps.length cA pv (pd, pn) aM l.length cM) (fun i _ => ps.length - (intOf i).toNat)
    case atStart => exact ⟨0, by omega, rfl, H0.out⟩
    case round =>
      obtain ⟨j, hj, rfl, HO⟩ := hrel
      clear H0
      obtain ⟨c0, _, _, _, _, _, _, _⟩ := HO.sig
      replace HO := hid HO
      by_cases hlt : j < ps.length
      · have g2 : ((j : Int) < (ps.length : Int)) := by omega
        obtain ⟨la, hla, hro⟩ := HO.out.row
        rw [← hla] at hro
        obtain ⟨hts, _, _, _, hsome⟩ := TS.of_owns hro
        cases aA with
        | none =>
          have := hts.none_nil
          subst this
          simp at hla
          omega
        | some a =>
          obtain ⟨_, _, ha⟩ := hsome a rfl
          obtain ⟨g, off, sp⟩ := a
          simp at ha
          obtain ⟨rfl, rfl⟩ := ha
          have hjl : j < la.length := by omega
          have y0 := hro.cellAt (j * 2) (by omega)
          have y1 := hro.cellAt (j * 2 + 1) (by omega)
          rw [(tcs_get la j hjl).1] at y0
          rw [(tcs_get la j hjl).2] at y1
          have f0 := hro.frozenAt (j * 2)
          have f1 := hro.frozenAt (j * 2 + 1)
          clear hro hts hsome hla
          go_wp2
          exact ⟨⟨j + 1, by omega, by go_num, HO.out.put1 hlt (9, [])⟩, by simp [intOf]; omega⟩
      · have g2 : ¬ ((j : Int) < (ps.length : Int)) := by omega
        go_wp2
        clear g2 hlt hj c0
        go_loopw [14] (fun i wr => ∃ j : Nat, j ≤ l.length ∧ i = .int .i64 (j : Int) ∧ OM (w6.alloc (.cells #[.slice aC cs.length cC, .bool cv, .int .i64 cd, .string (str cn)] 26)) wr w2.heap.size [w2.heap.size, blkOf aA w2.heap.size, blkOf aM w2.heap.size] aA ps.length cA pv (pd, pn) aM l.length cM) (fun i _ => l.length - (intOf i).toNat)
        case atStart => exact ⟨0, by omega, rfl, HO.out⟩
        case round =>
          obtain ⟨j, hj, rfl, HO⟩ := hrel
          obtain ⟨c0, _, _, _, _, _, _, _⟩ := HO.sig
          replace HO := hid HO
          by_cases hlt : j < l.length
          · have g2 : ((j : Int) < (l.length : Int)) := by omega
            obtain ⟨la, hla, hro⟩ := HO.out.mine
            rw [← hla] at hro
            obtain ⟨hts, _, _, _, hsome⟩ := TS.of_owns hro
            cases aM with
            | none =>
              have := hts.none_nil
              subst this
              simp at hla
              omega
            | some a =>
              obtain ⟨_, _, ha⟩ := hsome a rfl
              obtain ⟨g, off, sp⟩ := a
              simp at ha
              obtain ⟨rfl, rfl⟩ := ha
              have hjl : j < la.length := by omega
              have y0 := hro.cellAt (j * 2) (by omega)
              have y1 := hro.cellAt (j * 2 + 1) (by omega)
              rw [(tcs_get la j hjl).1] at y0
              rw [(tcs_get la j hjl).2] at y1
              have f0 := hro.frozenAt (j * 2)
              have f1 := hro.frozenAt (j * 2 + 1)
              clear hro hts hsome hla
              go_wp2
              exact ⟨⟨j + 1, by omega, by go_num, HO.out.put2 hlt (9, [])⟩, by simp [intOf]; omega⟩
          · have g2 : ¬ ((j : Int) < (l.length : Int)) := by omega
            go_wp2
            clear g2 hlt hj c0
            go_loopw [15] (fun i wr => ∃ j : Nat, j ≤ 20 ∧ i = .int .i64 (j : Int) ∧ ∃ aN n cN, n ≤ 16 + j ∧ OM (w6.alloc (.cells #[.slice aC cs.length cC, .bool cv, .int .i64 cd, .string (str cn)] 26)) wr w2.heap.size [w2.heap.size, blkOf aA w2.heap.size, blkOf aM w2.heap.size] aN n cN pv (pd, pn) aM l.length cM) (fun i _ => 20 - (intOf i).toNat)
            case atStart => exact ⟨0, by omega, rfl, aA, ps.length, cA, by omega, HO.out⟩
            case round =>
              clear HO
              obtain ⟨j, hj, rfl, aN, n, cN, hnj, HO⟩ := hrel
              by_cases hlt : j < 20
              · have g2 : ((j : Int) < 20) := by omega
                obtain ⟨c0, _, _, _, f0, _, _, _⟩ := HO.sig
                obtain ⟨la, rfl, hro⟩ := HO.row
                have d0 : ∀ o, (wr.alloc o).cell? ⟨w2.heap.size, 0, none⟩ = some (.slice aN la.length cN) := fun o => cell_alloc o c0
                have hroA := hid (own_only hro ((Only.refl [] wr).alloc (.cells #[.int .i64 8, .string ⟨#[]⟩] 24)) (by simp))
                have htA := hid (ts_one wr (8, []) 24)
                have hA0 := HO.sig
                replace hA0 := hid hA0
                replace HO := hid HO
                clear hro
                go_wp2_with (at_builtin; refine wpList_append_types rfl (.tmp 70) (.tmp 72) rfl rfl rfl hroA.out htA.out (by simp) (by simp; omega) (by simp) ?_)
                intro aN2 cN2 wr2 hown2 hgrow2 hao2 _
                have hl2 : la.length + 1 = (la ++ [((8 : Int), ([] : List UInt8))]).length := by simp
                have HN := HO.out.app (l' := la ++ [(8, [])]) hl2.symm hown2 hgrow2 (by simpa using hao2)
                obtain ⟨k0, _, _, _, m0, _, _, _⟩ := HO.out.sig2 hgrow2
                replace HN := hid HN
                clear hown2 hgrow2 hao2 hl2 c0 f0 d0
                go_wp2
                exact ⟨⟨j + 1, by omega, by go_num, aN2, la.length + 1, cN2, by omega, HN.out⟩, by simp [intOf]; omega⟩
              · have g2 : ¬ ((j : Int) < 20) := by omega
                have hor := HO.only
                have oW : Only [] w wr := o6.next hor hSw.out
                have HDm := hid (HD.out wr oW)
                replace sB := hid (sB.out.only hor (by simp; omega))
                replace sW := hid (sW.out.only hor (by simp; omega))
                replace sC := hid (sC.out.only hor (by simp; omega))
                replace OB := hid (own_three OB.out hor (fun a ha => by have := bB.out a ha; omega))
                replace OW := hid (own_three OW.out hor (fun a ha => by have := bW.out a ha; omega))
                replace OC := hid (own_three OC.out hor (fun a ha => by have := bC.out a ha; omega))
                replace oW := hid oW
                clear hor HO HD hT
                go_wp2_with fail
                refine HDm.out.mono ?_
                rintro e w8 ⟨aD, cD, rfl, owD, ho8⟩
                have q8 := ho8.alloc (.cells #[.slice aD cs.length cD, .bool cv, .int .i64 cd, .string (str cn)] 26)
                have o8 := oW.out.next q8 (by simp)
                have sD := hid (sig_new w8 (.slice aD cs.length cD) cv cd cn)
                replace sB := hid (sB.out.only q8 (by simp))
                replace sW := hid (sW.out.only q8 (by simp))
                replace sC := hid (sC.out.only q8 (by simp))
                have HS1 := same_any (cap := cB) (bap := cW) (TS.of_owns (own_only OB.out q8 (by simp))).1 (TS.of_owns (own_only OW.out q8 (by simp))).1 (by omega) pv pv (pd, pn) (pd, pn)
                rw [same_self] at HS1
                simp only [sigV] at HS1
                replace HS1 := hid HS1
                obtain ⟨b0, b1, b2, b3, _, _, _, _⟩ := sB.out
                obtain ⟨e0, e1, e2, e3, _, _, _, _⟩ := sW.out
                go_wp2_with fail
                refine HS1.out.mono ?_
                rintro e w9 ⟨rfl, ho9⟩
                have o9 := o8.next ho9 (by simp)
                clear b0 b1 b2 b3 e0 e1 e2 e3
                by_cases hye : ye = 0
                · subst hye
                  have hcs := hrE.out rfl
                  have HS2 := same_any (cap := cC) (bap := cD) (TS.of_owns (own_only (own_only OC.out q8 (by simp)) ho9 (by simp))).1 (TS.of_owns (own_only (own_only owD ((Only.refl [] w8).alloc (.cells #[.slice aD cs.length cD, .bool cv, .int .i64 cd, .string (str cn)] 26)) (by simp)) ho9 (by simp))).1 (by omega) cv cv (cd, cn) (cd, cn)
                  rw [same_self] at HS2
                  simp only [sigV] at HS2
                  replace HS2 := hid HS2
                  obtain ⟨b0, b1, b2, b3, _, _, _, _⟩ := sC.out.only ho9 (by simp)
                  obtain ⟨e0, e1, e2, e3, _, _, _, _⟩ := sD.out.only ho9 (by simp)
                  clear owD
                  go_wp2_with fail
                  refine HS2.out.mono ?_
                  rintro e w10 ⟨rfl, ho10⟩
                  go_wp2
                  go_ret
                  exact ⟨by simp, (o9.next ho10 (by simp)).below (Nat.le_refl _) (by simp)⟩
                · have g3 : (ye == 0) = false := by simpa using hye
                  clear owD
                  go_wp2
                  go_ret
                  exact ⟨by simp, o9.below (Nat.le_refl _) (by simp)⟩

end Go.Proofs.Ytfpdgfgbonbpjab
