/-
  The walk of DescSigs: it answers true of whatever text and signatures, and writes nothing that was there. The text is at most 2 to the power of 40 bytes.
-/
import Derived.Test.YtfpdgfgbonbpjaaXSText
import Derived.Test.YtfpdgfgbonbpjaaDTwin
import Derived.Test.YtfpdgfgbonbpjaaDFew
import Derived.Deep.RegionHeld3
namespace Go.Proofs.Ytfpdgfgbonbpjaa
open Go.RowKit

theorem keep_five {x y z : World} {pg ph pa pb pm : Nat} {g0 g1 g2 g3 h0 h1 h2 h3 a0 a1 a2 a3 b0 b1 b2 b3 m0 m1 m2 m3 : Value} (ho : Only [] x y)
    (h : x.cell? ⟨pg, 0, none⟩ = some g0 ∧ x.cell? ⟨pg, 1, none⟩ = some g1 ∧ x.cell? ⟨pg, 2, none⟩ = some g2 ∧ x.cell? ⟨pg, 3, none⟩ = some g3 ∧ x.cell? ⟨ph, 0, none⟩ = some h0 ∧ x.cell? ⟨ph, 1, none⟩ = some h1 ∧ x.cell? ⟨ph, 2, none⟩ = some h2 ∧ x.cell? ⟨ph, 3, none⟩ = some h3 ∧ x.cell? ⟨pa, 0, none⟩ = some a0 ∧ x.cell? ⟨pa, 1, none⟩ = some a1 ∧ x.cell? ⟨pa, 2, none⟩ = some a2 ∧ x.cell? ⟨pa, 3, none⟩ = some a3 ∧ x.cell? ⟨pb, 0, none⟩ = some b0 ∧ x.cell? ⟨pb, 1, none⟩ = some b1 ∧ x.cell? ⟨pb, 2, none⟩ = some b2 ∧ x.cell? ⟨pb, 3, none⟩ = some b3 ∧ x.cell? ⟨pm, 0, none⟩ = some m0 ∧ x.cell? ⟨pm, 1, none⟩ = some m1 ∧ x.cell? ⟨pm, 2, none⟩ = some m2 ∧ x.cell? ⟨pm, 3, none⟩ = some m3 ∧ Only [] z x) :
    y.cell? ⟨pg, 0, none⟩ = some g0 ∧ y.cell? ⟨pg, 1, none⟩ = some g1 ∧ y.cell? ⟨pg, 2, none⟩ = some g2 ∧ y.cell? ⟨pg, 3, none⟩ = some g3 ∧ y.cell? ⟨ph, 0, none⟩ = some h0 ∧ y.cell? ⟨ph, 1, none⟩ = some h1 ∧ y.cell? ⟨ph, 2, none⟩ = some h2 ∧ y.cell? ⟨ph, 3, none⟩ = some h3 ∧ y.cell? ⟨pa, 0, none⟩ = some a0 ∧ y.cell? ⟨pa, 1, none⟩ = some a1 ∧ y.cell? ⟨pa, 2, none⟩ = some a2 ∧ y.cell? ⟨pa, 3, none⟩ = some a3 ∧ y.cell? ⟨pb, 0, none⟩ = some b0 ∧ y.cell? ⟨pb, 1, none⟩ = some b1 ∧ y.cell? ⟨pb, 2, none⟩ = some b2 ∧ y.cell? ⟨pb, 3, none⟩ = some b3 ∧ y.cell? ⟨pm, 0, none⟩ = some m0 ∧ y.cell? ⟨pm, 1, none⟩ = some m1 ∧ y.cell? ⟨pm, 2, none⟩ = some m2 ∧ y.cell? ⟨pm, 3, none⟩ = some m3 ∧ Only [] z y := by
  obtain ⟨qg0, qg1, qg2, qg3, qh0, qh1, qh2, qh3, qa0, qa1, qa2, qa3, qb0, qb1, qb2, qb3, qm0, qm1, qm2, qm3, hz⟩ := h
  have lg := World.block_lt_of_cell? _ _ qg0
  have lh := World.block_lt_of_cell? _ _ qh0
  have la := World.block_lt_of_cell? _ _ qa0
  have lb := World.block_lt_of_cell? _ _ qb0
  have lm := World.block_lt_of_cell? _ _ qm0
  exact ⟨(ho.cell (p := ⟨pg, 0, none⟩) lg (by simp)).trans qg0, (ho.cell (p := ⟨pg, 1, none⟩) lg (by simp)).trans qg1, (ho.cell (p := ⟨pg, 2, none⟩) lg (by simp)).trans qg2, (ho.cell (p := ⟨pg, 3, none⟩) lg (by simp)).trans qg3, (ho.cell (p := ⟨ph, 0, none⟩) lh (by simp)).trans qh0, (ho.cell (p := ⟨ph, 1, none⟩) lh (by simp)).trans qh1, (ho.cell (p := ⟨ph, 2, none⟩) lh (by simp)).trans qh2, (ho.cell (p := ⟨ph, 3, none⟩) lh (by simp)).trans qh3, (ho.cell (p := ⟨pa, 0, none⟩) la (by simp)).trans qa0, (ho.cell (p := ⟨pa, 1, none⟩) la (by simp)).trans qa1, (ho.cell (p := ⟨pa, 2, none⟩) la (by simp)).trans qa2, (ho.cell (p := ⟨pa, 3, none⟩) la (by simp)).trans qa3, (ho.cell (p := ⟨pb, 0, none⟩) lb (by simp)).trans qb0, (ho.cell (p := ⟨pb, 1, none⟩) lb (by simp)).trans qb1, (ho.cell (p := ⟨pb, 2, none⟩) lb (by simp)).trans qb2, (ho.cell (p := ⟨pb, 3, none⟩) lb (by simp)).trans qb3, (ho.cell (p := ⟨pm, 0, none⟩) lm (by simp)).trans qm0, (ho.cell (p := ⟨pm, 1, none⟩) lm (by simp)).trans qm1, (ho.cell (p := ⟨pm, 2, none⟩) lm (by simp)).trans qm2, (ho.cell (p := ⟨pm, 3, none⟩) lm (by simp)).trans qm3, hz.next ho (by simp)⟩

theorem sigR_len (b : List UInt8) : (sigR b).1.1.length ≤ 16 := by
  unfold sigR
  split
  · simp
  · split
    · simp
    · simp
      omega

set_option maxHeartbeats 1000000 in
set_option maxRecDepth 100000 in
theorem sigs_any (b : List UInt8) (hb : b.length ≤ 1099511627776) {w : World} {ao : Option Addr} {cap : Nat} {l : List Ty} {k : Nat} (hT : TS w ao l k) (hz : l.length ≤ 9223372036854775807) (hn : ao = none → cap = 0) (hA : ∀ t ∈ l, t.2.length ≤ 9223372036854775807) (v : Bool) {s : Ty} (hs : s.2.length ≤ 9223372036854775807)
    {bo : Option Addr} {bap : Nat} {m : List Ty} {i : Nat} (hM : TS w bo m i) (u : Bool) {t : Ty} :
    Calls Try.prog 5 #[.string (str b), sigV (.slice ao l.length cap) v s, sigV (.slice bo m.length bap) u t] w fun e w' => e = .returned (.bool true) ∧ Only [] w w' := by
  obtain ⟨sd, sn⟩ := s
  obtain ⟨td, tn⟩ := t
  have o0 := ((Only.refl [] w).alloc (.cells #[.slice ao l.length cap, .bool v, .int .i64 sd, .string (str sn)] 43)).alloc (.cells #[.slice bo m.length bap, .bool u, .int .i64 td, .string (str tn)] 43)
  have SG := hid ((sig_new w (.slice ao l.length cap) v sd sn).only ((Only.refl [] _).alloc (.cells #[.slice bo m.length bap, .bool u, .int .i64 td, .string (str tn)] 43)) (by simp))
  have SH := sig_new (w.alloc (.cells #[.slice ao l.length cap, .bool v, .int .i64 sd, .string (str sn)] 43)) (.slice bo m.length bap) u td tn
  rw [World.size_alloc] at SH
  replace SH := hid SH
  have H1 := fun W => sig_any b (by omega) W
  have H2 := fun W => rsig_any b hb W
  have hps := sigR_len b
  unfold SigPost at H2
  generalize sigR b = X at *
  obtain ⟨⟨ps, pv, pd, pn⟩, pe⟩ := X
  simp only [sigV] at H1 H2 hps ⊢
  replace H1 := hid H1
  replace H2 := hid H2
  go_enter Try.func5, Try.ntmps5
  go_wp2_with fail
  refine (known_any _).mono ?_
  rintro e w1 ⟨rfl, ho1⟩
  replace SG := hid (SG.out.only ho1 (by simp))
  replace SH := hid (SH.out.only ho1 (by simp))
  have o1 := o0.next ho1 (by simp)
  obtain ⟨c0, c1, c2, c3, _, _, _, _⟩ := SG.out
  have HF := few_any ao l.length cap v (sd, sn) w1
  simp only [sigV] at HF
  by_cases hf1 : l.length < 100
  · rw [decide_eq_true hf1] at HF
    replace HF := hid HF
    go_wp2_with fail
    refine HF.out.mono ?_
    rintro e w2 ⟨rfl, ho2⟩
    clear c0 c1 c2 c3
    replace SG := hid (SG.out.only ho2 (by simp))
    replace SH := hid (SH.out.only ho2 (by simp))
    have o2 := o1.next ho2 (by simp)
    obtain ⟨d0, d1, d2, d3, _, _, _, _⟩ := SH.out
    have HF2 := few_any bo m.length bap u (td, tn) w2
    simp only [sigV] at HF2
    by_cases hf2 : m.length < 100
    · rw [decide_eq_true hf2] at HF2
      replace HF2 := hid HF2
      go_wp2_with fail
      refine HF2.out.mono ?_
      rintro e w3 ⟨rfl, ho3⟩
      clear d0 d1 d2 d3
      replace SG := hid (SG.out.only ho3 (by simp))
      replace SH := hid (SH.out.only ho3 (by simp))
      have o3 := o2.next ho3 (by simp)
      go_wp2_with fail
      refine (H1.out _).mono ?_
      rintro e w4 ⟨va, rfl, owA, ho4⟩
      obtain ⟨aA, cA, rfl⟩ := own_slice owA
      have q4 := ho4.alloc (.cells #[.slice aA ps.length cA, .bool pv, .int .i64 pd, .string (str pn)] 43)
      have SA := hid (sig_new w4 (.slice aA ps.length cA) pv pd pn)
      replace owA := hid (own_only owA ((Only.refl [] w4).alloc (.cells #[.slice aA ps.length cA, .bool pv, .int .i64 pd, .string (str pn)] 43)) (by simp))
      replace SG := hid (SG.out.only q4 (by simp))
      replace SH := hid (SH.out.only q4 (by simp))
      have o4 := o3.next q4 (by simp)
      go_wp2_with fail
      refine (H2.out _).mono ?_
      rintro e w5 ⟨vb, rfl, owB, ho5⟩
      obtain ⟨aB, cB, rfl⟩ := own_slice owB
      have q5 := ho5.alloc (.cells #[.slice aB ps.length cB, .bool pv, .int .i64 pd, .string (str pn)] 43)
      have SB := hid (sig_new w5 (.slice aB ps.length cB) pv pd pn)
      replace SA := hid (SA.out.only q5 (by simp))
      replace owA := hid (own_only owA.out q5 (by simp))
      replace owB := hid (own_only owB ((Only.refl [] w5).alloc (.cells #[.slice aB ps.length cB, .bool pv, .int .i64 pd, .string (str pn)] 43)) (by simp))
      replace SG := hid (SG.out.only q5 (by simp))
      replace SH := hid (SH.out.only q5 (by simp))
      have o5 := o4.next q5 (by simp)
      have HW := twin_any (cap := cap) (hT.only o5 (by simp)) hn (by omega) v (sd, sn)
      simp only [sigV] at HW
      replace HW := hid HW
      obtain ⟨c0, c1, c2, c3, _, _, _, _⟩ := SG.out
      go_wp2_with fail
      refine HW.out.mono ?_
      rintro e w6 ⟨aM, cM, rfl, owM, ho6⟩
      clear c0 c1 c2 c3
      have q6 := ho6.alloc (.cells #[.slice aM l.length cM, .bool v, .int .i64 sd, .string (str sn)] 43)
      have SM := hid (sig_new w6 (.slice aM l.length cM) v sd sn)
      replace SA := hid (SA.out.only q6 (by simp))
      replace SB := hid (SB.out.only q6 (by simp))
      replace owA := hid (own_only owA.out q6 (by simp))
      replace owB := hid (own_only owB.out q6 (by simp))
      replace owM := hid (own_only owM ((Only.refl [] w6).alloc (.cells #[.slice aM l.length cM, .bool v, .int .i64 sd, .string (str sn)] 43)) (by simp))
      replace SG := hid (SG.out.only q6 (by simp))
      replace SH := hid (SH.out.only q6 (by simp))
      have o6 := o5.next q6 (by simp)
      have H3 := sigText_any (cap := cM) (TS.of_owns owM.out).1 hz hA v (sd, sn) hs
      simp only [sigV] at H3
      have H4 := fun W (hW : Only [] w W) => rsigText_any (cap := cap) (hT.only hW (by simp)) hz hA v (sd, sn) hs
      simp only [sigV] at H4
      generalize stR l v (sd, sn) = tx at *
      generalize sigCheck l v (sd, sn) = te at *
      replace H3 := hid H3
      replace H4 := hid H4
      obtain ⟨c0, c1, c2, c3, _, _, _, _⟩ := SM.out
      go_wp2_with fail
      refine H3.out.mono ?_
      rintro e w7 ⟨rfl, ho7⟩
      clear c0 c1 c2 c3
      replace SA := hid (SA.out.only ho7 (by simp))
      replace SB := hid (SB.out.only ho7 (by simp))
      replace SM := hid (SM.out.only ho7 (by simp))
      replace owA := hid (own_only owA.out ho7 (by simp))
      replace owB := hid (own_only owB.out ho7 (by simp))
      replace owM := hid (own_only owM.out ho7 (by simp))
      replace SG := hid (SG.out.only ho7 (by simp))
      replace SH := hid (SH.out.only ho7 (by simp))
      have o7 := o6.next ho7 (by simp)
      obtain ⟨c0, c1, c2, c3, _, _, _, _⟩ := SG.out
      go_wp2_with fail
      refine (H4.out w7 o7).mono ?_
      rintro e w8 ⟨rfl, ho8⟩
      clear c0 c1 c2 c3
      replace SA := hid (SA.out.only ho8 (by simp))
      replace SB := hid (SB.out.only ho8 (by simp))
      replace SM := hid (SM.out.only ho8 (by simp))
      replace owA := hid (own_only owA.out ho8 (by simp))
      replace owB := hid (own_only owB.out ho8 (by simp))
      replace owM := hid (own_only owM.out ho8 (by simp))
      replace SG := hid (SG.out.only ho8 (by simp))
      replace SH := hid (SH.out.only ho8 (by simp))
      have o8 := o7.next ho8 (by simp)
      have hx2 : ∃ z, z = sameR (l, v, (sd, sn)) (m, u, (td, tn)) := ⟨_, rfl⟩
      obtain ⟨z, hz2⟩ := hx2
      have HAB : ∀ W, Only [] w8 W → Calls Try.prog 32 #[sigV (.slice aA ps.length cA) pv (pd, pn), sigV (.slice aB ps.length cB) pv (pd, pn)] W fun e w' => e = .returned (.bool true) ∧ Only [] W w' := by
        intro W hW
        have := rsame_any (cap := cA) (bap := cB) (TS.of_owns (own_only owA.out hW (by simp))).1 (TS.of_owns (own_only owB.out hW (by simp))).1 (by omega) pv pv (pd, pn) (pd, pn)
        rw [same_self] at this
        exact this
      have HMG : ∀ W, Only [] w8 W → Calls Try.prog 32 #[sigV (.slice aM l.length cM) v (sd, sn), sigV (.slice ao l.length cap) v (sd, sn)] W fun e w' => e = .returned (.bool true) ∧ Only [] W w' := by
        intro W hW
        have := rsame_any (cap := cM) (bap := cap) (TS.of_owns (own_only owM.out hW (by simp))).1 (hT.only (o8.next hW (by simp)) (by simp)) hz v v (sd, sn) (sd, sn)
        rw [same_self] at this
        exact this
      have HMH : ∀ W, Only [] w8 W → Calls Try.prog 33 #[sigV (.slice aM l.length cM) v (sd, sn), sigV (.slice bo m.length bap) u (td, tn)] W fun e w' => e = .returned (.bool z) ∧ Only [] W w' := by
        intro W hW
        rw [hz2]
        exact same_any (cap := cM) (bap := bap) (TS.of_owns (own_only owM.out hW (by simp))).1 (hM.only (o8.next hW (by simp)) (by simp)) hz v u (sd, sn) (td, tn)
      have HGH : ∀ W, Only [] w8 W → Calls Try.prog 32 #[sigV (.slice ao l.length cap) v (sd, sn), sigV (.slice bo m.length bap) u (td, tn)] W fun e w' => e = .returned (.bool z) ∧ Only [] W w' := by
        intro W hW
        rw [hz2]
        exact rsame_any (cap := cap) (bap := bap) (hT.only (o8.next hW (by simp)) (by simp)) (hM.only (o8.next hW (by simp)) (by simp)) hz v u (sd, sn) (td, tn)
      simp only [sigV] at HAB HMG HMH HGH
      clear hz2
      have htx := str_toList tx
      replace HAB := hid HAB
      replace HMG := hid HMG
      replace HMH := hid HMH
      replace HGH := hid HGH
      have oo := Only.refl [] w8
      obtain ⟨g0, g1, g2, g3, _, _, _, _⟩ := SG.out
      obtain ⟨h0, h1, h2, h3, _, _, _, _⟩ := SH.out
      obtain ⟨a0, a1, a2, a3, _, _, _, _⟩ := SA.out
      obtain ⟨b0, b1, b2, b3, _, _, _, _⟩ := SB.out
      obtain ⟨m0, m1, m2, m3, _, _, _, _⟩ := SM.out
      go_wp2_with fail
      go_region_held3 (fun w' => w'.cell? ⟨w.heap.size, 0, none⟩ = some (.slice ao l.length cap) ∧ w'.cell? ⟨w.heap.size, 1, none⟩ = some (.bool v) ∧ w'.cell? ⟨w.heap.size, 2, none⟩ = some (.int .i64 sd) ∧ w'.cell? ⟨w.heap.size, 3, none⟩ = some (.string (str sn)) ∧ w'.cell? ⟨w.heap.size + 1, 0, none⟩ = some (.slice bo m.length bap) ∧ w'.cell? ⟨w.heap.size + 1, 1, none⟩ = some (.bool u) ∧ w'.cell? ⟨w.heap.size + 1, 2, none⟩ = some (.int .i64 td) ∧ w'.cell? ⟨w.heap.size + 1, 3, none⟩ = some (.string (str tn)) ∧ w'.cell? ⟨w4.heap.size, 0, none⟩ = some (.slice aA ps.length cA) ∧ w'.cell? ⟨w4.heap.size, 1, none⟩ = some (.bool pv) ∧ w'.cell? ⟨w4.heap.size, 2, none⟩ = some (.int .i64 pd) ∧ w'.cell? ⟨w4.heap.size, 3, none⟩ = some (.string (str pn)) ∧ w'.cell? ⟨w5.heap.size, 0, none⟩ = some (.slice aB ps.length cB) ∧ w'.cell? ⟨w5.heap.size, 1, none⟩ = some (.bool pv) ∧ w'.cell? ⟨w5.heap.size, 2, none⟩ = some (.int .i64 pd) ∧ w'.cell? ⟨w5.heap.size, 3, none⟩ = some (.string (str pn)) ∧ w'.cell? ⟨w6.heap.size, 0, none⟩ = some (.slice aM l.length cM) ∧ w'.cell? ⟨w6.heap.size, 1, none⟩ = some (.bool v) ∧ w'.cell? ⟨w6.heap.size, 2, none⟩ = some (.int .i64 sd) ∧ w'.cell? ⟨w6.heap.size, 3, none⟩ = some (.string (str sn)) ∧ Only [] w8 w') (first | assumption | exact keep_five (by assumption) (by assumption) | exact ⟨g0, g1, g2, g3, h0, h1, h2, h3, a0, a1, a2, a3, b0, b1, b2, b3, m0, m1, m2, m3, oo.drew⟩ | exact ⟨g0, g1, g2, g3, h0, h1, h2, h3, a0, a1, a2, a3, b0, b1, b2, b3, m0, m1, m2, m3, oo⟩)
        (first
          | (go_at_call 32; with_reducible refine (HAB.out _ ?_).mono ?_; (simp [*]); rintro e w9 ⟨rfl, ho9⟩)
          | (go_at_call 32; with_reducible refine (HMG.out _ ?_).mono ?_; (simp [*]); rintro e w10 ⟨rfl, ho10⟩)
          | (go_at_call 32; with_reducible refine (HGH.out _ ?_).mono ?_; (simp [*]); rintro e w11 ⟨rfl, ho11⟩)
          | (go_at_call 33; with_reducible refine (HMH.out _ ?_).mono ?_; (simp [*]); rintro e w12 ⟨rfl, ho12⟩))
      rename_i hS
      have oS := o8.next hS.2.2.2.2.2.2.2.2.2.2.2.2.2.2.2.2.2.2.2.2 (by simp)
      clear hS
      go_wp2
      go_ret
      exact ⟨by simp, oS⟩
    · rw [decide_eq_false hf2] at HF2
      replace HF2 := hid HF2
      go_wp2_with fail
      refine HF2.out.mono ?_
      rintro e w3 ⟨rfl, ho3⟩
      go_wp2
      go_ret
      exact ⟨by simp, o2.next ho3 (by simp)⟩
  · rw [decide_eq_false hf1] at HF
    replace HF := hid HF
    go_wp2_with fail
    refine HF.out.mono ?_
    rintro e w2 ⟨rfl, ho2⟩
    go_wp2
    go_ret
    exact ⟨by simp, o1.next ho2 (by simp)⟩

theorem sigs_walk (b : List UInt8) (hb : b.length ≤ 1099511627776) {w : World} {ao : Option Addr} {cap : Nat} {l : List Ty} {k : Nat} (hT : TS w ao l k) (hz : l.length ≤ 9223372036854775807) (hn : ao = none → cap = 0) (hA : ∀ t ∈ l, t.2.length ≤ 9223372036854775807) (v : Bool) {s : Ty} (hs : s.2.length ≤ 9223372036854775807)
    {bo : Option Addr} {bap : Nat} {m : List Ty} {i : Nat} (hM : TS w bo m i) (_ : m.length ≤ 9223372036854775807) (_ : bo = none → bap = 0) (_ : ∀ t ∈ m, t.2.length ≤ 9223372036854775807) (u : Bool) {t : Ty} (_ : t.2.length ≤ 9223372036854775807) :
    Calls Try.prog 5 #[.string (str b), sigV (.slice ao l.length cap) v s, sigV (.slice bo m.length bap) u t] w fun e w' => e = .returned (.bool true) ∧ Below w.heap.size w w' :=
  (sigs_any b hb hT hz hn hA v hs hM u).mono fun _ _ h => ⟨h.1, h.2.below (Nat.le_refl _) (by simp)⟩

end Go.Proofs.Ytfpdgfgbonbpjaa
