/-
  The walk of DescSame: it answers true of whatever two signatures, and writes nothing that was there. No conditions.
-/
import Derived.Test.YtfpdgfgbonbpjabDPlain
import Derived.Test.YtfpdgfgbonbpjabDKnown
import Derived.Deep.RegionHeld3
namespace Go.Proofs.Ytfpdgfgbonbpjab
open Go.RowKit

theorem few_any (ao : Option Addr) (n cap : Nat) (v : Bool) (t : Ty) (w : World) : Calls Try.prog 10 #[sigV (.slice ao n cap) v t] w fun e w' => e = .returned (.bool (decide (n < 100))) ∧ Only [] w w' := by
  obtain ⟨d0, n0⟩ := t
  simp only [sigV]
  have e1 : Hid (decide (n < 100) = decide ((n : Int) < 100)) := decide_eq_decide.2 (by omega)
  rw [e1.out]
  go_enter Try.func10, Try.ntmps10
  go_wp2
  go_ret
  exact ⟨by simp, (Only.refl [] w).alloc _⟩

theorem only_grown {z a b : World} {v : Value} {l : List Ty} {o : Obj} (ho : Only [] z a) (h : Own a z.heap.size v l) (hg : (a.alloc o).grownBy b v.ownBlock) : Only [] z b := by
  refine (ho.alloc o).trans (Only.of_grown hg) fun x hx => .inr ?_
  cases hv : v.ownBlock with
  | none => rw [hv] at hx; simp at hx
  | some y =>
    rw [hv] at hx
    simp at hx
    subst hx
    exact (h.lt x hv).1

theorem keep_pair {a b z : World} {p q : Nat} {x0 x1 x2 x3 y0 y1 y2 y3 : Value} (ho : Only [] a b)
    (h : a.cell? ⟨p, 0, none⟩ = some x0 ∧ a.cell? ⟨p, 1, none⟩ = some x1 ∧ a.cell? ⟨p, 2, none⟩ = some x2 ∧ a.cell? ⟨p, 3, none⟩ = some x3 ∧ a.cell? ⟨q, 0, none⟩ = some y0 ∧ a.cell? ⟨q, 1, none⟩ = some y1 ∧ a.cell? ⟨q, 2, none⟩ = some y2 ∧ a.cell? ⟨q, 3, none⟩ = some y3 ∧ Only [] z a) :
    b.cell? ⟨p, 0, none⟩ = some x0 ∧ b.cell? ⟨p, 1, none⟩ = some x1 ∧ b.cell? ⟨p, 2, none⟩ = some x2 ∧ b.cell? ⟨p, 3, none⟩ = some x3 ∧ b.cell? ⟨q, 0, none⟩ = some y0 ∧ b.cell? ⟨q, 1, none⟩ = some y1 ∧ b.cell? ⟨q, 2, none⟩ = some y2 ∧ b.cell? ⟨q, 3, none⟩ = some y3 ∧ Only [] z b := by
  obtain ⟨h0, h1, h2, h3, g0, g1, g2, g3, hz⟩ := h
  have hl := World.block_lt_of_cell? _ _ h0
  have gl := World.block_lt_of_cell? _ _ g0
  exact ⟨(ho.cell (p := ⟨p, 0, none⟩) hl (by simp)).trans h0, (ho.cell (p := ⟨p, 1, none⟩) hl (by simp)).trans h1, (ho.cell (p := ⟨p, 2, none⟩) hl (by simp)).trans h2, (ho.cell (p := ⟨p, 3, none⟩) hl (by simp)).trans h3,
    (ho.cell (p := ⟨q, 0, none⟩) gl (by simp)).trans g0, (ho.cell (p := ⟨q, 1, none⟩) gl (by simp)).trans g1, (ho.cell (p := ⟨q, 2, none⟩) gl (by simp)).trans g2, (ho.cell (p := ⟨q, 3, none⟩) gl (by simp)).trans g3, hz.next ho (by simp)⟩

set_option maxHeartbeats 400000 in
set_option maxRecDepth 100000 in
theorem same_walk {w : World} {ao : Option Addr} {cap : Nat} {l : List Ty} {k : Nat} (hT : TS w ao l k) (hz : l.length ≤ 9223372036854775807) (hn : ao = none → cap = 0) (hA : ∀ t ∈ l, t.2.length ≤ 9223372036854775807) (v : Bool) {s : Ty} (hs : s.2.length ≤ 9223372036854775807)
    {bo : Option Addr} {bap : Nat} {m : List Ty} {i : Nat} (hM : TS w bo m i) (hy : m.length ≤ 9223372036854775807) (_ : bo = none → bap = 0) (hB : ∀ t ∈ m, t.2.length ≤ 9223372036854775807) (u : Bool) {t : Ty} (ht : t.2.length ≤ 9223372036854775807) :
    Calls Try.prog 6 #[sigV (.slice ao l.length cap) v s, sigV (.slice bo m.length bap) u t] w fun e w' => e = .returned (.bool true) ∧ Below w.heap.size w w' := by
  obtain ⟨sd, sn⟩ := s
  obtain ⟨td, tn⟩ := t
  have o0 := ((Only.refl [] w).alloc (.cells #[.slice ao l.length cap, .bool v, .int .i64 sd, .string (str sn)] 26)).alloc (.cells #[.slice bo m.length bap, .bool u, .int .i64 td, .string (str tn)] 26)
  simp only [sigV]
  have SG := hid ((sig_new w (.slice ao l.length cap) v sd sn).only ((Only.refl [] _).alloc (.cells #[.slice bo m.length bap, .bool u, .int .i64 td, .string (str tn)] 26)) (by simp))
  have SH := sig_new (w.alloc (.cells #[.slice ao l.length cap, .bool v, .int .i64 sd, .string (str sn)] 26)) (.slice bo m.length bap) u td tn
  rw [World.size_alloc] at SH
  replace SH := hid SH
  go_enter Try.func6, Try.ntmps6
  go_wp2_with fail
  refine (known_any _).mono ?_
  rintro e w1 ⟨rfl, ho1⟩
  replace SG := hid (SG.out.only ho1 (by simp))
  replace SH := hid (SH.out.only ho1 (by simp))
  obtain ⟨c0, c1, c2, c3, _, _, _, _⟩ := SG.out
  obtain ⟨b0, b1, b2, b3, _, _, _, _⟩ := SH.out
  have o1 := o0.next ho1 (by simp)
  have HF := few_any ao l.length cap v (sd, sn) w1
  simp only [sigV] at HF
  by_cases hf1 : l.length < 100
  · rw [decide_eq_true hf1] at HF
    replace HF := hid HF
    go_wp2_with fail
    refine HF.out.mono ?_
    rintro e w2 ⟨rfl, ho2⟩
    clear c0 c1 c2 c3 b0 b1 b2 b3
    replace SG := hid (SG.out.only ho2 (by simp))
    replace SH := hid (SH.out.only ho2 (by simp))
    obtain ⟨c0, c1, c2, c3, _, _, _, _⟩ := SG.out
    obtain ⟨b0, b1, b2, b3, _, _, _, _⟩ := SH.out
    have o2 := o1.next ho2 (by simp)
    have HF2 := few_any bo m.length bap u (td, tn) w2
    simp only [sigV] at HF2
    by_cases hf2 : m.length < 100
    · rw [decide_eq_true hf2] at HF2
      replace HF2 := hid HF2
      go_wp2_with fail
      refine HF2.out.mono ?_
      rintro e w3 ⟨rfl, ho3⟩
      clear c0 c1 c2 c3 b0 b1 b2 b3
      replace SG := hid (SG.out.only ho3 (by simp))
      replace SH := hid (SH.out.only ho3 (by simp))
      obtain ⟨c0, c1, c2, c3, _, _, _, _⟩ := SG.out
      obtain ⟨b0, b1, b2, b3, _, _, _, _⟩ := SH.out
      have o3 := o2.next ho3 (by simp)
      have H1 := sigText_any (cap := cap) (hT.only o3 (by simp)) hz hA v (sd, sn) hs
      simp only [sigV] at H1
      have hx : ∃ x, x = sigCheck l v (sd, sn) := ⟨_, rfl⟩
      obtain ⟨x, hx⟩ := hx
      rw [← hx] at H1
      replace hx := hid hx
      replace H1 := hid H1
      go_wp2_with fail
      refine H1.out.mono ?_
      rintro e w4 ⟨rfl, ho4⟩
      clear c0 c1 c2 c3 b0 b1 b2 b3
      replace SG := hid (SG.out.only ho4 (by simp))
      replace SH := hid (SH.out.only ho4 (by simp))
      obtain ⟨c0, c1, c2, c3, _, _, _, _⟩ := SG.out
      obtain ⟨b0, b1, b2, b3, _, _, _, _⟩ := SH.out
      have o4 := o3.next ho4 (by simp)
      have H2 := sigText_any (cap := bap) (hM.only o4 (by simp)) hy hB u (td, tn) ht
      simp only [sigV] at H2
      have hv : ∃ y, y = sigCheck m u (td, tn) := ⟨_, rfl⟩
      obtain ⟨y, hv⟩ := hv
      rw [← hv] at H2
      replace hv := hid hv
      replace H2 := hid H2
      go_wp2_with fail
      refine H2.out.mono ?_
      rintro e w5 ⟨rfl, ho5⟩
      clear c0 c1 c2 c3 b0 b1 b2 b3
      replace SG := hid (SG.out.only ho5 (by simp))
      replace SH := hid (SH.out.only ho5 (by simp))
      obtain ⟨c0, c1, c2, c3, _, _, _, _⟩ := SG.out
      obtain ⟨b0, b1, b2, b3, _, _, _, _⟩ := SH.out
      have o5 := o4.next ho5 (by simp)
      have hx2 : ∃ z, z = sameR (l, v, (sd, sn)) (m, u, (td, tn)) := ⟨_, rfl⟩
      obtain ⟨z, hz2⟩ := hx2
      have HGG : ∀ W, Only [] w W → Calls Try.prog 19 #[sigV (.slice ao l.length cap) v (sd, sn), sigV (.slice ao l.length cap) v (sd, sn)] W fun e w' => e = .returned (.bool true) ∧ Only [] W w' := by
        intro W hW
        have := same_any (cap := cap) (bap := cap) (hT.only hW (by simp)) (hT.only hW (by simp)) hz v v (sd, sn) (sd, sn)
        rw [same_self] at this
        exact this
      have HGH : ∀ W, Only [] w W → Calls Try.prog 19 #[sigV (.slice ao l.length cap) v (sd, sn), sigV (.slice bo m.length bap) u (td, tn)] W fun e w' => e = .returned (.bool z) ∧ Only [] W w' := by
        intro W hW
        rw [hz2]
        exact same_any (cap := cap) (bap := bap) (hT.only hW (by simp)) (hM.only hW (by simp)) hz v u (sd, sn) (td, tn)
      have HHG : ∀ W, Only [] w W → Calls Try.prog 19 #[sigV (.slice bo m.length bap) u (td, tn), sigV (.slice ao l.length cap) v (sd, sn)] W fun e w' => e = .returned (.bool z) ∧ Only [] W w' := by
        intro W hW
        rw [hz2, ← same_turn]
        exact same_any (cap := bap) (bap := cap) (hM.only hW (by simp)) (hT.only hW (by simp)) hy u v (td, tn) (sd, sn)
      simp only [sigV] at HGG HGH HHG
      replace hz2 := hid hz2
      replace HGG := hid HGG
      replace HGH := hid HGH
      replace HHG := hid HHG
      go_wp2_with fail
      go_region_held3 (fun w' => w'.cell? ⟨w.heap.size, 0, none⟩ = some (.slice ao l.length cap) ∧ w'.cell? ⟨w.heap.size, 1, none⟩ = some (.bool v) ∧ w'.cell? ⟨w.heap.size, 2, none⟩ = some (.int .i64 sd) ∧ w'.cell? ⟨w.heap.size, 3, none⟩ = some (.string (str sn)) ∧ w'.cell? ⟨w.heap.size + 1, 0, none⟩ = some (.slice bo m.length bap) ∧ w'.cell? ⟨w.heap.size + 1, 1, none⟩ = some (.bool u) ∧ w'.cell? ⟨w.heap.size + 1, 2, none⟩ = some (.int .i64 td) ∧ w'.cell? ⟨w.heap.size + 1, 3, none⟩ = some (.string (str tn)) ∧ Only [] w w') (first | exact keep_pair (by assumption) (by assumption) | exact ⟨c0, c1, c2, c3, b0, b1, b2, b3, o5.drew⟩ | exact ⟨c0, c1, c2, c3, b0, b1, b2, b3, o5⟩ | assumption) (first | (go_at_call 19; with_reducible refine (HGG.out _ ?_).mono ?_; (simp [*]); rintro e w6 ⟨rfl, ho6⟩) | (go_at_call 19; with_reducible refine (HGH.out _ ?_).mono ?_; (simp [*]); rintro e w7 ⟨rfl, ho7⟩) | (go_at_call 19; with_reducible refine (HHG.out _ ?_).mono ?_; (simp [*]); rintro e w8 ⟨rfl, ho8⟩))
      rename_i hS8
      clear c0 c1 c2 c3 b0 b1 b2 b3
      obtain ⟨c0, c1, c2, c3, b0, b1, b2, b3, o8⟩ := hS8
      by_cases hx0 : x = 0
      · subst hx0
        by_cases hy0 : y = 0
        · subst hy0
          have eA : stR l v (sd, sn) = sigText l v (sd, sn) := by simp [stR, ← hx.out]
          have eB : stR m u (td, tn) = sigText m u (td, tn) := by simp [stR, ← hv.out]
          have hsg : sigCheck l v (sd, sn) = 0 := hx.out.symm
          have hsh : sigCheck m u (td, tn) = 0 := hv.out.symm
          have hzz : Hid (z = decide (stR l v (sd, sn) = stR m u (td, tn))) := by
            unfold Hid
            rw [hz2.out, text_inj hsg hsh, eA, eB]
          obtain ⟨mE, mR⟩ := make_own hsg
          have mE := hid mE
          have mR := hid mR
          have d0 : ∀ o, (w8.alloc o).cell? ⟨w.heap.size, 0, none⟩ = some (.slice ao l.length cap) := fun o => cell_alloc o c0
          have hT8 := hid (hT.only (o8.alloc (.cells #[] 24)) (by simp))
          clear eA eB hsg hsh H1 H2
          generalize stR l v (sd, sn) = A at *
          generalize stR m u (td, tn) = B at *
          go_wp2_with (at_builtin; refine wpList_append_types rfl (.tmp 51) (.tmp 53) rfl rfl rfl (own_made w8) hT8.out hn (by simp; omega) (by simp) ?_)
          intro ao' cap' w9 hown hgrow _ _
          have ho9 : Only [] w8 w9 := ((Only.refl [] w8).alloc _).trans (Only.of_grown hgrow) (by simp [Value.ownBlock])
          clear d0
          have K8 := hid (keep_pair (Only.refl [] w8) ⟨c0, c1, c2, c3, b0, b1, b2, b3, o8⟩)
          obtain ⟨c0, c1, c2, c3, b0, b1, b2, b3, o9⟩ := keep_pair ho9 ⟨c0, c1, c2, c3, b0, b1, b2, b3, o8⟩
          cases v with
          | true =>
            have mE : makeE true l = 0 := by simpa using mE.out
            have mR : makeR true l = (l, true, (sd, sn)) := by simpa using mR.out
            obtain ⟨hT9, hc9, _, hn9, _⟩ := TS.of_owns hown
            have HM := make_any (cap := cap') hT9 (by omega) hc9 hn9 hA true
            rw [mE, mR] at HM
            simp only [sigV] at HM
            replace HM := hid HM
            clear hT9 hc9 hn9 mE mR
            go_wp2_with fail
            refine HM.out.mono ?_
            rintro e w10 ⟨ao3, cap3, rfl, hown3, ho10⟩
            obtain ⟨c0, c1, c2, c3, b0, b1, b2, b3, o10⟩ := keep_pair ho10 ⟨c0, c1, c2, c3, b0, b1, b2, b3, o9⟩
            have K := fun o => keep_pair ((Only.refl [] w10).alloc o) ⟨c0, c1, c2, c3, b0, b1, b2, b3, o10⟩
            have a0 := fun o => (K o).1
            have a1 := fun o => (K o).2.1
            have a2 := fun o => (K o).2.2.1
            have a3 := fun o => (K o).2.2.2.1
            have e0 := fun o => (K o).2.2.2.2.1
            have e1 := fun o => (K o).2.2.2.2.2.1
            have e2 := fun o => (K o).2.2.2.2.2.2.1
            have e3 := fun o => (K o).2.2.2.2.2.2.2.1
            clear K
            have sm := hid (sig_new w10 (.slice ao3 l.length cap3) true sd sn)
            have HS1 := hid (HGH.out _ (o10.alloc (.cells #[.slice ao3 l.length cap3, .bool true, .int .i64 sd, .string (str sn)] 26)))
            have hAt := str_toList A
            have hBt := str_toList B
            go_wp2_with fail
            refine HS1.out.mono ?_
            rintro e w11 ⟨rfl, ho11⟩
            obtain ⟨m0, m1, m2, m3, _, _, _, _⟩ := sm.out.only ho11 (by simp)
            have K := keep_pair ho11 ⟨a0 _, a1 _, a2 _, a3 _, e0 _, e1 _, e2 _, e3 _, o10.alloc _⟩
            clear a0 a1 a2 a3 e0 e1 e2 e3 c0 c1 c2 c3 b0 b1 b2 b3
            obtain ⟨c0, c1, c2, c3, _, _, _, _, o11⟩ := K
            have hown4 := own_only hown3 (((Only.refl [] w10).alloc (.cells #[.slice ao3 l.length cap3, .bool true, .int .i64 sd, .string (str sn)] 26)).next ho11 (by simp)) (by simp)
            have HS2 := same_any (cap := cap3) (bap := cap) (TS.of_owns hown4).1 (hT.only o11 (by simp)) hz true true (sd, sn) (sd, sn)
            rw [same_self] at HS2
            simp only [sigV] at HS2
            replace HS2 := hid HS2
            by_cases hAB : A = B
            · subst hAB
              have hz1 : z = true := by rw [hzz.out]; simp
              subst hz1
              go_wp2_with (go_at_call 19; with_reducible refine HS2.out.mono ?_; rintro e w12 ⟨rfl, ho12⟩)
              go_ret
              exact ⟨by simp, (o11.next ho12 (by simp)).below (Nat.le_refl _) (by simp)⟩
            · have hz1 : z = false := by rw [hzz.out]; simp [hAB]
              subst hz1
              have hAB2 : (A == B) = false := by simpa using hAB
              clear hAB
              go_wp2_with (go_at_call 19; with_reducible refine HS2.out.mono ?_; rintro e w12 ⟨rfl, ho12⟩)
              go_ret
              exact ⟨by simp, (o11.next ho12 (by simp)).below (Nat.le_refl _) (by simp)⟩
          | false =>
            have mE : makeE false (l ++ [(sd, sn)]) = 0 := by simpa using mE.out
            have mR : makeR false (l ++ [(sd, sn)]) = (l, false, (sd, sn)) := by simpa using mR.out
            have hA9 : ∀ t ∈ l ++ [(sd, sn)], t.2.length ≤ 9223372036854775807 := by
              intro x hx
              simp at hx
              rcases hx with hx | hx
              · exact hA x hx
              · rw [hx]
                exact hs
            have hownA := hid (own_only hown ((Only.refl [] w9).alloc (.cells #[.int .i64 sd, .string (str sn)] 24)) (by simp))
            have htA := hid (ts_one w9 (sd, sn) 24)
            have hlt9 := ho9.size
            go_wp2_with (at_builtin; refine wpList_append_types rfl (.tmp 58) (.tmp 61) rfl rfl rfl hownA.out htA.out (by simp) (by simp; omega) (by simp; omega) ?_)
            intro ao4 cap4 wB hownB hgrowB _ _
            clear c0 c1 c2 c3 b0 b1 b2 b3
            obtain ⟨c0, c1, c2, c3, b0, b1, b2, b3, oB⟩ := keep_pair (only_grown ho9 hown hgrowB) K8.out
            have hl1 : l.length + 1 = (l ++ [(sd, sn)]).length := by simp
            rw [hl1] at hownB
            obtain ⟨hT9, hc9, _, hn9, _⟩ := TS.of_owns hownB
            clear hl1
            have HM := make_any (cap := cap4) hT9 (by simp; omega) hc9 hn9 hA9 false
            rw [mE, mR] at HM
            simp only [sigV, List.length_append, List.length_cons, List.length_nil, Nat.zero_add] at HM
            replace HM := hid HM
            clear hT9 hc9 hn9 mE mR
            go_wp2_with fail
            refine HM.out.mono ?_
            rintro e w10 ⟨ao3, cap3, rfl, hown3, ho10⟩
            obtain ⟨c0, c1, c2, c3, b0, b1, b2, b3, o10⟩ := keep_pair ho10 ⟨c0, c1, c2, c3, b0, b1, b2, b3, oB⟩
            have K := fun o => keep_pair ((Only.refl [] w10).alloc o) ⟨c0, c1, c2, c3, b0, b1, b2, b3, o10⟩
            have a0 := fun o => (K o).1
            have a1 := fun o => (K o).2.1
            have a2 := fun o => (K o).2.2.1
            have a3 := fun o => (K o).2.2.2.1
            have e0 := fun o => (K o).2.2.2.2.1
            have e1 := fun o => (K o).2.2.2.2.2.1
            have e2 := fun o => (K o).2.2.2.2.2.2.1
            have e3 := fun o => (K o).2.2.2.2.2.2.2.1
            clear K
            have sm := hid (sig_new w10 (.slice ao3 l.length cap3) false sd sn)
            have HS1 := hid (HGH.out _ (o10.alloc (.cells #[.slice ao3 l.length cap3, .bool false, .int .i64 sd, .string (str sn)] 26)))
            have hAt := str_toList A
            have hBt := str_toList B
            go_wp2_with fail
            refine HS1.out.mono ?_
            rintro e w11 ⟨rfl, ho11⟩
            obtain ⟨m0, m1, m2, m3, _, _, _, _⟩ := sm.out.only ho11 (by simp)
            have K := keep_pair ho11 ⟨a0 _, a1 _, a2 _, a3 _, e0 _, e1 _, e2 _, e3 _, o10.alloc _⟩
            clear a0 a1 a2 a3 e0 e1 e2 e3 c0 c1 c2 c3 b0 b1 b2 b3
            obtain ⟨c0, c1, c2, c3, _, _, _, _, o11⟩ := K
            have hown4 := own_only hown3 (((Only.refl [] w10).alloc (.cells #[.slice ao3 l.length cap3, .bool false, .int .i64 sd, .string (str sn)] 26)).next ho11 (by simp)) (by simp)
            have HS2 := same_any (cap := cap3) (bap := cap) (TS.of_owns hown4).1 (hT.only o11 (by simp)) hz false false (sd, sn) (sd, sn)
            rw [same_self] at HS2
            simp only [sigV] at HS2
            replace HS2 := hid HS2
            by_cases hAB : A = B
            · subst hAB
              have hz1 : z = true := by rw [hzz.out]; simp
              subst hz1
              go_wp2_with (go_at_call 19; with_reducible refine HS2.out.mono ?_; rintro e w12 ⟨rfl, ho12⟩)
              go_ret
              exact ⟨by simp, (o11.next ho12 (by simp)).below (Nat.le_refl _) (by simp)⟩
            · have hz1 : z = false := by rw [hzz.out]; simp [hAB]
              subst hz1
              have hAB2 : (A == B) = false := by simpa using hAB
              clear hAB
              go_wp2_with (go_at_call 19; with_reducible refine HS2.out.mono ?_; rintro e w12 ⟨rfl, ho12⟩)
              go_ret
              exact ⟨by simp, (o11.next ho12 (by simp)).below (Nat.le_refl _) (by simp)⟩
        · have g1 : (y == 0) = false := by simpa using hy0
          go_wp2
          go_ret
          exact ⟨by simp, o8.below (Nat.le_refl _) (by simp)⟩
      · have g1 : (x == 0) = false := by simpa using hx0
        go_wp2
        go_ret
        exact ⟨by simp, o8.below (Nat.le_refl _) (by simp)⟩
    · rw [decide_eq_false hf2] at HF2
      replace HF2 := hid HF2
      go_wp2_with fail
      refine HF2.out.mono ?_
      rintro e w3 ⟨rfl, ho3⟩
      go_wp2
      go_ret
      exact ⟨by simp, (o2.next ho3 (by simp)).below (Nat.le_refl _) (by simp)⟩
  · rw [decide_eq_false hf1] at HF
    replace HF := hid HF
    go_wp2_with fail
    refine HF.out.mono ?_
    rintro e w2 ⟨rfl, ho2⟩
    go_wp2
    go_ret
    exact ⟨by simp, (o1.next ho2 (by simp)).below (Nat.le_refl _) (by simp)⟩

end Go.Proofs.Ytfpdgfgbonbpjab
