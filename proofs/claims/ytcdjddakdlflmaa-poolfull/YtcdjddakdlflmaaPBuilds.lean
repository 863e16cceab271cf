/-
  The walk of PoolBuilds: it answers true of whatever entries and calls, and writes nothing that was there. The entries' texts have at most 1048576 bytes.
-/
import Derived.Test.YtcdjddakdlflmaaPKnown
import Derived.Test.YtcdjddakdlflmaaPOwnE
namespace Go.Proofs.Ytcdjddakdlflmaa
open Go.RowKit

/-- Both builders, and all that was there at w as it was. -/
structure Bs2 (w w' : World) (b r : Nat) (R Q : Option Nat) (l : List En) : Prop where
  tw : Tw w' b r R Q l
  only : Only [] w w'
  bb : w.heap.size ≤ b
  rr : w.heap.size ≤ r
  RR : ∀ g, R = some g → w.heap.size ≤ g
  QQ : ∀ g, Q = some g → w.heap.size ≤ g

theorem Bs2.next {w w1 w2 : World} {b r : Nat} {R Q : Option Nat} {l : List En} (h : Bs2 w w1 b r R Q l) (k : Only [] w1 w2) : Bs2 w w2 b r R Q l :=
  ⟨h.tw.only k (by simp) (by simp) (by simp) (by simp), h.only.next k (by simp), h.bb, h.rr, h.RR, h.QQ⟩

theorem Bs2.step {w w1 w2 : World} {b r : Nat} {R Q R' Q' : Option Nat} {l l' : List En} (h : Bs2 w w1 b r R Q l) (k : Tt w1 w2 b r R Q R' Q' l') : Bs2 w w2 b r R' Q' l' := by
  have hs := h.only.size
  refine ⟨k.tw, h.only.next k.only ?_, h.bb, h.rr, ?_, ?_⟩
  · intro x hx
    simp at hx
    rcases hx with rfl | rfl | hx | hx
    · exact h.bb
    · exact h.rr
    · exact h.RR x hx
    · exact h.QQ x hx
  · intro g hg
    rcases k.rowR with e | ⟨g', e, hg'⟩
    · exact h.RR g (by rw [← e]; exact hg)
    · rw [e] at hg
      simp at hg
      omega
  · intro g hg
    rcases k.rowQ with e | ⟨g', e, hg'⟩
    · exact h.QQ g (by rw [← e]; exact hg)
    · rw [e] at hg
      simp at hg
      omega

theorem Bs2.apart {w w1 : World} {b r : Nat} {R Q : Option Nat} {l : List En} (h : Bs2 w w1 b r R Q l) {x : Nat} (hx : x < w.heap.size) : x ∉ b :: R.toList := by
  have := h.bb
  simp
  refine ⟨by omega, fun e => ?_⟩
  have := h.RR _ e
  omega

/-- The second builder's slice. -/
theorem Bs2.slice {w w1 : World} {b r : Nat} {R Q : Option Nat} {l : List En} (h : Bs2 w w1 b r R Q l) : ∃ ao cap, w1.cell? ⟨r, 0, none⟩ = some (.slice ao l.length cap) ∧ ES w1 ao l ((ao.map (·.block)).getD 0) := by
  obtain ⟨ao, cap, hc, how, _⟩ := h.tw.q.ex
  exact ⟨ao, cap, hc, (ES.of_owns how).1⟩

/-- A store into a block that is none of theirs. -/
theorem Bs2.set {w w1 w2 : World} {b r : Nat} {R Q : Option Nat} {l : List En} {g : Nat} (h : Bs2 w w1 b r R Q l) (k : Only [g] w1 w2) (hg : w.heap.size ≤ g) (h1 : g ≠ b) (h2 : g ≠ r) (h3 : R ≠ some g) (h4 : Q ≠ some g) : Bs2 w w2 b r R Q l := by
  refine ⟨h.tw.only k (by simp; exact fun e => h1 e.symm) (by simp; exact fun e => h2 e.symm) ?_ ?_, h.only.next k (by simpa using hg), h.bb, h.rr, h.RR, h.QQ⟩
  · intro x hx
    simp
    rintro rfl
    exact h3 hx
  · intro x hx
    simp
    rintro rfl
    exact h4 hx

set_option maxHeartbeats 1000000 in
set_option maxRecDepth 100000 in
theorem builds_any {w : World} {ao : Option Addr} {l : List En} {d cap : Nat} (hE : ES w ao l d) (hn : ao = none → cap = 0) (hl : l.length ≤ 9223372036854775807) (hA : ∀ e ∈ l, e.2.1.length ≤ 1048576)
    {co : Option Addr} {cs : List Cal} {dc cop : Nat} (hC : CS w co cs dc) (hcl : cs.length ≤ 9223372036854775807) (hok : ∀ c ∈ cs, CalOK w c) :
    Calls Try.prog 5 #[.slice ao l.length cap, .slice co cs.length cop] w fun e w' => e = .returned (.bool true) ∧ Only [] w w' := by
  have HK := hid (known_any w)
  by_cases h4 : 4200 < l.length
  · have g1 : (4200 < (l.length : Int)) := by omega
    clear hE hC
    go_enter Try.func5, Try.ntmps5
    go_wp2_with (go_at_call 9; refine HK.out.mono ?_; rintro e w1 ⟨rfl, ho1⟩)
    go_ret
    exact ⟨rfl, ho1⟩
  have g1 : ¬ (4200 < (l.length : Int)) := by omega
  have hEl := hid (fun W (hW : Only [] w W) => hE.only hW (by simp))
  have hCl := hid (fun W (hW : Only [] w W) => hC.only hW (by simp))
  have hCd := hid hC.lt
  replace hok := hid hok
  replace hA := hid hA
  have hnl := newE_len l
  clear hE hC
  go_enter Try.func5, Try.ntmps5
  go_wp2_with (first | (go_at_call 9; refine HK.out.mono ?_; rintro e w1 ⟨rfl, ho1⟩; have hz := ho1.size; have hom := hid (owe_mono (C := w.heap.size) (owe_made w1) (by omega)); have hT := hid (hEl.out _ (ho1.alloc (.cells #[] 38)))) | (at_builtin; refine wpList_append_entries rfl (.tmp 15) (.tmp 16) Try.underlying22 rfl rfl rfl hom.out hT.out hn (by simp; omega) (by simp; omega) ?_))
  intro ao1 cap1 w3 hown3 hg3 hao3 hnn3 hold3
  have o3 := hid (ho1.next (((Only.refl [] w1).alloc _).trans (Only.of_grown hg3) (by simp [Value.ownBlock])) (by simp))
  clear hg3 hao3 hnn3 hold3 hom hT HK
  have hES3 := ES.of_owns hown3
  have HN := hid (new_any (cap := cap1) hES3.1 hES3.2.2.2.1 hl (fun e he => by have := hA.out e he; omega))
  clear hES3
  have hown3L := hid hown3
  replace hown3 := hid hown3
  go_wp2_with fail
  refine HN.out.mono ?_
  rintro e w4 ⟨b, R, rfl, hb4, hB4, hR4, ho4⟩
  have o4 := hid (o3.out.next ho4 (by simp))
  have HN2 := hid (rnew_any (cap := cap) (hEl.out _ o4.out) hn hl hA.out)
  have hown4 := hid (owe_only hown3.out ho4 (by simp))
  replace hB4 := hid hB4
  clear HN hown3
  go_wp2_with fail
  refine HN2.out.mono ?_
  rintro e w5 ⟨r, Q, rfl, hb5, hB5, hR5, ho5⟩
  have o5 := hid (o4.out.next ho5 (by simp))
  have hown5 := hid (owe_only hown4.out ho5 (by simp))
  have hz3 := o3.out.size
  have hz4 := ho4.size
  have hbl := hB4.out.lt
  have hrl := hB4.out.row_lt
  have S5 : Hid (Bs2 w w5 b r R Q (newE l)) := by
    refine ⟨⟨hB4.out.only ho5 (by simp) (by simp), hB5, by omega, ?_, ?_, ?_⟩, o5.out, by omega, by omega, ?_, ?_⟩
    · intro e
      have := hrl _ e
      omega
    · intro e
      have := hR5 _ e
      omega
    · intro g hg e
      have := hrl _ hg
      have := hR5 _ e
      omega
    · intro g hg
      have := hR4 _ hg
      omega
    · intro g hg
      have := hR5 _ hg
      omega
  have hmb : Hid (∀ a, ao1 = some a → w.heap.size ≤ a.block ∧ a.block ≠ b ∧ a.block ≠ r ∧ R ≠ some a.block ∧ Q ≠ some a.block) := by
    intro a ha
    have q := (ES.of_owns hown4.out).2.2.2.2 a ha
    have q2 := ((ES.of_owns hown3L.out).2.2.2.2 a ha).2.1
    refine ⟨q.1, by omega, by omega, fun e => ?_, fun e => ?_⟩
    · have := hR4 _ e
      omega
    · have := hR5 _ e
      omega
  generalize newE l = N at *
  clear HN2 hown4 hown3L hB4 hB5 ho5 ho4 o4 o3 hrl hbl hR4 hR5 hb4 hb5
  go_wp2
  go_loopw [8] (fun i wr => ∃ j : Nat, j ≤ l.length ∧ i = .int .i64 (j : Int) ∧ (∃ lm : List En, lm.length = l.length ∧ OwE wr 0 (.slice ao1 l.length cap1) lm) ∧ Bs2 w wr b r R Q N) (fun i _ => l.length - (intOf i).toNat)
  case atStart => exact ⟨0, by omega, rfl, ⟨l, rfl, owe_mono hown5.out (Nat.zero_le _)⟩, S5.out⟩
  case round =>
    obtain ⟨j, hj, rfl, ⟨lm, hlm, hro⟩, hS⟩ := hrel
    clear S5 hown5
    by_cases hlt : j < l.length
    · have g2 : ((j : Int) < (l.length : Int)) := by omega
      rw [← hlm] at hro
      obtain ⟨hts, _, _, _, hsome⟩ := ES.of_owns hro
      cases ao1 with
      | none =>
        have := hts.none_nil
        subst this
        simp at hlm
        omega
      | some a =>
        obtain ⟨_, _, ha⟩ := hsome a rfl
        obtain ⟨hm1, hm2, hm3, hm4, hm5⟩ := hmb.out a rfl
        obtain ⟨g, off, sp⟩ := a
        simp at ha
        obtain ⟨rfl, rfl⟩ := ha
        simp only at hm1 hm2 hm3 hm4 hm5
        have hjl : j < lm.length := by omega
        obtain ⟨e0, e1, e2, e3, e4, e5⟩ := ecs_get lm j hjl
        have y0 := hro.cellAt (j * 6) (by omega)
        have y1 := hro.cellAt (j * 6 + 1) (by omega)
        have y2 := hro.cellAt (j * 6 + 2) (by omega)
        have y3 := hro.cellAt (j * 6 + 3) (by omega)
        have y4 := hro.cellAt (j * 6 + 4) (by omega)
        have y5 := hro.cellAt (j * 6 + 5) (by omega)
        rw [e0] at y0
        rw [e1] at y1
        rw [e2] at y2
        rw [e3] at y3
        rw [e4] at y4
        rw [e5] at y5
        have f0 := hro.frozenAt (j * 6)
        have f1 := hro.frozenAt (j * 6 + 1)
        have f2 := hro.frozenAt (j * 6 + 2)
        have f3 := hro.frozenAt (j * 6 + 3)
        have f4 := hro.frozenAt (j * 6 + 4)
        have f5 := hro.frozenAt (j * 6 + 5)
        have hput := owe_put hro j hjl en0
        rw [hlm] at hput
        have hS2 := hS.set (six_only wr g (j * 6) (j * 6 + 1) (j * 6 + 2) (j * 6 + 3) (j * 6 + 4) (j * 6 + 5) (.int .i64 0) (.string ⟨#[]⟩) (.int .i64 0) (.int .i64 0) (.int .i64 0) (.int .i64 0)) hm1 hm2 hm3 hm4 hm5
        replace hput := hid hput
        replace hS2 := hid hS2
        replace hlm := hid hlm
        clear hro hts hsome e0 e1 e2 e3 e4 e5 hS
        go_wp2
        exact ⟨⟨j + 1, by omega, by go_num, ⟨lm.set j en0, by rw [List.length_set]; exact hlm.out, hput.out⟩, hS2.out⟩, by simp [intOf]; omega⟩
    · have g2 : ¬ ((j : Int) < (l.length : Int)) := by omega
      clear hro hlm hj hlt hmb
      replace hS := hid hS
      go_wp2
      clear g2
      go_loopw [9] (fun i wx => ∃ q : Nat, q ≤ cs.length ∧ q ≤ 100 ∧ i = .int .i64 (q : Int) ∧ ∃ R' Q' N', N'.length ≤ 4096 ∧ Bs2 w wx b r R' Q' N') (fun i _ => 100 - (intOf i).toNat)
      case atStart => exact ⟨0, by omega, by omega, rfl, R, Q, N, hnl, hS.out⟩
      case round =>
        clear hS
        obtain ⟨q, hq, hq1, rfl, R', Q', N', hN, hS⟩ := hrel
        by_cases hlt : q < cs.length
        · have gq : ((q : Int) < (cs.length : Int)) := by omega
          by_cases h1 : q < 100
          · have gh : ((q : Int) < 100) := by omega
            obtain ⟨off, hco, hat⟩ := (hCl.out _ hS.only).at hlt
            subst hco
            have hko := hok.out cs[q] (List.getElem_mem hlt)
            generalize cs[q] = x at *
            by_cases hp : 100 < x.ps.length
            · have gp : (100 < (x.ps.length : Int)) := by omega
              obtain ⟨c0, c1, c2, c3, c4, c5, c6, c7, c8, c9⟩ := hat
              replace hS := hid hS
              go_wp2
              exact ⟨⟨q + 1, by omega, by omega, by go_num, R', Q', N', hN, hS.out⟩, by simp [intOf]; omega⟩
            · have gp : ¬ (100 < (x.ps.length : Int)) := by omega
              have hS1 := hS.next ((Only.refl [] _).drew)
              have HT := told_any hS1.tw (by omega) (hko.only hS1.only (by simp)) (fun hne => hS1.apart (hko.ts.lt hne))
              have hcl' := callB_len N' hN x
              generalize (callB N' x).1 = N2 at *
              obtain ⟨c0, c1, c2, c3, c4, c5, c6, c7, c8, c9⟩ := hat
              simp only [clV] at HT
              replace HT := hid HT
              replace hS1 := hid hS1
              clear hS
              go_wp2_with fail
              go_region_with (first | (go_at_call 16; with_reducible refine HT.out.mono ?_; rintro e w6 ⟨rfl, R2, Q2, ht⟩; have S6 := hS1.out.step ht; obtain ⟨ar, cr, k6, E6⟩ := S6.slice; have HP := hid (pool_any S6.tw.p (by omega)); replace E6 := hid E6; replace S6 := hid S6; clear ht) | (go_at_call 17; with_reducible refine HP.out.mono ?_; rintro e w7 ⟨ap, cp, rfl, hown7, ho7⟩; have HS := same_any (cap := cp) (bap := cr) (ES.of_owns hown7).1 (E6.out.only ho7 (by simp)) (by omega); rw [decide_eq_true rfl] at HS; replace HS := hid HS; have k7 := (ho7.cell (p := ⟨r, 0, none⟩) S6.out.tw.q.lt (by simp)).trans k6; clear hown7) | (go_at_call 12; with_reducible refine HS.out.mono ?_; rintro e w8 ⟨rfl, ho8⟩))
              all_goals
                go_wp2
                exact ⟨⟨q + 1, by omega, by omega, by go_num, R2, Q2, N2, hcl', (S6.out.next ho7).next ho8⟩, by simp [intOf]; omega⟩
          · have gh : ¬ ((q : Int) < 100) := by omega
            have hS1 := hS.next ((Only.refl [] _).drew)
            obtain ⟨ar, cr, k6, E6⟩ := hS1.slice
            have HP := hid (pool_any hS1.tw.p (by omega))
            have k6' : wr.cell? ⟨r, 0, none⟩ = some (.slice ar N'.length cr) := k6
            replace E6 := hid E6
            replace hS1 := hid hS1
            have k6d := hid k6
            clear hS k6
            go_wp2_with fail
            go_region_with (first | (go_at_call 17; with_reducible refine HP.out.mono ?_; rintro e w7 ⟨ap, cp, rfl, hown7, ho7⟩; have HS := same_any (cap := cp) (bap := cr) (ES.of_owns hown7).1 (E6.out.only ho7 (by simp)) (by omega); rw [decide_eq_true rfl] at HS; replace HS := hid HS; have k7 := (ho7.cell (p := ⟨r, 0, none⟩) hS1.out.tw.q.lt (by simp)).trans k6d.out; clear hown7) | (go_at_call 12; with_reducible refine HS.out.mono ?_; rintro e w8 ⟨rfl, ho8⟩))
            all_goals
              go_wp2
              go_ret
              exact ⟨rfl, ((hS1.out.next ho7).next ho8).only⟩
        · have gq : ¬ ((q : Int) < (cs.length : Int)) := by omega
          have hS1 := hS.next ((Only.refl [] _).drew)
          obtain ⟨ar, cr, k6, E6⟩ := hS1.slice
          have HP := hid (pool_any hS1.tw.p (by omega))
          have k6' : wr.cell? ⟨r, 0, none⟩ = some (.slice ar N'.length cr) := k6
          replace E6 := hid E6
          replace hS1 := hid hS1
          have k6d := hid k6
          clear hS k6
          go_wp2_with fail
          go_region_with (first | (go_at_call 17; with_reducible refine HP.out.mono ?_; rintro e w7 ⟨ap, cp, rfl, hown7, ho7⟩; have HS := same_any (cap := cp) (bap := cr) (ES.of_owns hown7).1 (E6.out.only ho7 (by simp)) (by omega); rw [decide_eq_true rfl] at HS; replace HS := hid HS; have k7 := (ho7.cell (p := ⟨r, 0, none⟩) hS1.out.tw.q.lt (by simp)).trans k6d.out; clear hown7) | (go_at_call 12; with_reducible refine HS.out.mono ?_; rintro e w8 ⟨rfl, ho8⟩))
          all_goals
            go_wp2
            go_ret
            exact ⟨rfl, ((hS1.out.next ho7).next ho8).only⟩

theorem builds_walk {w : World} {ao : Option Addr} {l : List En} {d cap : Nat} (hE : ES w ao l d) (hn : ao = none → cap = 0) (hl : l.length ≤ 9223372036854775807) (hA : ∀ e ∈ l, e.2.1.length ≤ 1048576)
    {co : Option Addr} {cs : List Cal} {dc cop : Nat} (hC : CS w co cs dc) (_ : co = none → cop = 0) (hcl : cs.length ≤ 9223372036854775807) (hok : ∀ c ∈ cs, CalOK w c) :
    Calls Try.prog 5 #[.slice ao l.length cap, .slice co cs.length cop] w fun e w' => e = .returned (.bool true) ∧ Below w.heap.size w w' :=
  (builds_any hE hn hl hA hC hcl hok).mono fun _ _ h => ⟨h.1, h.2.below (Nat.le_refl _) (by simp)⟩

end Go.Proofs.Ytcdjddakdlflmaa
