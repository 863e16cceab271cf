/-
  The walk of PoolBehind: it answers true of whatever entries, and writes nothing that was there. No conditions.
-/
import Derived.Test.YtcdjddakdlflmaaPKnown
import Derived.Test.YtcdjddakdlflmaaPMore
import Derived.Test.YtcdjddakdlflmaaXSame
namespace Go.Proofs.Ytcdjddakdlflmaa
open Go.RowKit

theorem neq_type' (t : Ty) (w : World) : (binOp .neq 41 (tyV t) (tyV t)).run Try.prog w = .ok (.bool false) w := by
  rw [neq_type]
  simp

theorem cell2 (w : World) (d : Int) (n : List UInt8) : (w.alloc (.cells #[.int .i64 d, .string (str n)] 41)).cell? ⟨w.heap.size, 0, none⟩ = some (.int .i64 d) ∧ (w.alloc (.cells #[.int .i64 d, .string (str n)] 41)).cell? ⟨w.heap.size, 1, none⟩ = some (.string (str n)) :=
  ⟨by rw [cell_new]; rfl, by rw [cell_new]; rfl⟩

theorem cell2_only {a b : World} {p : Nat} {x0 x1 : Value} (ho : Only [] a b) (h : a.cell? ⟨p, 0, none⟩ = some x0 ∧ a.cell? ⟨p, 1, none⟩ = some x1) : b.cell? ⟨p, 0, none⟩ = some x0 ∧ b.cell? ⟨p, 1, none⟩ = some x1 := by
  obtain ⟨h0, h1⟩ := h
  have hl := World.block_lt_of_cell? _ _ h0
  exact ⟨(ho.cell (p := ⟨p, 0, none⟩) hl (by simp)).trans h0, (ho.cell (p := ⟨p, 1, none⟩) hl (by simp)).trans h1⟩

theorem owe_block {w : World} {B : Nat} {v : Value} {l : List En} (h : OwE w B v l) : ∀ x ∈ v.ownBlock.toList, B ≤ x := by
  intro x hx
  rcases h.2 with ⟨rfl, _⟩ | ⟨g, cap, cur, rfl, q2, _⟩
  · cases hx
  · simp [Value.ownBlock] at hx
    omega

set_option maxHeartbeats 1000000 in
set_option maxRecDepth 100000 in
theorem behind_any {w : World} {ao bo : Option Addr} {l m : List En} {d k cap bap : Nat} (hE : ES w ao l d) (hn : ao = none → cap = 0) (hl : l.length ≤ 9223372036854775807) (hA : ∀ e ∈ l, e.2.1.length ≤ 9223372036854775807)
    (hM : ES w bo m k) (hmn : bo = none → bap = 0) (hml : m.length ≤ 9223372036854775807) (hmA : ∀ e ∈ m, e.2.1.length ≤ 9223372036854775807) :
    Calls Try.prog 7 #[.slice ao l.length cap, .slice bo m.length bap] w fun e w' => e = .returned (.bool true) ∧ Only [] w w' := by
  have HK := hid (known_any w)
  have HC := fun W (hW : Only [] w W) => pcheck_any (cap := cap) (hE.only hW (by simp)) hl hA
  have hall : (checkE l).2 = 0 → ∀ e ∈ l, wrongE l e = 0 := fun h => (check_all h).2
  have H1 := fun W (hW : Only [] w W) (j : Nat) => ptext_any (cap := cap) (hE.only hW (by simp)) hl hA (j : Int)
  have H3 := fun W (hW : Only [] w W) (j : Nat) => pclass_any (cap := cap) (hE.only hW (by simp)) hl hA (j : Int)
  have H5 := fun W (hW : Only [] w W) (j : Nat) => pfield_any (cap := cap) (hE.only hW (by simp)) hl hA (j : Int)
  have H6 := fun W (hW : Only [] w W) (j : Nat) => pmethod_any (cap := cap) (hE.only hW (by simp)) hl hA (j : Int)
  have hB : ∀ e ∈ l ++ m, e.2.1.length ≤ 9223372036854775807 := by
    intro e he
    rcases List.mem_append.1 he with h | h
    · exact hA e h
    · exact hmA e h
  generalize checkE l = X at *
  obtain ⟨xi, xe⟩ := X
  simp only at *
  replace HC := hid HC
  replace H1 := hid H1
  replace H3 := hid H3
  replace H5 := hid H5
  replace H6 := hid H6
  by_cases h4 : 300 < l.length
  · have g1 : (300 < (l.length : Int)) := by omega
    clear hall hE hM
    go_enter Try.func7, Try.ntmps7
    go_wp2_with (go_at_call 9; refine HK.out.mono ?_; rintro e w1 ⟨rfl, ho1⟩)
    go_ret
    exact ⟨rfl, ho1⟩
  have g1 : ¬ (300 < (l.length : Int)) := by omega
  by_cases h5 : 300 < m.length
  · have g1 : (300 < (m.length : Int)) := by omega
    clear hall hE hM
    go_enter Try.func7, Try.ntmps7
    go_wp2_with (go_at_call 9; refine HK.out.mono ?_; rintro e w1 ⟨rfl, ho1⟩)
    go_ret
    exact ⟨rfl, ho1⟩
  have g1' : ¬ (300 < (m.length : Int)) := by omega
  by_cases hx : xe = 0
  · subst hx
    replace hall := hid (hall rfl)
    have hck := hid (check_more (m := m) (by omega) hall.out)
    have hEm := fun W (hW : Only [] w W) => hM.only hW (by simp)
    have hEl := fun W (hW : Only [] w W) => hE.only hW (by simp)
    replace hEm := hid hEm
    replace hEl := hid hEl
    replace hB := hid hB
    clear hE hM hA hmA
    go_enter Try.func7, Try.ntmps7
    go_wp2_with (first | (go_at_call 9; refine HK.out.mono ?_; rintro e w1 ⟨rfl, ho1⟩) | fail)
    refine (HC.out _ ho1).mono ?_
    rintro e w2 ⟨rfl, ho2⟩
    have o2 := hid (ho1.next ho2 (by simp))
    clear HK HC
    have hz := o2.out.size
    have hom := hid (owe_mono (C := w.heap.size) (owe_made w2) (by omega))
    have hT := hid (hEl.out _ (o2.out.alloc (.cells #[] 38)))
    go_wp2_with (at_builtin; refine wpList_append_entries rfl (.tmp 43) (.tmp 44) Try.underlying22 rfl rfl rfl hom.out hT.out hn (by simp; omega) (by simp; omega) ?_)
    intro ao1 cap1 w3 hown3 hg3 hao3 hnn3 hold3
    have o3 : Only [] w2 w3 := ((Only.refl [] w2).alloc _).trans (Only.of_grown hg3) (by simp [Value.ownBlock])
    have o3' := hid (o2.out.next o3 (by simp))
    clear hg3 hao3 hnn3 hold3 hom hT
    have hz3 := o3'.out.size
    have hT := hid (hEm.out _ o3'.out)
    have ho3 := hid hown3
    clear hown3
    go_wp2_with (at_builtin; refine wpList_append_entries rfl (.tmp 45) (.tmp 46) Try.underlying22 rfl rfl rfl ho3.out hT.out hmn (by omega) (by omega) ?_)
    intro co cop w4 hown4 hg4 hao4 hnn4 hold4
    have o4 := hid (o3'.out.next (Only.of_grown hg4) (owe_block ho3.out))
    clear hg4 hao4 hnn4 hold4 hT hEm hEl
    have G1 := fun W dd (hW : ES W co (l ++ m) dd) (j : Nat) => ptext_any (cap := cop) hW (by simp; omega) hB.out (j : Int)
    have G3 := fun W dd (hW : ES W co (l ++ m) dd) (j : Nat) => pclass_any (cap := cop) hW (by simp; omega) hB.out (j : Int)
    have G5 := fun W dd (hW : ES W co (l ++ m) dd) (j : Nat) => pfield_any (cap := cop) hW (by simp; omega) hB.out (j : Int)
    have G6 := fun W dd (hW : ES W co (l ++ m) dd) (j : Nat) => pmethod_any (cap := cop) hW (by simp; omega) hB.out (j : Int)
    have GC := fun W dd (hW : ES W co (l ++ m) dd) => pcheck_any (cap := cop) hW (by simp; omega) hB.out
    have hlm : (l ++ m).length = l.length + m.length := by simp
    rw [← hlm] at hown4
    have hES := hid (fun W (hW : Only [] w4 W) => (ES.of_owns hown4).1.only hW (by simp))
    generalize hdd : (co.map (·.block)).getD 0 = dd at *
    rw [hlm] at G1 G3 G5 G6 GC
    clear hdd hown4 ho3
    replace G1 := hid G1
    replace G3 := hid G3
    replace G5 := hid G5
    replace G6 := hid G6
    replace GC := hid GC
    replace hlm := hid hlm
    go_wp2
    go_loopw [8] (fun i wr => ∃ j : Nat, j ≤ l.length ∧ i = .int .i64 (j : Int) ∧ Only [] w4 wr) (fun i _ => l.length - (intOf i).toNat)
    case atStart => exact ⟨0, by omega, rfl, Only.refl _ _⟩
    case round =>
      obtain ⟨j, hj, rfl, hor⟩ := hrel
      have how := hid (o4.out.next hor (by simp))
      by_cases hlt : j < l.length
      · have g2 : ((j : Int) < (l.length : Int)) := by omega
        have e1 := text_more (m := m) hall.out j hlt
        have e3 := class_more (m := m) hall.out j hlt
        have e5 := field_more (m := m) hall.out j hlt
        have e6 := method_more (m := m) hall.out j hlt
        have K1 := fun W (hW : Only [] w4 W) => G1.out W dd (hES.out W hW) j
        have K3 := fun W (hW : Only [] w4 W) => G3.out W dd (hES.out W hW) j
        have K5 := fun W (hW : Only [] w4 W) => G5.out W dd (hES.out W hW) j
        have K6 := fun W (hW : Only [] w4 W) => G6.out W dd (hES.out W hW) j
        replace H1 := fun W (hW : Only [] w W) => H1.out W hW j
        replace H3 := fun W (hW : Only [] w W) => H3.out W hW j
        replace H5 := fun W (hW : Only [] w W) => H5.out W hW j
        replace H6 := fun W (hW : Only [] w W) => H6.out W hW j
        rw [e1] at K1
        rw [e3] at K3
        rw [e5] at K5
        rw [e6] at K6
        clear e1 e3 e5 e6 G1 G3 G5 G6
        generalize textR l (j : Int) = X1 at *
        generalize classR l (j : Int) = X3 at *
        generalize fieldR l (j : Int) = X5 at *
        generalize methodR l (j : Int) = X6 at *
        obtain ⟨a1, x1⟩ := X1
        obtain ⟨a3, x3⟩ := X3
        obtain ⟨⟨a5, b5, c5, d5⟩, x5⟩ := X5
        obtain ⟨⟨a6, b6, c6, d6, e6, f6⟩, x6⟩ := X6
        have hq := neq_type' (c5, d5)
        simp only [tyV, sigV] at *
        have s1 := str_toList a1
        have s3 := str_toList a3
        have s5 := str_toList a5
        have s5' := str_toList b5
        have s6 := str_toList a6
        have s6' := str_toList b6
        replace H1 := hid H1
        replace H3 := hid H3
        replace H5 := hid H5
        replace H6 := hid H6
        replace K1 := hid K1
        replace K3 := hid K3
        replace K5 := hid K5
        replace K6 := hid K6
        clear hall
        go_wp2_with fail
        refine (H1.out _ how.out).mono ?_
        rintro e w5 ⟨rfl, ho5⟩
        have p5 := hid (hor.next ho5 (by simp))
        clear H1
        go_wp2_with fail
        refine (K1.out _ p5.out).mono ?_
        rintro e w6 ⟨rfl, ho6⟩
        have p6 := hid (p5.out.next ho6 (by simp))
        clear K1 p5
        go_wp2_with fail
        refine (H3.out _ (o4.out.next p6.out (by simp))).mono ?_
        rintro e w7 ⟨rfl, ho7⟩
        have p7 := hid (p6.out.next ho7 (by simp))
        clear H3 p6
        go_wp2_with fail
        refine (K3.out _ p7.out).mono ?_
        rintro e w8 ⟨rfl, ho8⟩
        have p8 := hid (p7.out.next ho8 (by simp))
        clear K3 p7 ho5 ho6 ho7 ho8
        go_wp2_with fail
        refine (H5.out _ (o4.out.next p8.out (by simp))).mono ?_
        rintro e w9 ⟨rfl, ho9⟩
        have p9 := hid ((p8.out.next ho9 (by simp)).alloc (.cells #[.int .i64 c5, .string (str d5)] 41))
        have T9 := hid (cell2 w9 c5 d5)
        clear H5 p8 ho9
        go_wp2_with fail
        refine (K5.out _ p9.out).mono ?_
        rintro e w10 ⟨rfl, ho10⟩
        have p10 := hid ((p9.out.next ho10 (by simp)).alloc (.cells #[.int .i64 c5, .string (str d5)] 41))
        obtain ⟨u0, u1⟩ := cell2_only (ho10.alloc (.cells #[.int .i64 c5, .string (str d5)] 41)) T9.out
        obtain ⟨v0, v1⟩ := cell2 w10 c5 d5
        clear K5 p9 ho10 T9
        go_wp2_with fail
        refine (H6.out _ (o4.out.next p10.out (by simp))).mono ?_
        rintro e w11 ⟨vo, vc, rfl, hown11, ho11⟩
        have p11 := hid ((p10.out.next ho11 (by simp)).alloc (.cells #[.slice vo c6.length vc, .bool d6, .int .i64 e6, .string (str f6)] 43))
        have S11 := hid (sig_new w11 (.slice vo c6.length vc) d6 e6 f6)
        clear H6 p10 ho11 u0 u1 v0 v1
        have how11 := hid hown11
        clear hown11
        go_wp2_with fail
        refine (K6.out _ p11.out).mono ?_
        rintro e w12 ⟨vo', vc', rfl, hown12, ho12⟩
        have q12 := ho12.alloc (.cells #[.slice vo' c6.length vc', .bool d6, .int .i64 e6, .string (str f6)] 43)
        have p12 := hid (p11.out.next q12 (by simp))
        have S12 := hid (sig_new w12 (.slice vo' c6.length vc') d6 e6 f6)
        obtain ⟨a0, a1', a2, a3', _, _, _, _⟩ := S11.out.only q12 (by simp)
        obtain ⟨b0, b1, b2, b3, _, _, _, _⟩ := S12.out
        have HS := rsame_any (cap := vc) (bap := vc') ((TS.of_owns how11.out).1.only (((Only.refl [] w11).alloc (.cells #[.slice vo c6.length vc, .bool d6, .int .i64 e6, .string (str f6)] 43)).next q12 (by simp)) (by simp)) ((TS.of_owns hown12).1.only ((Only.refl [] w12).alloc (.cells #[.slice vo' c6.length vc', .bool d6, .int .i64 e6, .string (str f6)] 43)) (by simp)) (by have := hown12.1; rw [tcs_length] at this; have := (TS.of_owns hown12).2.1; have := (TS.of_owns hown12).2.2.1; simp only [maxLen] at this; omega) d6 d6 (e6, f6) (e6, f6)
        rw [same_self] at HS
        simp only [sigV] at HS
        replace HS := hid HS
        clear K6 p11 hown12 ho12 S11 S12 how11 q12
        go_wp2_with (go_at_call 22; with_reducible refine HS.out.mono ?_; rintro e w13 ⟨rfl, ho13⟩)
        exact ⟨⟨j + 1, by omega, by go_num, p12.out.next ho13 (by simp)⟩, by simp [intOf]; omega⟩
      · have g2 : ¬ ((j : Int) < (l.length : Int)) := by omega
        clear hall H1 H3 H5 H6 G1 G3 G5 G6
        replace GC := GC.out wr dd (hES.out wr hor)
        generalize checkE (l ++ m) = Y at *
        obtain ⟨yi, ye⟩ := Y
        simp only at *
        replace GC := hid GC
        rcases hck.out with h | h
        · simp only [Prod.mk.injEq] at h
          obtain ⟨rfl, rfl⟩ := h
          clear hck
          go_wp2_with (go_at_call 10; refine GC.out.mono ?_; rintro e w5 ⟨rfl, ho5⟩)
          go_ret
          exact ⟨by simp, how.out.next ho5 (by simp)⟩
        · clear hck
          go_wp2_with (go_at_call 10; refine GC.out.mono ?_; rintro e w5 ⟨rfl, ho5⟩)
          all_goals
            go_ret
            exact ⟨by simp [*], how.out.next ho5 (by simp)⟩
  · have g3 : (xe == 0) = false := by simpa using hx
    clear hall hx hE hM
    go_enter Try.func7, Try.ntmps7
    go_wp2_with (first | (go_at_call 9; refine HK.out.mono ?_; rintro e w1 ⟨rfl, ho1⟩) | fail)
    refine (HC.out _ ho1).mono ?_
    rintro e w2 ⟨rfl, ho2⟩
    go_wp2
    go_ret
    exact ⟨rfl, ho1.next ho2 (by simp)⟩

theorem behind_walk {w : World} {ao bo : Option Addr} {l m : List En} {d k cap bap : Nat} (hE : ES w ao l d) (hn : ao = none → cap = 0) (hl : l.length ≤ 9223372036854775807) (hA : ∀ e ∈ l, e.2.1.length ≤ 9223372036854775807)
    (hM : ES w bo m k) (hmn : bo = none → bap = 0) (hml : m.length ≤ 9223372036854775807) (hmA : ∀ e ∈ m, e.2.1.length ≤ 9223372036854775807) :
    Calls Try.prog 7 #[.slice ao l.length cap, .slice bo m.length bap] w fun e w' => e = .returned (.bool true) ∧ Below w.heap.size w w' :=
  (behind_any hE hn hl hA hM hmn hml hmA).mono fun _ _ h => ⟨h.1, h.2.below (Nat.le_refl _) (by simp)⟩

end Go.Proofs.Ytcdjddakdlflmaa
