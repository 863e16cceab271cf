/-
  The walk of DescParts: it answers true of whatever signature, and writes nothing that was there. No conditions.
-/
import Derived.Test.YtfpdgfgbonbpjabDCls
import Derived.Test.YtfpdgfgbonbpjabDBack
import Derived.Deep.RegionHeld3
namespace Go.Proofs.Ytfpdgfgbonbpjab
open Go.RowKit

theorem cl_mem (l : List Ty) (k : Nat) : ∀ n ∈ clTo l k, n ≠ [] ∧ ∃ t ∈ l, t.2 = n := by
  induction k with
  | zero => simp [clTo]
  | succ k ih =>
    by_cases h : k < l.length
    · rw [clTo_succ l k h]
      unfold clAdd
      split
      · exact ih
      · rename_i hn
        intro n hm
        simp at hm
        rcases hm with hm | hm
        · exact ih n hm
        · subst hm
          exact ⟨fun e => hn (.inl e), l[k], List.getElem_mem h, rfl⟩
    · have : clTo l (k + 1) = clTo l k := by
        unfold clTo
        rw [List.take_of_length_le (by omega), List.take_of_length_le (by omega)]
      rw [this]
      exact ih

theorem cl_nodup (l : List Ty) (k : Nat) : (clTo l k).Nodup := by
  induction k with
  | zero => simp [clTo]
  | succ k ih =>
    by_cases h : k < l.length
    · rw [clTo_succ l k h]
      unfold clAdd
      split
      · exact ih
      · rename_i hn
        rw [List.nodup_append]
        refine ⟨ih, by simp, ?_⟩
        intro a ha b hb
        simp at hb
        subst hb
        intro e
        subst e
        exact hn (.inr ha)
    · have : clTo l (k + 1) = clTo l k := by
        unfold clTo
        rw [List.take_of_length_le (by omega), List.take_of_length_le (by omega)]
      rw [this]
      exact ih

theorem only_grown0 {z a b : World} {v : Value} {l : List Ty} (ho : Only [] z a) (h : Own a z.heap.size v l) (hg : a.grownBy b v.ownBlock) : Only [] z b := by
  refine ho.trans (Only.of_grown hg) fun x hx => .inr ?_
  cases hv : v.ownBlock with
  | none => rw [hv] at hx; simp at hx
  | some y =>
    rw [hv] at hx
    simp at hx
    subst hx
    exact (h.lt x hv).1

theorem ownS_slice {w : World} {B : Nat} {v : Value} {l : List (List UInt8)} (h : OwnS w B v l) : ∃ vo vc, v = .slice vo l.length vc := by
  rcases h.2 with ⟨h1, h2⟩ | ⟨g, cap', _, h1, _⟩
  · exact ⟨none, 0, by rw [h1, h2]⟩
  · exact ⟨_, _, h1⟩

/-- Names that are read. -/
def SS (w : World) (vo : Option Addr) (l : List (List UInt8)) : Prop := l = [] ∨ ∃ g, vo = some ⟨g, 0, none⟩ ∧ ∀ j (h : j < l.length), w.cell? ⟨g, j, none⟩ = some (.string (str l[j]))

theorem SS.only {w w' : World} {vo : Option Addr} {l : List (List UInt8)} (h : SS w vo l) (ho : Only [] w w') : SS w' vo l := by
  rcases h with h | ⟨g, h1, h2⟩
  · exact .inl h
  · exact .inr ⟨g, h1, fun j hj => by rw [ho.cell (World.block_lt_of_cell? w _ (h2 j hj)) (by simp)]; exact h2 j hj⟩

theorem SS.of_own {w : World} {B : Nat} {vo : Option Addr} {vc : Nat} {l : List (List UInt8)} (h : OwnS w B (.slice vo l.length vc) l) : SS w vo l := by
  rcases h.2 with ⟨h1, h2⟩ | ⟨g, cap', cur, h1, _⟩
  · exact .inl (List.eq_nil_of_length_eq_zero h2)
  · simp at h1
    obtain ⟨rfl, rfl⟩ := h1
    refine .inr ⟨g, rfl, fun j hj => ?_⟩
    rw [h.cellAt j (by omega)]
    simp [scs, hj]

/-- append, as a step of a region that draws its order. -/
theorem step_append_types {w : World} {ops : Array Oper} {o : Oper} {a : Act} {K : Act → World → Prop} {Q : Exit → Act → World → Prop} {E : Prop} (hg : o.guard = none) (s x : Operand)
    (hop : o.op = .call { callee := .builtin .append, args := #[s, x], argTypes := #[22, 22] })
    {B : Nat} {ao lao : Option Addr} {cap lcap d : Nat} {m l : List Ty} (hs : a.eval s = .slice ao m.length cap) (hx : a.eval x = .slice lao l.length lcap) (hown : Own w B (.slice ao m.length cap) m) (hb : TS w lao l d) (hl : lao = none → lcap = 0)
    (hsz : m.length + l.length ≤ 1000) (hB : B ≤ w.heap.size)
    (h : ∀ ao' cap' w', Own w' B (.slice ao' (m ++ l).length cap') (m ++ l) → w.grownBy w' (Value.ownBlock (.slice ao m.length cap)) → K (a.put o.dst (.slice ao' (m ++ l).length cap')) w') : if Region.wanted o (yielded ops a.tmps) = true then Oper.wp Try.prog o a w K Q else E := by
  have hw : Region.wanted o (yielded ops a.tmps) = true := by simp [Region.wanted, hg]
  rw [if_pos hw]
  obtain ⟨ao', cap', w', hr, h1, h2, h3, h4⟩ := append_run o.type hown hb hl (by omega) hB
  unfold Oper.wp execOp
  simp only [hop, resolve, invoke, builtin, Sem.run_bind, Sem.run_pure, Result.andThen_ok, List.map_toArray, List.map_cons, List.map_nil, hs, hx, hr]
  exact h ao' cap' w' h1 h2

set_option maxHeartbeats 1000000 in
set_option maxRecDepth 100000 in
theorem parts_walk {w : World} {ao : Option Addr} {cap : Nat} {l : List Ty} {k : Nat} (hT : TS w ao l k) (hz : l.length ≤ 9223372036854775807) (hn : ao = none → cap = 0) (hA : ∀ t ∈ l, t.2.length ≤ 9223372036854775807) (v : Bool) {s : Ty} (hs : s.2.length ≤ 9223372036854775807) :
    Calls Try.prog 3 #[sigV (.slice ao l.length cap) v s] w fun e w' => e = .returned (.bool true) ∧ Below w.heap.size w w' := by
  obtain ⟨sd, sn⟩ := s
  simp only [sigV]
  have o0 := (Only.refl [] w).alloc (.cells #[.slice ao l.length cap, .bool v, .int .i64 sd, .string (str sn)] 26)
  have SG := sig_new w (.slice ao l.length cap) v sd sn
  have K0 := hid (keep_sig (Only.refl [] _) ⟨SG.c0, SG.c1, SG.c2, SG.c3, o0⟩)
  clear SG
  go_enter Try.func3, Try.ntmps3
  go_wp2_with fail
  refine (known_any _).mono ?_
  rintro e w1 ⟨rfl, ho1⟩
  obtain ⟨c0, c1, c2, c3, o1⟩ := keep_sig ho1 K0.out
  have HF := few_any ao l.length cap v (sd, sn) w1
  simp only [sigV] at HF
  by_cases hf1 : l.length < 100
  · rw [decide_eq_true hf1] at HF
    replace HF := hid HF
    go_wp2_with fail
    refine HF.out.mono ?_
    rintro e w2 ⟨rfl, ho2⟩
    obtain ⟨c0, c1, c2, c3, o2⟩ := keep_sig ho2 ⟨c0, c1, c2, c3, o1⟩
    have H1 := sigText_any (cap := cap) (hT.only o2 (by simp)) hz hA v (sd, sn) hs
    simp only [sigV] at H1
    by_cases he : sigCheck l v (sd, sn) = 0
    · have e1 : stR l v (sd, sn) = sigText l v (sd, sn) := by simp [stR, he]
      obtain ⟨h16, hall, hst, hvt⟩ := sigCheck_ok he
      rw [e1, he] at H1
      replace H1 := hid H1
      clear e1 he
      have hfit := fits_len l fun x hx => check_fit (hall x hx)
      have hft := fit_len (check_fit hst)
      go_wp2_with fail
      refine H1.out.mono ?_
      rintro e w3 ⟨rfl, ho3⟩
      obtain ⟨c0, c1, c2, c3, o3⟩ := keep_sig ho3 ⟨c0, c1, c2, c3, o2⟩
      go_wp2
      go_loopw [5, 6] (fun t i wr => ∃ j : Nat, j ≤ l.length ∧ i = .int .i64 (j : Int) ∧ t = .string (str (40 :: tyTexts (l.take j))) ∧ wr.cell? ⟨w.heap.size, 0, none⟩ = some (.slice ao l.length cap) ∧ wr.cell? ⟨w.heap.size, 1, none⟩ = some (.bool v) ∧ wr.cell? ⟨w.heap.size, 2, none⟩ = some (.int .i64 sd) ∧ wr.cell? ⟨w.heap.size, 3, none⟩ = some (.string (str sn)) ∧ Only [] w wr) (fun _ i _ => l.length - (intOf i).toNat)
      case atStart => exact ⟨0, by omega, rfl, rfl, c0, c1, c2, c3, o3⟩
      case round =>
        clear c0 c1 c2 c3 o1 o2 o3
        obtain ⟨j, hj, rfl, rfl, c0, c1, c2, c3, hor⟩ := hrel
        by_cases hlt : j < l.length
        · have g2 : ((j : Int) < (l.length : Int)) := by omega
          have hne : l ≠ [] := by intro e; simp [e] at hlt
          rcases hT.only hor (by simp) with h | ⟨off, rfl, hc⟩
          · exact absurd h hne
          obtain ⟨y0, y1⟩ := hc j hlt
          clear hc
          have htk : tyTexts (l.take (j + 1)) = tyTexts (l.take j) ++ tyText l[j] := by
            rw [List.take_succ_eq_append_getElem hlt, tyTexts_append]
            simp [tyTexts]
          have hlen := fits_len (l.take j) fun t ht => check_fit (hall t (List.mem_of_mem_take ht))
          have hck := hall l[j] (List.getElem_mem hlt)
          have hln := hA l[j] (List.getElem_mem hlt)
          generalize l[j] = t at *
          obtain ⟨d0, nm⟩ := t
          have HC := typeText_any (d0, nm) hln wr
          have e1 : ttR (d0, nm) = tyText (d0, nm) := by simp [ttR, hck]
          have hft2 := fit_len (check_fit hck)
          rw [hck, e1] at HC
          simp only [tyV] at HC y0 y1
          replace HC := hid HC
          have hlk : (l.take j).length ≤ 16 := by simp; omega
          have hcat : ∀ w, (Op.stringOp .add (str (40 :: tyTexts (l.take j))) (str (tyText (d0, nm)))).run Try.prog w = .ok (.string (str (40 :: tyTexts (l.take (j + 1))))) w := fun w => by
            have := run_cat (40 :: tyTexts (l.take j)) (tyText (d0, nm)) (by simp; omega) w
            rw [htk]
            exact this
          clear hck e1 htk hlk hlen hft2 hln
          generalize tyTexts (l.take j) = u at *
          generalize hv : tyTexts (l.take (j + 1)) = u2 at *
          generalize tyText (d0, nm) = u3 at *
          replace hv := hid hv
          go_wp2_with fail
          refine HC.out.mono ?_
          rintro e w4 ⟨rfl, ho4⟩
          go_wp2
          exact ⟨⟨j + 1, by omega, by go_num, by rw [hv.out], keep_sig ho4 ⟨c0, c1, c2, c3, hor⟩⟩, by simp [intOf]; omega⟩
        · have g2 : ¬ ((j : Int) < (l.length : Int)) := by omega
          obtain rfl : j = l.length := by omega
          rw [List.take_of_length_le (Nat.le_refl _)]
          have k2 : ∀ w, (Op.stringOp .add (str (40 :: tyTexts l)) ⟨#[41]⟩).run Try.prog w = .ok (.string (str (40 :: (tyTexts l ++ [41])))) w := fun w => run_cat (40 :: tyTexts l) [41] (by simp; omega) w
          go_upto_if 52 with fail
          go_cut [5] (fun s5 wx => s5 = .string (str (sigText l v (sd, sn))) ∧ wx.cell? ⟨w.heap.size, 0, none⟩ = some (.slice ao l.length cap) ∧ wx.cell? ⟨w.heap.size, 1, none⟩ = some (.bool v) ∧ wx.cell? ⟨w.heap.size, 2, none⟩ = some (.int .i64 sd) ∧ wx.cell? ⟨w.heap.size, 3, none⟩ = some (.string (str sn)) ∧ Only [] w wx)
          case first =>
            cases v with
            | true =>
              have k3 : ∀ w, (Op.stringOp .add (str (40 :: (tyTexts l ++ [41]))) ⟨#[86]⟩).run Try.prog w = .ok (.string (str (sigText l true (sd, sn)))) w := fun w => by
                have := run_cat (40 :: (tyTexts l ++ [41])) [86] (by simp; omega) w
                simp only [List.cons_append, List.append_assoc, List.nil_append] at this
                exact this
              clear k2
              generalize 40 :: (tyTexts l ++ [41]) = u at *
              generalize sigText l true (sd, sn) = u2 at *
              go_wp2_with fail
              go_meet
              exact ⟨rfl, c0, c1, c2, c3, hor⟩
            | false =>
              have HC := typeText_any (sd, sn) hs wr
              have e1 : ttR (sd, sn) = tyText (sd, sn) := by simp [ttR, hst]
              rw [hst, e1] at HC
              simp only [tyV] at HC
              replace HC := hid HC
              have k3 : ∀ w, (Op.stringOp .add (str (40 :: (tyTexts l ++ [41]))) (str (tyText (sd, sn)))).run Try.prog w = .ok (.string (str (sigText l false (sd, sn)))) w := fun w => by
                have := run_cat (40 :: (tyTexts l ++ [41])) (tyText (sd, sn)) (by simp; omega) w
                simp only [List.cons_append, List.append_assoc, List.nil_append] at this
                exact this
              clear k2 e1
              generalize 40 :: (tyTexts l ++ [41]) = u at *
              generalize sigText l false (sd, sn) = u2 at *
              generalize tyText (sd, sn) = u3 at *
              go_wp2_with fail
              refine HC.out.mono ?_
              rintro e w4 ⟨rfl, ho4⟩
              go_wp2_with fail
              go_meet
              obtain ⟨d0, d1, d2, d3, o4⟩ := keep_sig ho4 ⟨c0, c1, c2, c3, hor⟩
              exact ⟨rfl, d0, d1, d2, d3, o4⟩
          case rest =>
            clear c0 c1 c2 c3 hor
            obtain ⟨rfl, c0, c1, c2, c3, hor⟩ := hcut
            have hA9 : ∀ t ∈ l ++ [(sd, sn)], t.2.length ≤ 9223372036854775807 := by
              intro x hx
              rcases List.mem_append.1 hx with h | h
              · exact hA x h
              · rw [List.mem_singleton.1 h]
                exact hs
            go_upto_region 23 with fail
            go_cut [11] (fun s11 wx => (∃ vo vc, s11 = .slice vo (clTo (l ++ [(sd, sn)]) (l.length + 1)).length vc ∧ OwnS wx 0 (.slice vo (clTo (l ++ [(sd, sn)]) (l.length + 1)).length vc) (clTo (l ++ [(sd, sn)]) (l.length + 1))) ∧ wx.cell? ⟨w.heap.size, 0, none⟩ = some (.slice ao l.length cap) ∧ Only [] w wx)
            case first =>
              refine wp_region_held_drew (S := (fun w' => w'.cell? ⟨w.heap.size, 0, none⟩ = some (.slice ao l.length cap) ∧ w'.cell? ⟨w.heap.size, 1, none⟩ = some (.bool v) ∧ w'.cell? ⟨w.heap.size, 2, none⟩ = some (.int .i64 sd) ∧ w'.cell? ⟨w.heap.size, 3, none⟩ = some (.string (str sn)) ∧ Only [] w w')) (by kernel_rfl) ?hSb (fun hHeld => ?restb)
              case hSb => exact ⟨c0, c1, c2, c3, hor.drew⟩
              refine wpAnyH_take (i := 1) (v := ?v101) rfl (by kernel_rfl) (by kernel_rfl) (by kernel_rfl) (fun _ _ _ h => h) (Or.inl ⟨by kernel_rfl, ?hy101⟩) (by assumption) ?rest101
              case hy101 =>
                intro w hSw
                try dsimp only at hSw
                go_simp
                try with_reducible rfl
              refine wpAnyH_take (i := 2) (v := ?v102) rfl (by kernel_rfl) (by kernel_rfl) (by kernel_rfl) (fun _ _ _ h => h) (Or.inl ⟨by kernel_rfl, ?hy102⟩) (by assumption) ?rest102
              case hy102 =>
                intro w hSw
                try dsimp only at hSw
                go_simp
                try with_reducible rfl
              refine wpAnyH_take (i := 4) (v := ?v103) rfl (by kernel_rfl) (by kernel_rfl) (by kernel_rfl) (fun _ _ _ h => h) (Or.inl ⟨by kernel_rfl, ?hy103⟩) (by assumption) ?rest103
              case hy103 =>
                intro w hSw
                try dsimp only at hSw
                go_simp
                try with_reducible rfl
              refine wpAnyH_take (i := 5) (v := ?v104) rfl (by kernel_rfl) (by kernel_rfl) (by kernel_rfl) (fun _ _ _ h => h) (Or.inl ⟨by kernel_rfl, ?hy104⟩) (by assumption) ?rest104
              case hy104 =>
                intro w hSw
                try dsimp only at hSw
                go_simp
                try with_reducible rfl
              refine wpAnyH_ready (rs := [0, 6]) (by kernel_rfl) (by simp) ?_
              refine AllReadyH.cons rfl (fun K hK => ?_) (AllReadyH.cons rfl (fun K hK => ?_) AllReadyH.nil)
              · go_simp
                refine hK.out _ _ ?hS105 (fun hHeld => ?rest105)
                case hS105 => exact keep_sig (((Only.refl [] wc).alloc (.cells #[] 24)).drew) ⟨c0, c1, c2, c3, hor⟩
                clear hK K
                refine wpAnyH_ready (rs := [3, 6]) (by kernel_rfl) (by simp) ?_
                refine AllReadyH.cons rfl (fun K hK => ?_) (AllReadyH.cons rfl (fun K hK => ?_) AllReadyH.nil)
                · refine step_append_types rfl (.tmp 66) (.tmp 68) rfl rfl rfl (own_made wc).drew (hT.only (hor.next ((Only.refl [] wc).alloc (.cells #[] 24)).drew (by simp)) (by simp)) hn (by simp; omega) (by simp) ?_
                  intro ao4 cap4 w4 own4 hg4
                  have ho4 : Only [] wc w4 := ((Only.refl [] wc).alloc (.cells #[] 24)).drew.trans (Only.of_grown hg4) (by simp [Value.ownBlock])
                  replace own4 : Own w4 wc.heap.size (.slice ao4 l.length cap4) l := own4
                  refine hK.out _ _ ?hS106 (fun hHeld => ?rest106)
                  case hS106 => exact keep_sig (ho4) ⟨c0, c1, c2, c3, hor⟩
                  clear hK K
                  refine wpAnyH_ready (rs := [6]) (by kernel_rfl) (by simp) ?_
                  refine AllReadyH.cons rfl (fun K hK => ?_) AllReadyH.nil
                  go_simp
                  refine hK.out _ _ ?hS107 (fun hHeld => ?rest107)
                  case hS107 => exact keep_sig (ho4.alloc (.cells #[.int .i64 sd, .string (str sn)] 24)) ⟨c0, c1, c2, c3, hor⟩
                  clear hK K
                  refine wpAnyH_ready (rs := [7]) (by kernel_rfl) (by simp) ?_
                  refine AllReadyH.cons rfl (fun K hK => ?_) AllReadyH.nil
                  refine step_append_types (m := l) (l := [(sd, sn)]) rfl (.tmp 69) (.tmp 72) rfl rfl rfl (own_only own4 ((Only.refl [] w4).alloc (.cells #[.int .i64 sd, .string (str sn)] 24)) (by simp)) (ts_one w4 (sd, sn) 24) (by simp) (by simp; omega) (by have := ho4.size; simp; omega) ?_
                  intro ao5 cap5 w5 own5 hg5
                  have ho5 : Only [] wc w5 := only_grown ho4 own4 hg5
                  refine hK.out _ _ ?hS108 (fun hHeld => ?rest108)
                  case hS108 => exact keep_sig (ho5) ⟨c0, c1, c2, c3, hor⟩
                  clear hK K
                  refine wpAnyH_ready (rs := [8]) (by kernel_rfl) (by simp) ?_
                  refine AllReadyH.cons rfl (fun K hK => ?_) AllReadyH.nil
                  go_simp
                  have hl5 : (l ++ [(sd, sn)]).length = l.length + 1 := by simp
                  have HK := classes_any (cap := cap5) (TS.of_owns own5).1 (by rw [hl5]; omega) hA9
                  rw [hl5] at HK
                  replace HK := hid HK
                  with_reducible refine HK.out.mono ?_
                  rintro e x5 ⟨vv, rfl, ownc, hox⟩
                  have hoz := ho5.next hox (by simp)
                  go_wp2_with fail
                  refine hK.out _ _ ?hS110 (fun hHeld => ?rest110)
                  case hS110 => exact keep_sig (hoz) ⟨c0, c1, c2, c3, hor⟩
                  clear hK K
                  refine wpAnyH_take (i := 9) (v := ?v111) rfl (by kernel_rfl) (by kernel_rfl) (by kernel_rfl) (fun _ _ _ h => h) (Or.inl ⟨by kernel_rfl, ?hy111⟩) (by assumption) ?rest111
                  case hy111 =>
                    intro w hSw
                    try dsimp only at hSw
                    go_simp
                    try with_reducible rfl
                  refine wpAnyH_done (by kernel_rfl) ?_ _
                  obtain ⟨d0, d1, d2, d3, oz⟩ := hHeld
                  obtain ⟨vo, vc, rfl⟩ := ownS_slice ownc
                  go_wp2_with fail
                  go_meet
                  exact ⟨⟨vo, vc, rfl, ownS_mono ownc (Nat.zero_le _)⟩, d0, oz⟩
                · go_simp
                  refine hK.out _ _ ?hS112 (fun hHeld => ?rest112)
                  case hS112 => exact keep_sig ((((Only.refl [] wc).alloc (.cells #[] 24)).alloc (.cells #[.int .i64 sd, .string (str sn)] 24)).drew) ⟨c0, c1, c2, c3, hor⟩
                  clear hK K
                  refine wpAnyH_ready (rs := [3]) (by kernel_rfl) (by simp) ?_
                  refine AllReadyH.cons rfl (fun K hK => ?_) AllReadyH.nil
                  refine step_append_types rfl (.tmp 66) (.tmp 68) rfl rfl rfl (own_only (own_made wc) ((Only.refl [] (wc.alloc (.cells #[] 24))).alloc (.cells #[.int .i64 sd, .string (str sn)] 24)).drew (by simp)) (hT.only (hor.next (((Only.refl [] wc).alloc (.cells #[] 24)).alloc (.cells #[.int .i64 sd, .string (str sn)] 24)).drew (by simp)) (by simp)) hn (by simp; omega) (by simp; omega) ?_
                  intro ao4 cap4 w4 own4 hg4
                  have qg := Only.of_grown hg4
                  have ho4 : Only [] wc w4 := (((Only.refl [] wc).alloc (.cells #[] 24)).alloc (.cells #[.int .i64 sd, .string (str sn)] 24)).drew.trans qg (by simp [Value.ownBlock])
                  replace own4 : Own w4 wc.heap.size (.slice ao4 l.length cap4) l := own4
                  have tst := ((ts_one (wc.alloc (.cells #[] 24)) (sd, sn) 24).only (Only.refl [] _).drew (by simp)).only qg (by simp [Value.ownBlock])
                  rw [World.size_alloc] at tst
                  refine hK.out _ _ ?hS113 (fun hHeld => ?rest113)
                  case hS113 => exact keep_sig (ho4) ⟨c0, c1, c2, c3, hor⟩
                  clear hK K
                  refine wpAnyH_ready (rs := [7]) (by kernel_rfl) (by simp) ?_
                  refine AllReadyH.cons rfl (fun K hK => ?_) AllReadyH.nil
                  refine step_append_types (m := l) (l := [(sd, sn)]) rfl (.tmp 69) (.tmp 72) rfl rfl rfl own4 tst (by simp) (by simp; omega) (by have := ho4.size; omega) ?_
                  intro ao5 cap5 w5 own5 hg5
                  have ho5 : Only [] wc w5 := only_grown0 ho4 own4 hg5
                  refine hK.out _ _ ?hS114 (fun hHeld => ?rest114)
                  case hS114 => exact keep_sig (ho5) ⟨c0, c1, c2, c3, hor⟩
                  clear hK K
                  refine wpAnyH_ready (rs := [8]) (by kernel_rfl) (by simp) ?_
                  refine AllReadyH.cons rfl (fun K hK => ?_) AllReadyH.nil
                  go_simp
                  have hl5 : (l ++ [(sd, sn)]).length = l.length + 1 := by simp
                  have HK := classes_any (cap := cap5) (TS.of_owns own5).1 (by rw [hl5]; omega) hA9
                  rw [hl5] at HK
                  replace HK := hid HK
                  with_reducible refine HK.out.mono ?_
                  rintro e x5 ⟨vv, rfl, ownc, hox⟩
                  have hoz := ho5.next hox (by simp)
                  go_wp2_with fail
                  refine hK.out _ _ ?hS116 (fun hHeld => ?rest116)
                  case hS116 => exact keep_sig (hoz) ⟨c0, c1, c2, c3, hor⟩
                  clear hK K
                  refine wpAnyH_take (i := 9) (v := ?v117) rfl (by kernel_rfl) (by kernel_rfl) (by kernel_rfl) (fun _ _ _ h => h) (Or.inl ⟨by kernel_rfl, ?hy117⟩) (by assumption) ?rest117
                  case hy117 =>
                    intro w hSw
                    try dsimp only at hSw
                    go_simp
                    try with_reducible rfl
                  refine wpAnyH_done (by kernel_rfl) ?_ _
                  obtain ⟨d0, d1, d2, d3, oz⟩ := hHeld
                  obtain ⟨vo, vc, rfl⟩ := ownS_slice ownc
                  go_wp2_with fail
                  go_meet
                  exact ⟨⟨vo, vc, rfl, ownS_mono ownc (Nat.zero_le _)⟩, d0, oz⟩
              · go_simp
                refine hK.out _ _ ?hS118 (fun hHeld => ?rest118)
                case hS118 => exact keep_sig (((Only.refl [] wc).alloc (.cells #[.int .i64 sd, .string (str sn)] 24)).drew) ⟨c0, c1, c2, c3, hor⟩
                clear hK K
                refine wpAnyH_ready (rs := [0]) (by kernel_rfl) (by simp) ?_
                refine AllReadyH.cons rfl (fun K hK => ?_) AllReadyH.nil
                go_simp
                refine hK.out _ _ ?hS119 (fun hHeld => ?rest119)
                case hS119 => exact keep_sig ((((Only.refl [] wc).alloc (.cells #[.int .i64 sd, .string (str sn)] 24)).alloc (.cells #[] 24)).drew) ⟨c0, c1, c2, c3, hor⟩
                clear hK K
                refine wpAnyH_ready (rs := [3]) (by kernel_rfl) (by simp) ?_
                refine AllReadyH.cons rfl (fun K hK => ?_) AllReadyH.nil
                have om := (own_made (wc.alloc (.cells #[.int .i64 sd, .string (str sn)] 24))).drew
                rw [World.size_alloc] at om
                refine step_append_types rfl (.tmp 66) (.tmp 68) rfl rfl rfl om (hT.only (hor.next (((Only.refl [] wc).alloc (.cells #[.int .i64 sd, .string (str sn)] 24)).alloc (.cells #[] 24)).drew (by simp)) (by simp)) hn (by simp; omega) (by simp) ?_
                intro ao4 cap4 w4 own4 hg4
                have qg := Only.of_grown hg4
                have ho4 : Only [] wc w4 := (((Only.refl [] wc).alloc (.cells #[.int .i64 sd, .string (str sn)] 24)).alloc (.cells #[] 24)).drew.trans qg (by simp [Value.ownBlock])
                replace own4 : Own w4 (wc.heap.size + 1) (.slice ao4 l.length cap4) l := own4
                have tst := (((ts_one wc (sd, sn) 24).only ((Only.refl [] _).alloc (.cells #[] 24)) (by simp)).only (Only.refl [] _).drew (by simp)).only qg (by simp [Value.ownBlock])
                refine hK.out _ _ ?hS120 (fun hHeld => ?rest120)
                case hS120 => exact keep_sig (ho4) ⟨c0, c1, c2, c3, hor⟩
                clear hK K
                refine wpAnyH_ready (rs := [7]) (by kernel_rfl) (by simp) ?_
                refine AllReadyH.cons rfl (fun K hK => ?_) AllReadyH.nil
                refine step_append_types (m := l) (l := [(sd, sn)]) rfl (.tmp 69) (.tmp 72) rfl rfl rfl own4 tst (by simp) (by simp; omega) (by have := qg.size; simp at this; omega) ?_
                intro ao5 cap5 w5 own5 hg5
                have ho5 : Only [] wc w5 := only_grown0 ho4 (own_mono own4 (by omega)) hg5
                refine hK.out _ _ ?hS121 (fun hHeld => ?rest121)
                case hS121 => exact keep_sig (ho5) ⟨c0, c1, c2, c3, hor⟩
                clear hK K
                refine wpAnyH_ready (rs := [8]) (by kernel_rfl) (by simp) ?_
                refine AllReadyH.cons rfl (fun K hK => ?_) AllReadyH.nil
                go_simp
                have hl5 : (l ++ [(sd, sn)]).length = l.length + 1 := by simp
                have HK := classes_any (cap := cap5) (TS.of_owns own5).1 (by rw [hl5]; omega) hA9
                rw [hl5] at HK
                replace HK := hid HK
                with_reducible refine HK.out.mono ?_
                rintro e x5 ⟨vv, rfl, ownc, hox⟩
                have hoz := ho5.next hox (by simp)
                go_wp2_with fail
                refine hK.out _ _ ?hS123 (fun hHeld => ?rest123)
                case hS123 => exact keep_sig (hoz) ⟨c0, c1, c2, c3, hor⟩
                clear hK K
                refine wpAnyH_take (i := 9) (v := ?v124) rfl (by kernel_rfl) (by kernel_rfl) (by kernel_rfl) (fun _ _ _ h => h) (Or.inl ⟨by kernel_rfl, ?hy124⟩) (by assumption) ?rest124
                case hy124 =>
                  intro w hSw
                  try dsimp only at hSw
                  go_simp
                  try with_reducible rfl
                refine wpAnyH_done (by kernel_rfl) ?_ _
                obtain ⟨d0, d1, d2, d3, oz⟩ := hHeld
                obtain ⟨vo, vc, rfl⟩ := ownS_slice ownc
                go_wp2_with fail
                go_meet
                exact ⟨⟨vo, vc, rfl, ownS_mono ownc (Nat.zero_le _)⟩, d0, oz⟩
            case rest =>
              clear c0 c1 c2 c3 hor
              obtain ⟨⟨vo, vc, rfl, ownc⟩, c0, hor⟩ := hcut
              have hnd := cl_nodup (l ++ [(sd, sn)]) (l.length + 1)
              have hmm := cl_mem (l ++ [(sd, sn)]) (l.length + 1)
              have hle := clTo_le (l ++ [(sd, sn)]) (l.length + 1)
              have hSS := SS.of_own ownc
              have hnm : ∀ n ∈ clTo (l ++ [(sd, sn)]) (l.length + 1), nameOK n = true := by
                intro n hn
                obtain ⟨h1, x, hx, h2⟩ := hmm n hn
                have hck : tyCheck x = 0 := by
                  rcases List.mem_append.1 hx with h | h
                  · exact hall x h
                  · rw [List.mem_singleton.1 h]
                    exact hst
                rcases check_name hck with h | h
                · rw [h2] at h
                  exact absurd h h1
                · rw [← h2]
                  exact h
              clear ownc hmm hA9
              generalize clTo (l ++ [(sd, sn)]) (l.length + 1) = cl at *
              replace hnd := hid hnd
              replace hnm := hid hnm
              have htl := str_toList (sigText l v (sd, sn))
              generalize sigText l v (sd, sn) = tx at *
              go_wp2
              go_loopw [12] (fun i wr => ∃ j : Nat, j ≤ cl.length ∧ i = .int .i64 (j : Int) ∧ SS wr vo cl ∧ wr.cell? ⟨w.heap.size, 0, none⟩ = some (.slice ao l.length cap) ∧ Only [] w wr) (fun i _ => cl.length - (intOf i).toNat)
              case atStart => exact ⟨0, by omega, rfl, hSS, c0, hor⟩
              case round =>
                clear hSS c0 hor
                obtain ⟨j, hj, rfl, hSS, c0, hor⟩ := hrel
                by_cases hlt : j < cl.length
                · have g2 : ((j : Int) < (cl.length : Int)) := by omega
                  have hne : cl ≠ [] := by intro e; simp [e] at hlt
                  obtain ⟨g, rfl⟩ : ∃ g, vo = some ⟨g, 0, none⟩ := by
                    rcases hSS with h | ⟨g, h, _⟩
                    · exact absurd h hne
                    · exact ⟨g, h⟩
                  go_wp2
                  go_loopw [13] (fun i wx => ∃ q : Nat, q ≤ j ∧ i = .int .i64 (q : Int) ∧ SS wx (some ⟨g, 0, none⟩) cl ∧ wx.cell? ⟨w.heap.size, 0, none⟩ = some (.slice ao l.length cap) ∧ Only [] w wx) (fun i _ => j - (intOf i).toNat)
                  case atStart => exact ⟨0, by omega, rfl, hSS, c0, hor⟩
                  case round =>
                    clear hSS c0 hor
                    obtain ⟨q, hq, rfl, hSS, c0, hor⟩ := hrel
                    have hcells := hSS
                    rcases hcells with h | ⟨g', hg', hcells⟩
                    · exact absurd h hne
                    simp at hg'
                    subst hg'
                    have yj := hcells j hlt
                    replace hSS := hid hSS
                    by_cases hql : q < j
                    · have g4 : ((q : Int) < (j : Int)) := by omega
                      have yq := hcells q (by omega)
                      have hdf : (cl[j] == cl[q]'(by omega)) = false := by
                        rw [beq_eq_false_iff_ne]
                        intro e
                        have := (List.getElem_inj hnd.out).1 e
                        omega
                      clear hcells
                      have tj := str_toList cl[j]
                      have tq := str_toList (cl[q]'(by omega))
                      generalize cl[j] = nj at *
                      generalize cl[q]'(by omega) = nq at *
                      have gq1 : ((q : Int) < (cl.length : Int)) := by omega
                      go_wp2_with fail
                      go_region
                      go_wp2
                      exact ⟨⟨q + 1, by omega, by go_num, hSS.out.only (Only.refl [] _).drew, c0, hor.drew⟩, by simp [intOf]; omega⟩
                    · have g4 : ¬ ((q : Int) < (j : Int)) := by omega
                      have hnj := hnm.out cl[j] (List.getElem_mem hlt)
                      clear hcells
                      have HN := fun W => name_any cl[j] (by have := name_len hnj; omega) W
                      rw [hnj] at HN
                      clear hnj
                      generalize cl[j] = nj at *
                      replace HN := hid HN
                      go_wp2_with fail
                      refine (HN.out _).mono ?_
                      rintro e w5 ⟨rfl, rfl⟩
                      go_wp2
                      exact ⟨⟨j + 1, by omega, by go_num, hSS.out, c0, hor⟩, by simp [intOf]; omega⟩
                · have g2 : ¬ ((j : Int) < (cl.length : Int)) := by omega
                  have g3 : ((cl.length : Int) ≤ (l.length : Int) + 1) := by omega
                  go_wp2
                  go_ret
                  exact ⟨by simp, hor.below (Nat.le_refl _) (by simp)⟩
    · have e1 : stR l v (sd, sn) = [] := by simp [stR, he]
      rw [e1] at H1
      generalize sigCheck l v (sd, sn) = q at *
      replace H1 := hid H1
      have hte := str_toList []
      clear e1
      go_wp2_with fail
      refine H1.out.mono ?_
      rintro e w3 ⟨rfl, ho3⟩
      go_wp2
      go_ret
      exact ⟨by simp, (o2.next ho3 (by simp)).below (Nat.le_refl _) (by simp)⟩
  · rw [decide_eq_false hf1] at HF
    replace HF := hid HF
    go_wp2_with fail
    refine HF.out.mono ?_
    rintro e w2 ⟨rfl, ho2⟩
    go_wp2
    go_ret
    exact ⟨by simp, (o1.next ho2 (by simp)).below (Nat.le_refl _) (by simp)⟩

end Go.Proofs.Ytfpdgfgbonbpjab
