/-
  The walk of ArenaCopies. No conditions beyond the arguments' own shape.
-/
import Derived.Test.YtkaklabcfhefaabACopP
namespace Go.Proofs.Ytkaklabcfhefaab
open Go.RowKit

set_option linter.unusedSimpArgs false

def smallO (l : List Ob) : Prop := ∀ o ∈ l, o.2.length ≤ 65536

theorem small_make {s : St} (h : smallO s.l) (k n : Int) : smallO (makeS s k n).1.l := by
  unfold makeS
  split
  · split
    · intro o ho
      rcases List.mem_append.1 ho with c | c
      · exact h o c
      · simp at c
        subst c
        simp
        omega
    · exact h
  · exact h

theorem small_made (m : Nat) (L : List Cl) (j : Nat) : smallO (madeTo m L j).l := by
  unfold madeTo
  generalize hs : (⟨m, [], [], none⟩ : St) = s
  have h : smallO s.l := by subst hs; intro o ho; cases ho
  clear hs
  induction (L.take j) generalizing s with
  | nil => exact h
  | cons c L ih => exact ih _ (small_make h _ _)

theorem small_lens {l l' : List Ob} (h : smallO l) (e : lens l' = lens l) : smallO l' := by
  intro o ho
  obtain ⟨j, hj, rfl⟩ := List.getElem_of_mem ho
  have hl := lens_length e
  rw [lens_at e j hj (by omega)]
  exact h _ (List.getElem_mem _)

theorem few_stC {W : World} {N : Nat → Prop} {a : Nat} {s : St} (h : Ar W N a s.sw) : s.l.length ≤ 65536 ∧ 8 * (flW s.l).length ≤ 1048576 := by
  have h1 := few_obs s.l
  have h2 : 8 * (flW s.l).length ≤ s.m := h.ok.fit
  have h3 : s.m ≤ 1048576 := h.ok.m1
  exact ⟨by omega, by omega⟩

theorem slots_ofC (l : List Ob) (i : Nat) (hi : i < l.length) : slotsP l (8 * (ofs l i : Int) + 8) = ((l[i].2.length : Int), 0) := by
  unfold slotsP
  rw [findP_at hi]
  simp only [List.getElem?_eq_getElem hi]
theorem kind_ofC (l : List Ob) (i : Nat) (hi : i < l.length) : kindP l (8 * (ofs l i : Int) + 8) = (l[i].1, 0) := by
  unfold kindP
  rw [findP_at hi]
  simp only [List.getElem?_eq_getElem hi]
theorem get_ofC (l : List Ob) (i : Nat) (hi : i < l.length) : getP l (8 * (ofs l i : Int) + 8) 0 = if h : 0 < l[i].2.length then (l[i].2[0], 0) else (0, 1) := by
  unfold getP
  rw [findP_at hi]
  simp only [List.getElem?_eq_getElem hi]
  split
  · rename_i h
    rw [dif_pos (by omega)]
    simp [show 0 < l[i].2.length by omega]
  · rename_i h
    rw [dif_neg (by omega)]

theorem copyS_no (s : St) (x : Int) (h : findP s.al x = none) : copyS s x = (s, (0, 57)) := by unfold copyS; rw [h]

theorem infoN : (Try.prog.info? 3).map (fun i => (i.zero, i.size, i.bytes)) = some (some (.int .i64 0), 1, 8) := by kernel_rfl
theorem elN : ElT 3 (.int .i64 0) 1 8 := ⟨infoN, by decide, by decide, by decide⟩

set_option maxRecDepth 60000 in
set_option maxHeartbeats 32000000 in
theorem copies_any {w : World} (x : Int) (_hx : i64 x) {ao : Option Addr} {L : List Cl} {cap d : Nat} (hL : ClS w ao L d) (hl : L.length ≤ 9223372036854775807) (z : Int) (_hz : i64 z) :
    Calls Try.prog 3 #[.int .i64 x, .slice ao L.length cap, .int .i64 z] w fun e w' => e = .returned (.bool true) ∧ Only [] w w' := by
  have hdL : L ≠ [] → d < w.heap.size := fun hn => hL.rs.lt (fun e => hn (List.eq_nil_of_length_eq_zero (by have := congrArg List.length e; rw [clz_length] at this; simp only [List.length_nil] at this; omega)))
  have hKn := hid (known15 w)
  have hMd := hid (fun W (ho : Only [] w W) => made_any (N := fun b => b < w.heap.size) (fun b hb => Nat.lt_of_lt_of_le hb ho.size) x (cap := cap) (hL.kep (Kep.of0 (N := fun b => b < w.heap.size) ho) hdL) hdL hl)
  obtain ⟨S, hS⟩ : ∃ S, S = madeTo (256 + (x % 8000).toNat) L (min 60 L.length) := ⟨_, rfl⟩
  have hSm : smallO S.l := by rw [hS]; exact small_made _ _ _
  have hSal : S.al = [] := by rw [hS]; exact madeTo_al _ _ _
  rw [← hS] at hMd
  clear hS
  replace hSm := hid hSm
  replace hSal := hid hSal
  obtain ⟨N, hN⟩ : ∃ N : Nat → Prop, N = fun b => b < w.heap.size := ⟨_, rfl⟩
  rw [← hN] at hMd
  replace hN := hid hN
  have hW := hid within_at
  go_enter Try.func3, Try.ntmps3
  go_wp2_with (first
    | (go_at_call 5; refine hKn.out.mono ?_; rintro e w1 ⟨rfl, ho1⟩; replace ho1 := hid ho1)
    | (go_at_call 6; refine (hMd.out _ ho1.out).mono ?_; rintro e w2 ⟨rfl, A1, K1⟩; have hA := hid (All_ar A1); replace A1 := hid A1; replace K1 := hid ((Kep.of0 ho1.out).trans K1))
    | (go_at_call 7; refine hA.out.mono ?_; rintro e w3 ⟨bo, bc, bd, M, rfl, hR, hMb, hNM, A2, o2, _⟩; replace hR := hid hR; replace A2 := hid A2; replace K2 := hid (K1.out.trans (.of0 o2)); replace hNM := hid hNM))
  obtain ⟨hlen, hfew⟩ := few_stC A2.out
  clear hMd hKn hA A1 K1 hL hl hdL
  generalize w1.heap.size = a at *
  clear ho1
  go_loopw [9] (fun i wr => ∃ q : Nat, q ≤ S.l.length ∧ i = .int .i64 (q : Int) ∧ ∃ P : St, Hid (PutI S.l P.l q) ∧ Hid (P.al = []) ∧ Hid (Ar wr M a P.sw) ∧ Hid (Kep M w3 wr)) (fun i _ => S.l.length - (intOf i).toNat)
  case atStart => exact ⟨0, Nat.zero_le _, rfl, S, hid ⟨rfl, fun t _ ht => by omega⟩, hSal, A2, hid (Kep.refl _ _)⟩
  case round =>
    obtain ⟨q, hq, rfl, P, hP, hPal, hA, hK⟩ := hrel
    clear A2
    by_cases hq2 : q < S.l.length
    · have i2 : (q : Int) < (S.l.length : Int) := by omega
      have hne : S.l ≠ [] := fun e => by rw [e] at hq2; simp at hq2
      have hql : q < (adrP S.l).length := by rw [adrP_length]; exact hq2
      have hqP : q < P.l.length := by have := lens_length hP.out.len; omega
      obtain ⟨off, rfl, hc⟩ := (hR.out.kep hK.out (fun _ => hMb hne)).at (j := q) (by rw [ics_length]; omega)
      have c1 := hc q _ (ics_get _ q hql)
      rw [adrP_get] at c1
      clear hc
      have hend := ofs_end S.l q hq2
      obtain ⟨s1, s2, s3⟩ := hP.out.step hqP
      have hPt := hid (fun W (ho : Only [] wr W) => (Put_any (hA.out.only0 ho) (8 * (ofs S.l q : Int) + 8) 0 (7 * (q : Int)) ⟨by omega, by omega⟩ ⟨by decide, by decide⟩ ⟨by omega, by omega⟩).mono (R' := fun e w' => e = .returned (.int .i64 (putS P (8 * (ofs S.l q : Int) + 8) 0 (7 * (q : Int))).2) ∧ Ar w' M a (putS P (8 * (ofs S.l q : Int) + 8) 0 (7 * (q : Int))).1.sw ∧ Kep M wr w') (fun e w' ⟨z1, z2, z3⟩ => ⟨z1, z2, (Kep.of0 ho).trans z3⟩))
      generalize hE : putS P (8 * (ofs S.l q : Int) + 8) 0 (7 * (q : Int)) = E at *
      rw [show (7 * (q : Int)) = IntKind.i64.wrap ((q : Int) * 7) by rw [IntKind.wrap_i64]; omega] at hPt
      replace hE := hid hE
      replace s1 := hid s1
      replace s2 := hid (s2.trans hPal.out)
      clear s3
      replace hend := hid hend
      generalize 8 * (ofs S.l q : Int) + 8 = y at *
      go_wp2
      go_region_with (go_at_call 8; with_reducible refine (hPt.out _ (by repeat (first | with_reducible exact Only.refl _ _ | with_reducible refine Only.drew ?_ | with_reducible refine onlyN ?_ _))).mono ?_; rintro e w8 ⟨rfl, hA4, hK4⟩; replace hA4 := hid hA4; replace hK4 := hid hK4)
      all_goals
        go_wp2
        exact ⟨⟨q + 1, hq2, by go_num, E.1, s1, s2, hA4, hid (hK.out.trans hK4.out)⟩, by simp [intOf]; omega⟩
    · have hqq : q = S.l.length := by omega
      have i2 : ¬ (q : Int) < (S.l.length : Int) := by omega
      subst hqq
      have hPl := lens_length hP.out.len
      have hadr : adrP S.l = adrP P.l := by
        unfold adrP adrTo
        rw [hPl]
        refine List.map_congr_left fun q _ => ?_
        rw [ofs_lens _ _ hP.out.len]
      have hRw := hR.out.kep hK.out (fun hn => hMb (fun e => hn (by rw [e]; rfl)))
      rw [hadr] at hRw
      replace hRw := hid hRw
      have hsm := hid (small_lens hSm.out hP.out.len)
      have hhold : ∀ (t : Nat) (ht : t < P.l.length) (h0 : 0 < P.l[t].2.length), P.l[t].2[0] = 7 * (t : Int) := fun t ht h0 => hP.out.hold t ht (by omega) h0
      replace hhold := hid hhold
      have hMb2 : P.l ≠ [] → M bd := fun hn => hMb (fun e => hn (List.eq_nil_of_length_eq_zero (by rw [hPl, e]; rfl)))
      replace hMb2 := hid hMb2
      have hKall := hid (K2.out.trans (hK.out.mono hNM.out))
      obtain ⟨hlenP, hfewP⟩ := few_stC hA.out
      rw [← hPl] at i2 ⊢
      clear hq hq2 hlen hfew hR hadr hMb hSm hSal hP hK K2
      replace hPl := hid hPl
      replace hN := hid hN.out
      have hlP : (P.l.length : Int) ≤ 65536 := by omega
      obtain ⟨w4, rfl⟩ : ∃ w4, w4 = wr := ⟨_, rfl⟩
      go_wp2
      clear i2
      go_loopw [10, 11, 12] (fun v10 v11 i w5 => ∃ q : Nat, q ≤ P.l.length ∧ i = .int .i64 (q : Int) ∧ ∃ ko kc so sc, v10 = .slice ko q kc ∧ v11 = .slice so q sc ∧ Hid (w5.ownsRow w4.heap.size 3 1 (.slice ko q kc) q (ics ((P.l.map (·.1)).take q))) ∧ Hid (w5.ownsRow w4.heap.size 3 1 (.slice so q sc) q (ics ((P.l.map fun o => (o.2.length : Int)).take q))) ∧ Hid (∀ k, Value.ownBlock (.slice ko q kc) = some k → Value.ownBlock (.slice so q sc) ≠ some k) ∧ Hid (Only [] w4 w5)) (fun _ _ i _ => P.l.length - (intOf i).toNat)
      case atStart => exact ⟨0, Nat.zero_le _, rfl, none, 0, none, 0, rfl, rfl, World.ownsRow_nil _ _ _ _, World.ownsRow_nil _ _ _ _, hid (fun k hk => by cases hk), hid (Only.refl _ _)⟩
      case round =>
        obtain ⟨q, hq, rfl, ko, kc, so, sc, rfl, rfl, hKo, hSo, hap, hO⟩ := hrel
        by_cases hq2 : q < P.l.length
        · have i2 : (q : Int) < (P.l.length : Int) := by omega
          have hql : q < (adrP P.l).length := by rw [adrP_length]; exact hq2
          obtain ⟨off, rfl, hc⟩ := (RS.only0 hRw.out hO.out).at (j := q) (by rw [ics_length]; omega)
          have c1 := hc q _ (ics_get _ q hql)
          rw [adrP_get] at c1
          clear hc
          have hend := ofs_end P.l q hq2
          have hX : i64 (8 * (ofs P.l q : Int) + 8) := ⟨by omega, by omega⟩
          have hSl0 := fun W (ho : Only [] wr W) => Slots_any (l := P.l) ((hA.out.only0 hO.out).only0 ho).used (8 * (ofs P.l q : Int) + 8) hX
          have hKd0 := fun n => Kind_any (l := P.l) ((hA.out.only0 hO.out).only0 (only_drewN wr n)).used (8 * (ofs P.l q : Int) + 8) hX
          simp only [slots_ofC P.l q hq2] at hSl0
          simp only [kind_ofC P.l q hq2] at hKd0
          have hSl := hid hSl0
          have hKd := hid hKd0
          have e1 : (P.l.map (·.1)).take (q + 1) = (P.l.map (·.1)).take q ++ [P.l[q].1] := by rw [List.take_succ_eq_append_getElem (by simpa using hq2)]; simp
          have e2 : (P.l.map fun o => (o.2.length : Int)).take (q + 1) = (P.l.map fun o => (o.2.length : Int)).take q ++ [(P.l[q].2.length : Int)] := by rw [List.take_succ_eq_append_getElem (by simpa using hq2)]; simp
          replace e1 := hid e1
          replace e2 := hid e2
          clear hSl0 hKd0
          replace hend := hid hend
          generalize 8 * (ofs P.l q : Int) + 8 = y at *
          generalize P.l[q].1 = kk at *
          generalize (P.l[q].2.length : Int) = nn at *
          have hqb : q + 1 ≤ 8000000 := by omega
          go_wp2
          go_quiet (first | (go_at_call 9; exact Calls.quiet_of (hKd.out _)) | fail)
          go_wp2
          go_region_with (go_at_call 10; with_reducible refine (hSl.out _ (by repeat (first | with_reducible exact Only.refl _ _ | with_reducible refine Only.drew ?_ | with_reducible refine onlyN ?_ _))).mono ?_; rintro e w6 ⟨rfl, n6, rfl⟩)
          all_goals
            go_wp2_with (at_builtin; refine wpList_append_any rfl (.tmp 87) (.tmp 89) elN Try.underlying37 rfl rfl rfl (World.ownsRow.alloc (rows_only (S := []) hKo.out (by repeat (first | with_reducible exact Only.refl _ _ | with_reducible refine Only.drew ?_ | with_reducible refine onlyN ?_ _)) (by simp)) _) (RS.fresh _ _ _) rfl (by simp [Value.oneCell']) (by simp) hqb (by have := hO.out.size; simp; omega) ?_)
            intro ao3 cap3 w8 P1
            have hap1 := hid (show ∀ k, Value.ownBlock (.slice ao3 (q + 1) cap3) = some k → Value.ownBlock (.slice so q sc) ≠ some k from fun k hk hs => by
              cases ao3 with
              | none => cases hk
              | some b =>
                cases hk
                rcases P1.place b rfl with ⟨b', hb', hb⟩ | c
                · subst hb'
                  exact hap.out b'.block rfl (by rw [hb]; exact hs)
                · have h1 := (hSo.out.lt _ hs).2
                  simp at c
                  omega)
            have z3 := rows_only (World.ownsRow.alloc (rows_only (S := []) hSo.out (by repeat (first | with_reducible exact Only.refl _ _ | with_reducible refine Only.drew ?_ | with_reducible refine onlyN ?_ _)) (by simp)) (.cells #[.int .i64 kk] 3)) P1.only (fun k hk hm => hap.out k (by simp at hm; cases ko <;> exact hm) hk)
            have z4 := P1.own
            have hO6 : Only [] w4 w8 := Only.next (Only.alloc (Only.trans (S' := []) hO.out (by repeat (first | with_reducible exact Only.refl _ _ | with_reducible refine Only.drew ?_ | with_reducible refine onlyN ?_ _)) (by simp)) _) P1.only (fun y hy => (hKo.out.lt y (by simp at hy; cases ko <;> exact hy)).1)
            replace hO6 := hid hO6
            go_wp2_with (at_builtin; refine wpList_append_any rfl (.tmp 91) (.tmp 93) elN Try.underlying37 rfl rfl rfl (z3.alloc _) (RS.fresh _ _ _) rfl (by simp [Value.oneCell']) (by simp) hqb (by have := hO6.out.size; simp; omega) ?_)
            intro ao4 cap4 w9 P2
            have y3 := rows_only (z4.alloc (.cells #[.int .i64 nn] 3)) P2.only (fun k hk hm => hap1.out k hk (by simp at hm; cases so <;> exact hm))
            have y4 := P2.own
            have hap2 := hid (show ∀ k, Value.ownBlock (.slice ao3 (q + 1) cap3) = some k → Value.ownBlock (.slice ao4 (q + 1) cap4) ≠ some k from fun k hk hs => by
              cases ao4 with
              | none => cases hs
              | some b =>
                cases hs
                rcases P2.place b rfl with ⟨b', hb', hb⟩ | c
                · subst hb'
                  exact hap1.out b.block hk (by rw [← hb]; rfl)
                · have h1 := (z4.lt _ hk).2
                  simp at c
                  omega)
            have hO7 := hid (show Only [] w4 w9 from (hO6.out.alloc _).next P2.only (fun y hy => (z3.lt y (by simp at hy; cases so <;> exact hy)).1))
            have y5 : w9.ownsRow w4.heap.size 3 1 (.slice ao3 (q + 1) cap3) (q + 1) (ics ((P.l.map (·.1)).take (q + 1))) := by rw [e1.out, ics_append]; exact y3
            have y6 : w9.ownsRow w4.heap.size 3 1 (.slice ao4 (q + 1) cap4) (q + 1) (ics ((P.l.map fun o => (o.2.length : Int)).take (q + 1))) := by rw [e2.out, ics_append]; exact y4
            replace y5 := hid y5
            replace y6 := hid y6
            clear y3 y4 z3 z4 P1 P2 hap1
            go_wp2
            exact ⟨⟨q + 1, hq2, by go_num, ao3, cap3, ao4, cap4, rfl, rfl, y5, y6, hap2, hO7⟩, by simp [intOf]; omega⟩
        · have hqq : q = P.l.length := by omega
          have i2 : ¬ (q : Int) < (P.l.length : Int) := by omega
          have hko := hKo.out
          have hso := hSo.out
          rw [List.take_of_length_le (by simp; omega)] at hko hso
          obtain ⟨rk, _, _, _, bk⟩ := RS.of_owns hko
          obtain ⟨rs, _, _, _, bs⟩ := RS.of_owns hso
          have A5 := hA.out.more hO.out
          obtain ⟨M5, hM5⟩ : ∃ M5 : Nat → Prop, M5 = fun b => M b ∨ (w4.heap.size ≤ b ∧ b < wr.heap.size) := ⟨_, rfl⟩
          rw [← hM5] at A5
          have mk : ics (P.l.map (·.1)) ≠ [] → M5 ((ko.map (·.block)).getD 0) := fun hn => by
            cases ko with
            | none => exact absurd rk.none_nil hn
            | some b => obtain ⟨h1, h2, _⟩ := bk b rfl; rw [hM5]; exact .inr ⟨h1, h2⟩
          have ms : ics (P.l.map fun o => (o.2.length : Int)) ≠ [] → M5 ((so.map (·.block)).getD 0) := fun hn => by
            cases so with
            | none => exact absurd rs.none_nil hn
            | some b => obtain ⟨h1, h2, _⟩ := bs b rfl; rw [hM5]; exact .inr ⟨h1, h2⟩
          generalize (ko.map (·.block)).getD 0 = dk at rk mk
          generalize (so.map (·.block)).getD 0 = ds at rs ms
          have hRr := hid (RS.only0 hRw.out hO.out)
          have mb : P.l ≠ [] → M5 bd := fun hn => by rw [hM5]; exact .inl (hMb2.out hn)
          have hNM5 := hid (show ∀ b, N b → M5 b from fun b hb => by rw [hM5]; exact .inl (hNM.out b hb))
          have hKall5 := hid (hKall.out.trans (.of0 hO.out))
          obtain ⟨c, hcd⟩ : ∃ c : Nat, c = (z % (P.l.length : Int)).toNat := ⟨_, rfl⟩
          have hFl := hid (flip_at A5)
          have hU5 := hid ((Used_any A5.used).mono (R' := fun e w' => e = .returned (.int .i64 (8 * ((flW P.l).length : Int))) ∧ wr = w') (fun e w' ⟨z1, z2⟩ => ⟨by rw [z1]; rfl, z2.symm⟩))
          have hmm : 8 * (flW P.l).length ≤ P.m := A5.ok.fit
          have hcop0 : ({ m := P.m, l := [], al := P.l, mv := some [] } : St) = copTo P.m P.l c 0 := rfl
          rw [hcop0] at hFl
          clear hko hso bk bs A5 hM5 hA hRw hKall hO hKo hSo hap hMb2 hNM hcop0 hPal
          subst hqq
          replace rk := hid rk
          replace rs := hid rs
          replace hmm := hid hmm
          replace hfewP := hid hfewP
          replace hcd := hid hcd
          have hU0 := hid (fun W (h : Ar W M5 a (copTo P.m P.l c 0).sw) => (Used_any h.used).mono (R' := fun e w' => e = .returned (.int .i64 0) ∧ W = w') (fun e w' ⟨z1, z2⟩ => ⟨by rw [z1]; rfl, z2.symm⟩))
          have hAll0 := hid (fun W (h : Ar W M5 a (copTo P.m P.l c 0).sw) => (All_any (l := []) h.used).mono (R' := fun e w' => (∃ ao cap, e = .returned (.slice ao 0 cap)) ∧ Ar w' M5 a (copTo P.m P.l c 0).sw ∧ Only [] W w') (fun e w' ⟨v, z1, z2, z3⟩ => by
            obtain ⟨ao, cap, rfl⟩ := rows_slice z2
            exact ⟨⟨ao, cap, z1⟩, h.only0 z3, z3⟩))
          generalize hTT : 8 * ((flW P.l).length : Int) = T at *
          replace hTT := hid hTT
          go_wp2_with (first
            | (go_at_call 7; refine (hAll0.out _ A6.out).mono ?_; rintro e w7 ⟨⟨bo7, bc7, rfl⟩, A7, o7⟩; replace A7 := hid A7; have K7 := hid (K6.out.trans (Kep.of0 (N := M5) o7)); clear o7)
            | (go_at_call 11; refine (hU0.out _ A6.out).mono ?_; rintro e w7 ⟨rfl, rfl⟩)
            | (go_at_call 12; refine hFl.out.mono ?_; rintro e w6 ⟨rfl, A6, K6⟩; replace A6 := hid A6; replace K6 := hid K6)
            | (go_at_call 11; refine hU5.out.mono ?_; rintro e w5 ⟨rfl, rfl⟩))
          obtain ⟨w5, rfl⟩ : ∃ w5, w5 = wr := ⟨_, rfl⟩
          clear hFl hU5 hU0 hAll0 A6 K6
          go_loopw [18] (fun i wx => ∃ q : Nat, q ≤ P.l.length ∧ i = .int .i64 (q : Int) ∧ Hid (Ar wx M5 a (copTo P.m P.l c q).sw) ∧ Hid (Kep M5 w5 wx)) (fun i _ => P.l.length - (intOf i).toNat)
          case atStart => exact ⟨0, Nat.zero_le _, rfl, A7, K7⟩
          case round =>
            obtain ⟨q, hq, rfl, hA, hK⟩ := hrel
            clear A7 K7 i2
            by_cases hq2 : q < P.l.length
            · have i3 : (q : Int) < (P.l.length : Int) := by omega
              have i4 : 0 < (P.l.length : Int) := by omega
              have hne : P.l ≠ [] := fun e => by rw [e] at hq2; simp at hq2
              have z0 := Int.emod_nonneg z (show (P.l.length : Int) ≠ 0 by omega)
              have z1 := Int.emod_lt_of_pos z i4
              have hcz : z % (P.l.length : Int) = (c : Int) := by rw [hcd.out]; omega
              have hcn : c < P.l.length := by omega
              have hWz := hid (fun W => (hW.out z (P.l.length : Int) ⟨i4, by omega⟩ W).mono (R' := fun e w' => e = .returned (.int .i64 (c : Int)) ∧ W = w') (fun e w' ⟨y1, y2⟩ => ⟨by rw [y1, hcz], y2⟩))
              have hstep := copTo_step P.m P.l c q hcn hq2 hmm.out hsm.out
              have hagain := copTo_again P.m P.l c q hcn hq2
              have hjn : (q + c) % P.l.length < P.l.length := Nat.mod_lt _ (by omega)
              have hrem : Int.tmod ((q : Int) + (c : Int)) (P.l.length : Int) = (((q + c) % P.l.length : Nat) : Int) := by
                rw [Int.tmod_eq_emod_of_nonneg (by omega)]
                simp
              have hri : q < (rot P.l c).length := by rw [rot_length]; exact hq2
              have hrat := rot_at P.l c q hcn hq2
              rw [List.getElem?_eq_getElem hri, List.getElem?_eq_getElem hjn] at hrat
              have hrat' := Option.some.inj hrat
              have hofs := copTo_ofs P.l c q
              have hlt' : q < ((rot P.l c).take (q + 1)).length := by rw [List.length_take, rot_length]; omega
              have hel : ((rot P.l c).take (q + 1))[q] = P.l[(q + c) % P.l.length] := by rw [List.getElem_take, hrat']
              have hkd := kind_ofC _ q hlt'
              have hsl := slots_ofC _ q hlt'
              have hgt := get_ofC _ q hlt'
              rw [hofs] at hkd hsl hgt
              simp only [hel] at hkd hsl hgt
              have hend := ofs_end P.l _ hjn
              have hend2 := ofs_end (rot P.l c) q hri
              rw [rot_words] at hend2
              have hfw := hfewP.out
              have hh := hhold.out _ hjn
              generalize hj : (q + c) % P.l.length = j at *
              have hjl : j < (adrP P.l).length := by rw [adrP_length]; exact hjn
              obtain ⟨off, rfl, hc⟩ := (hRr.out.kep hK.out (fun _ => mb hne)).at (j := j) (by rw [ics_length]; omega)
              have c1 := hc j _ (ics_get _ j hjl)
              rw [adrP_get] at c1
              clear hc
              obtain ⟨ok, rfl, hc⟩ := (rk.out.kep hK.out mk).at (j := j) (by rw [ics_length]; simp; exact hjn)
              have c2 := hc j _ (ics_get _ j (by simpa using hjn))
              clear hc
              obtain ⟨os, rfl, hc⟩ := (rs.out.kep hK.out ms).at (j := j) (by rw [ics_length]; simp; exact hjn)
              have c3 := hc j _ (ics_get _ j (by simpa using hjn))
              clear hc
              simp only [List.getElem_map] at c2 c3
              have mB := mb hne
              have mK := mk (fun e => hne (List.eq_nil_of_length_eq_zero (by have := congrArg List.length e; rw [ics_length] at this; simpa using this)))
              have mS := ms (fun e => hne (List.eq_nil_of_length_eq_zero (by have := congrArg List.length e; rw [ics_length] at this; simpa using this)))
              have hX : i64 (8 * (ofs P.l j : Int) + 8) := ⟨by omega, by omega⟩
              have hX2 : i64 (8 * (ofs (rot P.l c) q : Int) + 8) := ⟨by omega, by omega⟩
              have hC1 := hid (copy_at hA.out (.inr ⟨_, rfl⟩) hX hstep)
              have hC2 := hid (fun W (h : Ar W M5 a (copTo P.m P.l c (q + 1)).sw) => copy_at h (.inr ⟨_, rfl⟩) hX hagain)
              have hKd0 := fun W (h : Ar W M5 a (copTo P.m P.l c (q + 1)).sw) => Kind_any (l := (rot P.l c).take (q + 1)) h.used (8 * (ofs (rot P.l c) q : Int) + 8) hX2
              have hSl0 := fun W (h : Ar W M5 a (copTo P.m P.l c (q + 1)).sw) => Slots_any (l := (rot P.l c).take (q + 1)) h.used (8 * (ofs (rot P.l c) q : Int) + 8) hX2
              have hGt0 := fun W (h : Ar W M5 a (copTo P.m P.l c (q + 1)).sw) => Get_any (l := (rot P.l c).take (q + 1)) h.used (8 * (ofs (rot P.l c) q : Int) + 8) 0 hX2 ⟨by decide, by decide⟩
              simp only [hkd] at hKd0
              simp only [hsl] at hSl0
              obtain ⟨gv, ge, hgv, hgc⟩ : ∃ gv ge, getP ((rot P.l c).take (q + 1)) (8 * (ofs (rot P.l c) q : Int) + 8) 0 = (gv, ge) ∧ ((0 < P.l[j].2.length ∧ gv = 7 * (j : Int) ∧ ge = 0) ∨ P.l[j].2.length = 0) := by
                rw [hgt]
                by_cases h : 0 < P.l[j].2.length
                · rw [dif_pos h, hh h]; exact ⟨_, _, rfl, .inl ⟨h, rfl, rfl⟩⟩
                · rw [dif_neg h]; exact ⟨_, _, rfl, .inr (by omega)⟩
              simp only [hgv] at hGt0
              have hGt := hid hGt0
              have hKd := hid hKd0
              have hSl := hid (fun W (ho : Ar W M5 a (copTo P.m P.l c (q + 1)).sw) => hSl0 W ho)
              have g1 : 8 * (ofs P.l j : Int) ≤ 1048576 := by omega
              have g2 : 8 * (ofs (rot P.l c) q : Int) ≤ 1048576 := by omega
              have g3 : (j : Int) ≤ 65536 := by omega
              have g4 : (c : Int) ≤ 65536 := by omega
              have g5 : (q : Int) ≤ 65536 := by omega
              have g6 : (j : Int) < (P.l.length : Int) := by omega
              clear hKd0 hSl0 hstep hagain hkd hsl hgv hgt hGt0 hh hel hlt' hrat' hrat hri hofs hend hend2 hfw z0 z1 hcz hjl hX hX2 hA hRr
              replace hj := hid hj
              replace hjn := hid hjn
              replace hcn := hid hcn
              generalize 8 * (ofs P.l j : Int) + 8 = y at *
              generalize 8 * (ofs (rot P.l c) q : Int) + 8 = g at *
              rcases hgc with ⟨h0, rfl, rfl⟩ | h0
              · have g7 : 0 < (P.l[j].2.length : Int) := by omega
                have g8 : IntKind.i64.wrap ((j : Int) * 7) = 7 * (j : Int) := by rw [IntKind.wrap_i64]; omega
                clear h0
                generalize (P.l[j].2.length : Int) = nn at *
                generalize P.l[j].1 = kk at *
                go_wp2_with (first
                  | (go_at_call 13; with_reducible refine (hWz.out _).mono ?_; rintro e w8 ⟨rfl, rfl⟩)
                  | (go_at_call 14; refine (hC2.out _ A8.out).mono ?_; rintro e w9 ⟨rfl, A9, K9⟩; have f2 := K9.cell d2 mK; have f3 := K9.cell d3 mS; replace A9 := hid A9; replace K9 := hid K9)
                  | (go_at_call 14; refine hC1.out.mono ?_; rintro e w8 ⟨rfl, A8, K8⟩; have d1 := K8.cell c1 mB; have d2 := K8.cell c2 mK; have d3 := K8.cell c3 mS; replace A8 := hid A8; replace K8 := hid K8)
                  | (go_at_call 9; refine (hKd.out _ (A9.out.only0 (by repeat (first | with_reducible exact Only.refl _ _ | with_reducible refine Only.drew ?_ | with_reducible refine onlyN ?_ _)))).mono ?_; rintro e w10 ⟨rfl, n10, rfl⟩)
                  | (go_at_call 10; refine (hSl.out _ (A9.out.only0 (by repeat (first | with_reducible exact Only.refl _ _ | with_reducible refine Only.drew ?_ | with_reducible refine onlyN ?_ _)))).mono ?_; rintro e w11 ⟨rfl, n11, rfl⟩)
                  | (go_at_call 15; refine (hGt.out _ (A9.out.only0 (by repeat (first | with_reducible exact Only.refl _ _ | with_reducible refine Only.drew ?_ | with_reducible refine onlyN ?_ _)))).mono ?_; rintro e w12 ⟨rfl, n12, rfl⟩))
                exact ⟨⟨q + 1, hq2, by go_num, hid (A9.out.only0 (only_drewN _ _)), hid (((hK.out.trans K8.out).trans K9.out).trans (.of0 (only_drewN _ _)))⟩, by simp [intOf]; omega⟩
              · have g7 : (P.l[j].2.length : Int) = 0 := by omega
                clear h0
                generalize (P.l[j].2.length : Int) = nn at *
                subst g7
                generalize P.l[j].1 = kk at *
                go_wp2_with (first
                  | (go_at_call 13; with_reducible refine (hWz.out _).mono ?_; rintro e w8 ⟨rfl, rfl⟩)
                  | (go_at_call 14; refine (hC2.out _ A8.out).mono ?_; rintro e w9 ⟨rfl, A9, K9⟩; have f2 := K9.cell d2 mK; have f3 := K9.cell d3 mS; replace A9 := hid A9; replace K9 := hid K9)
                  | (go_at_call 14; refine hC1.out.mono ?_; rintro e w8 ⟨rfl, A8, K8⟩; have d1 := K8.cell c1 mB; have d2 := K8.cell c2 mK; have d3 := K8.cell c3 mS; replace A8 := hid A8; replace K8 := hid K8)
                  | (go_at_call 9; refine (hKd.out _ (A9.out.only0 (by repeat (first | with_reducible exact Only.refl _ _ | with_reducible refine Only.drew ?_ | with_reducible refine onlyN ?_ _)))).mono ?_; rintro e w10 ⟨rfl, n10, rfl⟩)
                  | (go_at_call 10; refine (hSl.out _ (A9.out.only0 (by repeat (first | with_reducible exact Only.refl _ _ | with_reducible refine Only.drew ?_ | with_reducible refine onlyN ?_ _)))).mono ?_; rintro e w11 ⟨rfl, n11, rfl⟩)
                  | (go_at_call 15; refine (hGt.out _ (A9.out.only0 (by repeat (first | with_reducible exact Only.refl _ _ | with_reducible refine Only.drew ?_ | with_reducible refine onlyN ?_ _)))).mono ?_; rintro e w12 ⟨rfl, n12, rfl⟩))
                exact ⟨⟨q + 1, hq2, by go_num, hid (A9.out.only0 (only_drewN _ _)), hid (((hK.out.trans K8.out).trans K9.out).trans (.of0 (only_drewN _ _)))⟩, by simp [intOf]; omega⟩
            · have hqq : q = P.l.length := by omega
              have i3 : ¬ (q : Int) < (P.l.length : Int) := by omega
              have hno : findP P.l 3 = none := by unfold findP; rw [if_pos (by omega)]
              have e1 := copyS_no (copTo P.m P.l c q) 3 hno
              have hC3 := hid (copy_at (p := 0) (q := 57) hA.out (.inr ⟨_, rfl⟩) (x := 3) ⟨by decide, by decide⟩ e1)
              have hTq : 8 * ((flW (copTo P.m P.l c q).l).length : Int) = T := by
                rw [← hTT.out, copTo_len, hqq]
                have : ofs (rot P.l c) P.l.length = (flW P.l).length := by
                  rw [← rot_length P.l c, ofs_all, rot_words]
                rw [this]
              have hU9 := hid (fun W (h : Ar W M5 a (copTo P.m P.l c q).sw) => (Used_any h.used).mono (R' := fun e w' => e = .returned (.int .i64 T) ∧ W = w') (fun e w' ⟨z1, z2⟩ => ⟨by rw [z1, ← hTq]; rfl, z2.symm⟩))
              have hF1 := hid (fun W (h : Ar W M5 a (copTo P.m P.l c q).sw) => flip_at h)
              obtain ⟨F1, hF1d⟩ : ∃ F1 : St, F1 = ⟨(copTo P.m P.l c q).m, [], (copTo P.m P.l c q).l, some []⟩ := ⟨_, rfl⟩
              have hF1l : F1.l = [] := by rw [hF1d]
              rw [← hF1d] at hF1
              have hF2 := hid (fun W (h : Ar W M5 a F1.sw) => flip_at h)
              rw [hF1l] at hF2
              have hC8 := hid (fun W (h : Ar W M5 a (St.sw ⟨F1.m, [], [], some []⟩)) => copy_at (s' := ⟨F1.m, [], [], some []⟩) (p := 0) (q := 57) h (.inl rfl) (x := 8) ⟨by decide, by decide⟩ (copyS_no _ 8 (findP_nil 8)))
              have hEnd := hid (show ∀ W, Kep M5 wr W → Only [] w W from fun W h => by
                have h1 := hKall5.out.trans ((hK.out.trans h).mono hNM5.out)
                rw [hN.out] at h1
                exact h1.only)
              clear hTq e1 hno hA hF1d hF1l hq hq2 hRr rk rs hK hKall5 hqq
              go_wp2_with (first
                | (go_at_call 14; refine (hC8.out _ A12.out).mono ?_; rintro e w13 ⟨rfl, _, K13⟩; replace K13 := hid K13)
                | (go_at_call 12; refine (hF2.out _ A11.out).mono ?_; rintro e w12 ⟨rfl, A12, K12⟩; replace A12 := hid A12; replace K12 := hid K12)
                | (go_at_call 12; refine (hF1.out _ A10.out).mono ?_; rintro e w11 ⟨rfl, A11, K11⟩; replace A11 := hid A11; replace K11 := hid K11)
                | (go_at_call 11; refine (hU9.out _ A10.out).mono ?_; rintro e w10 ⟨rfl, rfl⟩)
                | (go_at_call 14; refine hC3.out.mono ?_; rintro e w10 ⟨rfl, A10, K10⟩; replace A10 := hid A10; replace K10 := hid K10))
              go_ret
              exact ⟨rfl, hEnd.out _ (((K10.out.trans K11.out).trans K12.out).trans K13.out)⟩

end Go.Proofs.Ytkaklabcfhefaab
