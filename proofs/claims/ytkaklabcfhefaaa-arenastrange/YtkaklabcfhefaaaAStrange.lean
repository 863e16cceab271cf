/-
  The walk of ArenaStrange. No conditions beyond the arguments' own shape.
-/
import Derived.Test.YtkaklabcfhefaaaAHelp
namespace Go.Proofs.Ytkaklabcfhefaaa
open Go.RowKit

set_option linter.unusedSimpArgs false

theorem kindP_err (l : List Ob) (x : Int) : (kindP l x).2 = if (findP l x).isSome then 0 else 57 := by
  unfold kindP
  cases h : findP l x with
  | none => rfl
  | some j => simp only [List.getElem?_eq_getElem (findP_some h).1]; rfl
theorem slotsP_err (l : List Ob) (x : Int) : (slotsP l x).2 = if (findP l x).isSome then 0 else 57 := by
  unfold slotsP
  cases h : findP l x with
  | none => rfl
  | some j => simp only [List.getElem?_eq_getElem (findP_some h).1]; rfl
theorem getP_none (l : List Ob) (x k : Int) (h : findP l x = none) : getP l x k = (0, 57) := by unfold getP; rw [h]
theorem getP_some (l : List Ob) (x k : Int) (j : Nat) (h : findP l x = some j) : (getP l x k).2 = 0 ∨ (getP l x k).2 = 1 := by
  unfold getP
  rw [h]
  simp only [show l[j]? = some (l[j]'(findP_some h).1) from List.getElem?_eq_getElem _]
  split
  · exact .inl rfl
  · exact .inr rfl

theorem putS_none (s : St) (x k v : Int) (h : findP s.l x = none) : putS s x k v = (s, 57) := by unfold putS; rw [h]
theorem copyS_none (s : St) (x : Int) (h : findP s.al x = none) : copyS s x = (s, (0, 57)) := by unfold copyS; rw [h]

theorem isTo (l : List Int) (x : Int) (j : Nat) (h : j < l.length) : decide (x ∈ l.take (j + 1)) = (decide (x ∈ l.take j) || decide (l[j] = x)) := by
  rw [List.take_succ_eq_append_getElem h, Bool.eq_iff_iff]
  simp only [decide_eq_true_eq, Bool.or_eq_true, List.mem_append, List.mem_singleton]
  constructor
  · rintro (c | c)
    · exact .inl c
    · exact .inr c.symm
  · rintro (c | c)
    · exact .inl c
    · exact .inr c.symm

set_option maxRecDepth 20000 in
set_option maxHeartbeats 4000000 in
theorem strange_any {w : World} (x : Int) (_hx : i64 x) {ao : Option Addr} {L : List Cl} {cap d : Nat} (hL : ClS w ao L d) (hl : L.length ≤ 9223372036854775807) (z : Int) (hz : i64 z) :
    Calls Try.prog 6 #[.int .i64 x, .slice ao L.length cap, .int .i64 z] w fun e w' => e = .returned (.bool true) ∧ Only [] w w' := by
  have hKn := hid (known15 w)
  have hMd := hid (fun W (ho : Only [] w W) => made_any (N := fun b => b < w.heap.size) (fun b hb => Nat.lt_of_lt_of_le hb ho.size) x (cap := cap) (hL.kep (Kep.of0 (N := fun b => b < w.heap.size) ho) (fun hn => hL.rs.lt (fun e => hn (List.eq_nil_of_length_eq_zero (by have := congrArg List.length e; rw [clz_length] at this; simp only [List.length_nil] at this; omega))))) (fun hn => hL.rs.lt (fun e => hn (List.eq_nil_of_length_eq_zero (by have := congrArg List.length e; rw [clz_length] at this; simp only [List.length_nil] at this; omega)))) hl)
  obtain ⟨S, hS⟩ : ∃ S, S = madeTo (256 + (x % 8000).toNat) L (min 60 L.length) := ⟨_, rfl⟩
  have hSal : S.al = [] := by rw [hS]; exact madeTo_al _ _ _
  rw [← hS] at hMd
  replace hS := hid hS
  replace hSal := hid hSal
  go_enter Try.func6, Try.ntmps6
  go_wp2_with (first
    | (go_at_call 9; refine hKn.out.mono ?_; rintro e w1 ⟨rfl, ho1⟩; replace ho1 := hid ho1)
    | (go_at_call 22; refine (hMd.out _ ho1.out).mono ?_; rintro e w2 ⟨rfl, A1, K1⟩; have hA := hid (All_ar A1); replace A1 := hid A1; replace K1 := hid ((Kep.of0 ho1.out).trans K1))
    | (go_at_call 23; refine hA.out.mono ?_; rintro e w3 ⟨bo, bc, bd, M, rfl, hR, hMb, hNM, A2, o2, _⟩; replace hR := hid hR; replace A2 := hid A2; replace K2 := hid (K1.out.trans (.of0 o2)); replace hNM := hid hNM))
  have hlen : S.l.length ≤ 65536 := by
    have h1 := few_obs S.l
    have h2 : 8 * (flW S.l).length ≤ S.m := A1.out.ok.fit
    have h3 : S.m ≤ 1048576 := A1.out.ok.m1
    omega
  clear hMd hKn hA A1 K1
  generalize w1.heap.size = a at *
  clear ho1
  go_loopw [9, 10] (fun v i wr => ∃ j : Nat, j ≤ S.l.length ∧ i = .int .i64 (j : Int) ∧ v = .bool (decide (z ∈ (adrP S.l).take j)) ∧ wr = w3) (fun _ i _ => S.l.length - (intOf i).toNat)
  case atStart => exact ⟨0, Nat.zero_le _, rfl, by simp, rfl⟩
  case round =>
    obtain ⟨j, hj, rfl, rfl, rfl⟩ := hrel
    by_cases hlt : j < S.l.length
    · have hjl : j < (adrP S.l).length := by rw [adrP_length]; exact hlt
      obtain ⟨off, rfl, hc⟩ := hR.out.at (j := j) (by rw [ics_length]; omega)
      have c1 := hc j _ (ics_get _ j hjl)
      have i1 : (j : Int) < (S.l.length : Int) := by omega
      have hq := hid (isTo (adrP S.l) z j hjl)
      clear hc
      obtain ⟨q, hqq⟩ : ∃ q, q = decide (z ∈ (adrP S.l).take j) := ⟨_, rfl⟩
      obtain ⟨q2, hq2⟩ : ∃ q, q = decide (z ∈ (adrP S.l).take (j + 1)) := ⟨_, rfl⟩
      rw [← hqq, ← hq2] at hq
      rw [← hqq]
      replace hqq := hid hqq
      replace hq2 := hid hq2
      generalize (adrP S.l)[j] = y at *
      cases q with
      | true =>
        go_wp2
        exact ⟨⟨j + 1, hlt, by go_num, by rw [← hq2.out, hq.out]; rfl, trivial⟩, by simp [intOf]; omega⟩
      | false =>
        go_wp2
        exact ⟨⟨j + 1, hlt, by go_num, by rw [← hq2.out, hq.out, Bool.false_or]; rfl, trivial⟩, by simp [intOf]; omega⟩
    · have hj2 : j = S.l.length := by omega
      subst hj2
      have i1 : ¬ (S.l.length : Int) < (S.l.length : Int) := by omega
      rw [List.take_of_length_le (by rw [adrP_length]; exact Nat.le_refl _)]
      have e1 := kindP_err S.l z
      have e2 := slotsP_err S.l z
      have hB1 := hid (Bytes_ar A2.out)
      have hbl := encWs_length (flW S.l)
      cases hf : findP S.l z with
      | some j =>
        have hin : z ∈ adrP S.l := (findP_iff _ _).2 ⟨j, hf⟩
        rw [hf] at e1 e2
        have e3 := getP_some S.l z 0 j hf
        simp only [hin, decide_true]
        simp only [Option.isSome_some, if_true] at e1 e2
        clear hf hin
        rcases e3 with e3 | e3
        all_goals
          go_wp2_with (first
            | (go_at_call 21; refine hB1.out.mono ?_; rintro e w4 ⟨bo4, bc4, bd4, M4, rfl, hR4, _, _, A4, o4, _⟩; have cv4 := conv_str hR4 hbl bc4; have hK0 := fun W (ho : Only [] w4 W) => Kind_any (l := S.l) (A4.only0 ho).used z hz; have hS0 := fun W (ho : Only [] w4 W) => Slots_any (l := S.l) (A4.only0 ho).used z hz; have hG0 := fun W (ho : Only [] w4 W) => Get_any (l := S.l) (A4.only0 ho).used z 0 hz ⟨by decide, by decide⟩; simp only [e1] at hK0; simp only [e2] at hS0; simp only [e3] at hG0; have hK := hid hK0; have hSl := hid hS0; have hG := hid hG0; clear hK0 hS0 hG0 A4 hR4; replace o4 := hid o4)
            | (go_at_call 28; with_reducible refine (hK.out _ (by repeat (first | with_reducible exact Only.refl _ _ | with_reducible refine Only.drew ?_ | with_reducible refine onlyN ?_ _))).mono ?_; rintro e w5 ⟨rfl, n5, rfl⟩)
            | (go_at_call 24; with_reducible refine (hSl.out _ (by repeat (first | with_reducible exact Only.refl _ _ | with_reducible refine Only.drew ?_ | with_reducible refine onlyN ?_ _))).mono ?_; rintro e w6 ⟨rfl, n6, rfl⟩)
            | (go_at_call 25; with_reducible refine (hG.out _ (by repeat (first | with_reducible exact Only.refl _ _ | with_reducible refine Only.drew ?_ | with_reducible refine onlyN ?_ _))).mono ?_; rintro e w7 ⟨rfl, n7, rfl⟩))
          go_ret
          exact ⟨rfl, (K2.out.trans (.of0 (o4.out.trans (only_drewN _ _) (by simp)))).only⟩
      | none =>
        have hin : ¬ z ∈ adrP S.l := fun h => by obtain ⟨j, hj⟩ := (findP_iff _ _).1 h; rw [hf] at hj; cases hj
        rw [hf] at e1 e2
        have e3 := getP_none S.l z 0 hf
        have e4 := putS_none S z 0 5 hf
        have e5 := copyS_none S z (by rw [hSal.out]; exact findP_nil z)
        simp only [hin, decide_false]
        simp only [Option.isSome_none, Bool.false_eq_true, if_false] at e1 e2
        clear hf hin
        go_wp2_with (first
          | (go_at_call 21; refine hB1.out.mono ?_; rintro e w4 ⟨bo4, bc4, bd4, M4, rfl, hR4, _, hM4, A4, o4, _⟩; replace hM4 := hid hM4; have cv4 := conv_str hR4 hbl bc4; have hK0 := fun W (ho : Only [] w4 W) => Kind_any (l := S.l) (A4.only0 ho).used z hz; have hS0 := fun W (ho : Only [] w4 W) => Slots_any (l := S.l) (A4.only0 ho).used z hz; have hG0 := fun W (ho : Only [] w4 W) => Get_any (l := S.l) (A4.only0 ho).used z 0 hz ⟨by decide, by decide⟩; have hP0 := fun W (ho : Only [] w4 W) => Put_any (A4.only0 ho) z 0 5 hz ⟨by decide, by decide⟩ ⟨by decide, by decide⟩; simp only [e1] at hK0; simp only [e2] at hS0; simp only [e3] at hG0; simp only [e4] at hP0; have hK := hid hK0; have hSl := hid hS0; have hG := hid hG0; have hP := hid hP0; clear hK0 hS0 hG0 hP0 A4 hR4; replace o4 := hid o4)
          | (go_at_call 28; with_reducible refine (hK.out _ (by repeat (first | with_reducible exact Only.refl _ _ | with_reducible refine Only.drew ?_ | with_reducible refine onlyN ?_ _))).mono ?_; rintro e w5 ⟨rfl, n5, rfl⟩)
          | (go_at_call 24; with_reducible refine (hSl.out _ (by repeat (first | with_reducible exact Only.refl _ _ | with_reducible refine Only.drew ?_ | with_reducible refine onlyN ?_ _))).mono ?_; rintro e w6 ⟨rfl, n6, rfl⟩)
          | (go_at_call 25; with_reducible refine (hG.out _ (by repeat (first | with_reducible exact Only.refl _ _ | with_reducible refine Only.drew ?_ | with_reducible refine onlyN ?_ _))).mono ?_; rintro e w7 ⟨rfl, n7, rfl⟩)
          | (go_at_call 26; with_reducible refine (hP.out _ (by repeat (first | with_reducible exact Only.refl _ _ | with_reducible refine Only.drew ?_ | with_reducible refine onlyN ?_ _))).mono ?_; rintro e w8 ⟨rfl, A8, K8⟩; have hC0 := Copy_any A8 (.inl hSal.out) z hz; rw [e5] at hC0; have hC := hid hC0; clear hC0 A8; replace K8 := hid K8)
          | (go_at_call 29; refine hC.out.mono ?_; rintro e w9 ⟨rfl, A9, K9⟩; have hB9 := hid (Bytes_ar A9); clear A9; replace K9 := hid K9)
          | (go_at_call 21; refine hB9.out.mono ?_; rintro e w10 ⟨bo5, bc5, bd5, M5, rfl, hR5, _, _, _, o5, _⟩; have cv5 := conv_str hR5 hbl bc5; clear hR5; replace o5 := hid o5))
        go_ret
        have hM : ∀ b, b < w.heap.size → M4 b := fun b hb => hM4.out b (hNM.out b hb)
        exact ⟨rfl, ((((K2.out.trans (.of0 (o4.out.trans (only_drewN _ _) (by simp)))).trans (K8.out.mono hM)).trans (K9.out.mono hM)).trans (.of0 o5.out)).only⟩

end Go.Proofs.Ytkaklabcfhefaaa
