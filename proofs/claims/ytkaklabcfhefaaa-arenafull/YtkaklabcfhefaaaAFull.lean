/-
  The walk of ArenaFull. No conditions beyond the arguments' own shape.
-/
import Derived.Test.YtkaklabcfhefaaaALaw
namespace Go.Proofs.Ytkaklabcfhefaaa
open Go.RowKit

set_option linter.unusedSimpArgs false

/-- What ArenaFull makes, of the first j sizes. -/
def fullTo (m : Nat) (l : List Int) : Nat → St
  | 0 => ⟨m, [], [], none⟩
  | j + 1 => (makeS (fullTo m l j) (j : Int) (l.getD j 0 % 50)).1

def usedF (m : Nat) (l : List Int) (j : Nat) : Int := 8 * ((flW (fullTo m l j).l).length : Int)

theorem makeS_m (s : St) (k n : Int) : (makeS s k n).1.m = s.m := by
  unfold makeS
  split
  · split <;> rfl
  · rfl

theorem fullTo_m (m : Nat) (l : List Int) (j : Nat) : (fullTo m l j).m = m := by
  induction j with
  | zero => rfl
  | succ j ih => rw [fullTo, makeS_m, ih]

theorem fullTo_zero (m : Nat) (l : List Int) : fullTo m l 0 = ⟨m, [], [], none⟩ := rfl

theorem full_room (s : St) (k : Int) (n : Int) (h0 : 0 ≤ n) (h1 : n < 50) (hf : 8 * ((flW s.l).length : Int) + 16 + 8 * n ≤ (s.m : Int)) :
    roomP s.m (flW s.l) n = true ∧ (makeS s k n).2 = (8 * ((flW s.l).length : Int) + 8, 0) ∧ 8 * ((flW (makeS s k n).1.l).length : Int) = 8 * ((flW s.l).length : Int) + 16 + 8 * n := by
  have hr : roomP s.m (flW s.l) n = true := by
    unfold roomP
    simp only [decide_eq_true_eq]
    omega
  have e : makeS s k n = ({ s with l := s.l ++ [(k, List.replicate n.toNat 0)] }, (8 * ((flW s.l).length : Int) + 8, 0)) := by
    unfold makeS
    rw [if_pos (by omega), if_pos hr]
  refine ⟨hr, by rw [e], ?_⟩
  rw [e]
  show 8 * ((flW (s.l ++ [(k, List.replicate n.toNat 0)])).length : Int) = _
  rw [flW_append, List.length_append]
  simp [flW, obW]
  omega

theorem full_none (s : St) (k : Int) (n : Int) (h0 : 0 ≤ n) (h1 : n < 50) (hf : ¬ 8 * ((flW s.l).length : Int) + 16 + 8 * n ≤ (s.m : Int)) :
    roomP s.m (flW s.l) n = false ∧ makeS s k n = (s, (0, 7)) := by
  have hr : roomP s.m (flW s.l) n = false := by
    unfold roomP
    simp only [decide_eq_false_iff_not]
    omega
  refine ⟨hr, ?_⟩
  unfold makeS
  rw [if_pos (by omega), if_neg (by rw [hr]; decide)]

theorem ics_at {w : World} {ao : Option Addr} {l : List Int} {d : Nat} (h : RS w ao (ics l) d) {j : Nat} (hj : j < l.length) : ∃ off, ao = some ⟨d, off, none⟩ ∧ w.cell? ⟨d, off + j, none⟩ = some (.int .i64 l[j]) := by
  obtain ⟨off, ha, hc⟩ := h.at (j := j) (by rw [ics_length]; omega)
  exact ⟨off, ha, hc j _ (ics_get l j hj)⟩

set_option maxRecDepth 20000 in
set_option maxHeartbeats 4000000 in
theorem full_any {w : World} (x : Int) (_hx : i64 x) {ao : Option Addr} {l : List Int} {cap d : Nat} (hl : RS w ao (ics l) d) (hall : ∀ v ∈ l, i64 v) (hmax : l.length ≤ 9223372036854775807) :
    Calls Try.prog 4 #[.int .i64 x, .slice ao l.length cap] w fun e w' => e = .returned (.bool true) ∧ Only [] w w' := by
  have hW := hid within_at
  have hKn := hid (known15 w)
  have x0 : 0 ≤ x % 3000 := Int.emod_nonneg _ (by decide)
  have x1 : x % 3000 < 3000 := Int.emod_lt_of_pos _ (by decide)
  obtain ⟨m, hm⟩ : ∃ m : Nat, (m : Int) = 256 + x % 3000 := ⟨(256 + x % 3000).toNat, by omega⟩
  have hNw := hid (fun W (ho : Only [] w W) => New_any W (fun b => b < w.heap.size) (fun b hb => Nat.lt_of_lt_of_le hb ho.size) (256 + x % 3000) ⟨by omega, by omega⟩ m hm.symm (by omega) (by omega))
  generalize hy : x % 3000 = y at *
  have hWx := hid (fun W => (hW.out x 3000 ⟨by decide, by decide⟩ W).mono (R' := fun e w' => e = .returned (.int .i64 y) ∧ W = w') (fun e w' ⟨h1, h2⟩ => ⟨by rw [h1, hy], h2⟩))
  clear hy
  replace hm := hid hm
  go_enter Try.func4, Try.ntmps4
  go_wp2_with (first
    | (go_at_call 9; refine hKn.out.mono ?_; rintro e w1 ⟨rfl, ho1⟩; replace ho1 := hid ho1)
    | (go_at_call 18; with_reducible refine (hWx.out _).mono ?_; rintro e w1 ⟨rfl, rfl⟩)
    | (go_at_call 10; refine (hNw.out _ ho1.out).mono ?_; rintro e w2 ⟨rfl, A1, K1, _⟩; replace A1 := hid A1; replace K1 := hid ((Kep.of0 ho1.out).trans K1)))
  clear hNw hWx hKn
  generalize w1.heap.size = a at *
  clear ho1
  go_loopw [7, 8] (fun v i wr => ∃ j : Nat, j ≤ min 80 l.length ∧ i = .int .i64 (j : Int) ∧ v = .int .i64 (usedF m l j) ∧ Hid (Ar wr (fun b => b < w.heap.size) a (fullTo m l j).sw) ∧ Hid (Kep (fun b => b < w.heap.size) w wr)) (fun _ i _ => 80 - (intOf i).toNat)
  case atStart => exact ⟨0, Nat.zero_le _, rfl, rfl, A1, K1⟩
  case round =>
    obtain ⟨j, hj, rfl, rfl, hA, hK⟩ := hrel
    by_cases hlt : j < l.length ∧ j < 80
    · obtain ⟨h1, h2⟩ := hlt
      have hd : d < w.heap.size := hl.lt (fun e => by have := congrArg List.length e; rw [ics_length] at this; simp only [List.length_nil, Nat.mul_one] at this; omega)
      obtain ⟨off, rfl, c1⟩ := ics_at (hl.kep hK.out (fun _ => hd)) h1
      have i1 : (j : Int) < (l.length : Int) := by omega
      have i2 : (j : Int) < 80 := by omega
      have hq := hall _ (List.getElem_mem h1)
      have hg : l.getD j 0 = l[j] := by simp [h1]
      have hs : fullTo m l (j + 1) = (makeS (fullTo m l j) (j : Int) (l[j] % 50)).1 := by rw [fullTo, hg]
      have b0 : 0 ≤ l[j] % 50 := Int.emod_nonneg _ (by decide)
      have b1 : l[j] % 50 < 50 := Int.emod_lt_of_pos _ (by decide)
      have hsm := fullTo_m m l j
      have hok := hA.out.ok
      have hu : 8 * (flW (fullTo m l j).l).length ≤ (fullTo m l j).m := hok.fit
      have hm1 : (fullTo m l j).m ≤ 1048576 := hok.m1
      have hR2 := hid (fun W (ho : Only [] wr W) => (Room_any (hA.out.only0 ho) (-1) ⟨by decide, by decide⟩).mono (R' := fun e w' => e = .returned (.bool false) ∧ ∃ k, w' = W.drewN k) (fun e w' ⟨z1, z2⟩ => ⟨by rw [z1]; rfl, z2⟩))
      have hR3 := hid (fun W (ho : Only [] wr W) => (Room_any (hA.out.only0 ho) 65537 ⟨by decide, by decide⟩).mono (R' := fun e w' => e = .returned (.bool false) ∧ ∃ k, w' = W.drewN k) (fun e w' ⟨z1, z2⟩ => ⟨by rw [z1]; rfl, z2⟩))
      have hWj := hid (fun W => hW.out l[j] 50 ⟨by decide, by decide⟩ W)
      have hRn := fun W (ho : Only [] wr W) => Room_any (hA.out.only0 ho) (l[j] % 50) ⟨by omega, by omega⟩
      have hMn := fun W (ho : Only [] wr W) => (Make_any (hA.out.only0 ho) (j : Int) (l[j] % 50) ⟨by omega, by omega⟩ ⟨by omega, by omega⟩).mono (R' := fun e w' => e = .returned (.tuple #[.int .i64 (makeS (fullTo m l j) (j : Int) (l[j] % 50)).2.1, .int .i64 (makeS (fullTo m l j) (j : Int) (l[j] % 50)).2.2]) ∧ Ar w' (fun b => b < w.heap.size) a (makeS (fullTo m l j) (j : Int) (l[j] % 50)).1.sw ∧ Kep (fun b => b < w.heap.size) wr w') (fun e w' ⟨z1, z2, z3⟩ => ⟨z1, z2, (Kep.of0 ho).trans z3⟩)
      have hm' := hm.out
      by_cases hf : 8 * ((flW (fullTo m l j).l).length : Int) + 16 + 8 * (l[j] % 50) ≤ 256 + y
      · obtain ⟨g1, g2, g3⟩ := full_room (fullTo m l j) (j : Int) (l[j] % 50) b0 b1 (by omega)
        rw [← hs] at g3 hMn
        rw [g2] at hMn
        have ub : 8 * ((flW (fullTo m l j).l).length : Int) ≤ 1048576 := by omega
        have U0 : 0 ≤ 8 * ((flW (fullTo m l j).l).length : Int) := by omega
        rw [← show usedF m l j = 8 * ((flW (fullTo m l j).l).length : Int) from rfl] at hf g3 hMn ub U0
        simp only [] at hMn
        have hM := hid hMn
        replace g3 := hid g3
        replace hq := hid hq
        have hR1 := hid (fun W (ho : Only [] wr W) => (hRn W ho).mono (R' := fun e w' => e = .returned (.bool true) ∧ ∃ k, w' = W.drewN k) (fun e w' ⟨z1, z2⟩ => ⟨by rw [z1]; show _ = Ending.returned (.bool true); rw [← g1]; rfl, z2⟩))
        replace hj := hid hj
        clear hRn hMn hs hsm hok hg g1 g2 hm' hu hm1 hmax
        generalize hUU : usedF m l j = U at *
        replace hUU := hid hUU
        have z1 : 256 + y ≤ 4000 := by omega
        generalize 256 + y = z at *
        generalize l[j] % 50 = n at *
        generalize l[j] = mm at *
        clear hl hall A1 K1 h2 hW hd
        go_wp2_with (first
          | (go_at_call 18; with_reducible refine (hWj.out _).mono ?_; rintro e w3 ⟨rfl, rfl⟩)
          | (go_at_call 15; with_reducible refine (hR1.out _ (by repeat (first | with_reducible exact Only.refl _ _ | with_reducible refine Only.drew ?_ | with_reducible refine onlyN ?_ _))).mono ?_; rintro e w4 ⟨rfl, k4, rfl⟩)
          | (go_at_call 15; with_reducible refine (hR2.out _ (by repeat (first | with_reducible exact Only.refl _ _ | with_reducible refine Only.drew ?_ | with_reducible refine onlyN ?_ _))).mono ?_; rintro e w5 ⟨rfl, k5, rfl⟩)
          | (go_at_call 15; with_reducible refine (hR3.out _ (by repeat (first | with_reducible exact Only.refl _ _ | with_reducible refine Only.drew ?_ | with_reducible refine onlyN ?_ _))).mono ?_; rintro e w6 ⟨rfl, k6, rfl⟩)
          | (go_at_call 19; with_reducible refine (hM.out _ (by repeat (first | with_reducible exact Only.refl _ _ | with_reducible refine Only.drew ?_ | with_reducible refine onlyN ?_ _))).mono ?_; rintro e w7 ⟨rfl, hA7, hK7⟩; replace hA7 := hid hA7; replace hK7 := hid hK7))
        exact ⟨⟨j + 1, by have := hj.out; omega, by go_num, by rw [show usedF m l (j + 1) = _ from g3.out], hA7, hid (hK.out.trans hK7.out)⟩, by simp [intOf]; omega⟩
      · obtain ⟨g1, g2⟩ := full_none (fullTo m l j) (j : Int) (l[j] % 50) b0 b1 (by omega)
        rw [g2] at hMn hs
        simp only [] at hMn hs
        rw [← hs] at hMn
        have ub : 8 * ((flW (fullTo m l j).l).length : Int) ≤ 1048576 := by omega
        have U0 : 0 ≤ 8 * ((flW (fullTo m l j).l).length : Int) := by omega
        have g3 : usedF m l (j + 1) = usedF m l j := by unfold usedF; rw [hs]
        rw [← show usedF m l j = 8 * ((flW (fullTo m l j).l).length : Int) from rfl] at hf ub U0
        have hR1 := hid (fun W (ho : Only [] wr W) => (hRn W ho).mono (R' := fun e w' => e = .returned (.bool false) ∧ ∃ k, w' = W.drewN k) (fun e w' ⟨z1, z2⟩ => ⟨by rw [z1]; show _ = Ending.returned (.bool false); rw [← g1]; rfl, z2⟩))
        have hM := hid hMn
        replace g3 := hid g3
        replace hq := hid hq
        replace hj := hid hj
        clear hRn hMn hs hsm hok hg g1 g2 hm' hu hm1 hmax
        have z1 : 256 + y ≤ 4000 := by omega
        have hff : 256 + y < usedF m l j + 16 + 8 * (l[j] % 50) := by omega
        generalize 256 + y = z at *
        generalize hUU : usedF m l j = U at *
        replace hUU := hid hUU
        generalize l[j] % 50 = n at *
        generalize l[j] = mm at *
        clear hl hall A1 K1 h2 hW hd
        go_wp2_with (first
          | (go_at_call 18; with_reducible refine (hWj.out _).mono ?_; rintro e w3 ⟨rfl, rfl⟩)
          | (go_at_call 15; with_reducible refine (hR1.out _ (by repeat (first | with_reducible exact Only.refl _ _ | with_reducible refine Only.drew ?_ | with_reducible refine onlyN ?_ _))).mono ?_; rintro e w4 ⟨rfl, k4, rfl⟩)
          | (go_at_call 15; with_reducible refine (hR2.out _ (by repeat (first | with_reducible exact Only.refl _ _ | with_reducible refine Only.drew ?_ | with_reducible refine onlyN ?_ _))).mono ?_; rintro e w5 ⟨rfl, k5, rfl⟩)
          | (go_at_call 15; with_reducible refine (hR3.out _ (by repeat (first | with_reducible exact Only.refl _ _ | with_reducible refine Only.drew ?_ | with_reducible refine onlyN ?_ _))).mono ?_; rintro e w6 ⟨rfl, k6, rfl⟩)
          | (go_at_call 19; with_reducible refine (hM.out _ (by repeat (first | with_reducible exact Only.refl _ _ | with_reducible refine Only.drew ?_ | with_reducible refine onlyN ?_ _))).mono ?_; rintro e w7 ⟨rfl, hA7, hK7⟩; replace hA7 := hid hA7; replace hK7 := hid hK7))
        exact ⟨⟨j + 1, by have := hj.out; omega, by go_num, by rw [g3.out], hA7, hid (hK.out.trans hK7.out)⟩, by simp [intOf]; omega⟩
    · have hj2 : j = min 80 l.length := by omega
      have hok := hA.out.ok
      have hu : 8 * (flW (fullTo m l j).l).length ≤ (fullTo m l j).m := hok.fit
      have hm1 : (fullTo m l j).m ≤ 1048576 := hok.m1
      have hU := hid (fun W (ho : Only [] wr W) => (Used_any (hA.out.only0 ho).used).mono (R' := fun e w' => e = .returned (.int .i64 (usedF m l j)) ∧ W = w') (fun e w' ⟨z1, z2⟩ => ⟨by rw [z1]; rfl, z2.symm⟩))
      have hB := hid (fun W (ho : Only [] wr W) => (Bytes_any (l := (fullTo m l j).l) (hA.out.only0 ho).used).mono (R' := fun e w' => (∃ ao cap n, e = .returned (.slice ao n cap) ∧ (n : Int) = usedF m l j) ∧ Only [] wr w') (fun e w' ⟨v, z1, z2, z3⟩ => by
        obtain ⟨ao, cap, rfl⟩ := rows_slice z2
        exact ⟨⟨ao, cap, _, z1, by unfold usedF; omega⟩, ho.trans z3 (by simp)⟩))
      clear hu hm1 hok
      generalize usedF m l j = U at *
      by_cases h1 : j < l.length
      · have i1 : (j : Int) < (l.length : Int) := by omega
        have i2 : ¬ (j : Int) < 80 := by omega
        clear hj2 hlt hj
        go_wp2_with (first
          | (go_at_call 20; with_reducible refine (hU.out _ (by repeat (first | with_reducible exact Only.refl _ _ | with_reducible refine Only.drew ?_ | with_reducible refine onlyN ?_ _))).mono ?_; rintro e w4 ⟨rfl, rfl⟩)
          | (go_at_call 21; with_reducible refine (hB.out _ (by repeat (first | with_reducible exact Only.refl _ _ | with_reducible refine Only.drew ?_ | with_reducible refine onlyN ?_ _))).mono ?_; rintro e w5 ⟨⟨bo, bc, bn, rfl, hbn⟩, ho5⟩))
        go_ret
        exact ⟨rfl, (hK.out.trans (.of0 ho5)).only⟩
      · have i1 : ¬ (j : Int) < (l.length : Int) := by omega
        clear hj2 hlt hj
        go_wp2_with (first
          | (go_at_call 20; with_reducible refine (hU.out _ (by repeat (first | with_reducible exact Only.refl _ _ | with_reducible refine Only.drew ?_ | with_reducible refine onlyN ?_ _))).mono ?_; rintro e w4 ⟨rfl, rfl⟩)
          | (go_at_call 21; with_reducible refine (hB.out _ (by repeat (first | with_reducible exact Only.refl _ _ | with_reducible refine Only.drew ?_ | with_reducible refine onlyN ?_ _))).mono ?_; rintro e w5 ⟨⟨bo, bc, bn, rfl, hbn⟩, ho5⟩))
        go_ret
        exact ⟨rfl, (hK.out.trans (.of0 ho5)).only⟩

end Go.Proofs.Ytkaklabcfhefaaa
