/-
  The walk of CursorReads: it answers true, and writes nothing that was there. The bytes that came in are at most 2 to the power of 47.
-/
import Derived.Test.YtgnbimoebaagfaaAsked4
import Derived.Test.YtgnbimoebaagfaaItems
namespace Go.Proofs.Ytgnbimoebaagfaa
open Go.RowKit

/-- Whatever the item: asked. -/
theorem asked_any {w : World} {r dr x d : Nat} {bo : Option Addr} {cap : Nat} {all : List UInt8} {s : List UInt8 × Nat × Int} (h : Both w r dr x d bo cap all s) (k N : Int) (iv : Value) (hsz : s.1.length ≤ 140737488355328) :
    Calls Try.prog 11 #[.pointer (some ⟨r, 0, none⟩), .pointer (some ⟨x, 0, none⟩), .agg #[.int .i64 k, .int .i64 N, iv]] w fun e w' => e = .returned (.bool true) ∧ Both w' r dr x d bo cap all (rStep k N s) ∧ Only [r, x] w w' := by
  by_cases k1 : k = 1
  · subst k1
    exact asked_one h N iv
  by_cases k2 : k = 2
  · subst k2
    exact asked_two h N iv
  by_cases k3 : k = 3
  · subst k3
    exact asked_three h N iv
  by_cases k4 : k = 4
  · subst k4
    exact asked_four h N iv hsz
  by_cases k5 : k = 5
  · subst k5
    exact asked_five h N iv
  have e : rStep k N s = s := by simp [rStep, k1, k2, k3, k4, k5]
  rw [e]
  exact asked_none h k N iv (by simpa using k1) (by simpa using k2) (by simpa using k3) (by simpa using k4) (by simpa using k5)

theorem rTake_snd_le (s : List UInt8 × Nat × Int) (m : Nat) : (rTake s m).2.1.length ≤ s.1.length := by
  unfold rTake
  split
  · split <;> simp
  · simp

theorem rStep_le (k N : Int) (s : List UInt8 × Nat × Int) : (rStep k N s).1.length ≤ s.1.length := by
  unfold rStep
  split
  · exact rTake_snd_le _ _
  split
  · exact rTake_snd_le _ _
  split
  · exact rTake_snd_le _ _
  split
  · unfold rBytes
    split
    · simp
    · exact rTake_snd_le _ _
  split
  · exact rTake_snd_le _ _
  · simp

theorem make_room (n : Nat) (hn : n ≤ 140737488351232) (u : World) : (Instr.makeSlice 22 (.int .i64 0) (.int .i64 ((n : Int) + 8))).run Try.prog u =
    .ok (.slice (some ⟨u.heap.size, 0, none⟩) 0 (n + 8)) (u.alloc (.cells (madeCells #[.int .u8 0] (n + 8)) 5)) := by
  obtain ⟨i0, hi, hz0, hz1, hz2⟩ := info_parts info5
  have h := run_make (P := Try.prog) u 22 5 i0 (.int .u8 0) Try.underlying22 hi hz0 .i64 .i64 0 ((n : Int) + 8) (by omega) (by omega) (by rw [hz2]; omega) (by omega)
  have e : ((n : Int) + 8).toNat = n + 8 := by omega
  rw [e] at h
  simpa [hz1, Value.cells] using h

set_option maxHeartbeats 4000000 in
set_option maxRecDepth 100000 in
theorem reads_walk {w : World} {ao lao : Option Addr} {bs : List UInt8} {l : List Itm} {cap d lcap ld : Nat} (hb : BS w ao bs d) (hn : ao = none → cap = 0) (hc : bs.length ≤ cap) (hcm : cap ≤ 9223372036854775807) (hsz : bs.length ≤ 140737488351232) (hl : IS w lao l ld) (hll : l.length ≤ 9223372036854775807) :
    Calls Try.prog 3 #[.slice ao bs.length cap, .slice lao l.length lcap] w fun e w' => e = .returned (.bool true) ∧ Below w.heap.size w w' := by
  have HN := hid hn
  clear hn
  go_enter Try.func3, Try.ntmps3
  go_wp2_with fail
  refine (known_any w).mono ?_
  rintro e w1 ⟨rfl, ho1⟩
  have z1 := ho1.size
  have hmk := make_room bs.length hsz
  have ha1 := hb.only ((ho1.alloc (.cells (madeCells #[.int .u8 0] (bs.length + 8)) 5))) (by simp)
  go_wp2_with (at_builtin; refine wpList_append_bytes rfl (.tmp 14) (.tmp 15) rfl rfl rfl (World.ownsRow_made w1 (madeCells #[.int .u8 0] (bs.length + 8)) (bs.length + 8) (Nat.le_refl _) (by unfold maxLen; omega) (by rw [size_madeCells]; omega)) ha1 HN.out (by omega) (by simp) ?_)
  intro mo mcap w2 hown2 hgr2 hao2 hnn2
  have ho2 : Only [] w w2 := (ho1.alloc (.cells (madeCells #[.int .u8 0] (bs.length + 8)) 5)).next (Only.of_grown hgr2) (by simp [Value.ownBlock]; omega)
  obtain ⟨hm2, hmc, hmm, hmn, hma⟩ := BS.of_owns hown2
  have hmd : bs ≠ [] → w1.heap.size ≤ (mo.map (·.block)).getD 0 := by
    intro hne
    cases mo with
    | none => exact absurd hm2.none_nil hne
    | some a => exact (hma a rfl).1
  generalize (mo.map (·.block)).getD 0 = md at *
  have HMN := hid hmn
  have z2 := ho2.size
  clear hown2 hgr2 hao2 hnn2 hmn hma hmk ha1
  have HA := hid (newReader_any hm2 HMN.out (by omega))
  go_wp2_with fail
  refine HA.out.mono ?_
  rintro e w3 ⟨r, dr, rfl, hr3, ho3, a1, a2, a3⟩
  have b3 := hr3.lt
  have z3 := ho3.size
  have hO3 : Only [] w w3 := ho2.next ho3 (by simp)
  clear HA
  go_wp2_with fail
  have oa := (Only.refl [] w3).alloc (.cells #[.slice ao bs.length cap, .int .i64 0, .int .i64 0] 29)
  have hO4 : Only [] w (w3.alloc (.cells #[.slice ao bs.length cap, .int .i64 0, .int .i64 0] 29)) := hO3.next oa (by simp)
  have hdl : bs ≠ [] → d < w.heap.size := hb.lt
  have hml : bs ≠ [] → md < w2.heap.size := hm2.lt
  have hB : Both (w3.alloc (.cells #[.slice ao bs.length cap, .int .i64 0, .int .i64 0] 29)) r dr w3.heap.size d ao cap bs (bs, 0, 0) := by
    refine ⟨hr3.only oa (by simp) (by simp), ⟨0, { c0 := ?_, c1 := ?_, c2 := ?_, f0 := frozen_new _ _ _ _, f1 := frozen_new _ _ _ _, f2 := frozen_new _ _ _ _, data := hb.only hO4 (by simp), capLe := hc, capMax := by omega, capNone := HN.out, fit := by simp, ne := ?_ }, by simp, rfl⟩, by omega, ?_, by omega⟩
    · rw [cell_new]; rfl
    · rw [cell_new]; rfl
    · rw [cell_new]; rfl
    · intro hne
      have := hdl hne
      omega
    · intro hne
      have := hdl hne
      omega
  have hM4 := (hm2.only ho3 (by simp)).only oa (by simp)
  generalize hx : w3.heap.size = x at *
  clear hx oa hm2 hr3 ho3 ho2 ho1
  go_loopw [8] (fun i wr => ∃ j : Nat, ∃ s, j ≤ l.length ∧ i = .int .i64 (j : Int) ∧ Both wr r dr x d ao cap bs s ∧ s.1.length ≤ bs.length ∧ Only [] w wr ∧ BS wr mo bs md) (fun i _ => l.length - (intOf i).toNat)
  case atStart => exact ⟨0, (bs, 0, 0), by omega, rfl, hB, Nat.le_refl _, hO4, hM4⟩
  case round =>
    obtain ⟨j, s, hj, rfl, hB, hsl, hO, hM⟩ := hrel
    by_cases hlt : j < l.length
    · by_cases h300 : j < 300
      · have g1 : ((j : Int) < (l.length : Int)) := by omega
        have g2 : ((j : Int) < 300) := by omega
        rcases hl.below hO with hh | ⟨off, rfl, hcl⟩
        · rw [hh] at hlt
          simp at hlt
        obtain ⟨e1, e2, e3⟩ := hcl j hlt
        generalize l[j] = it at *
        clear hcl
        have HA := hid (asked_any hB it.kind it.n (.slice it.bo it.bs.length it.bcap) (by omega))
        go_wp2_with fail
        refine HA.out.mono ?_
        rintro e w5 ⟨rfl, hB5, ho5⟩
        have hlb := hB.lt
        have hle := rStep_le it.kind it.n s
        go_wp2
        refine ⟨⟨j + 1, rStep it.kind it.n s, by omega, by go_num, hB5, by omega, hO.next ho5 (by simp; omega), hM.only ho5 (fun hne => ?_)⟩, by simp [intOf]; omega⟩
        have q1 := hmd hne
        have q2 := hml hne
        simp
        omega
      · have g1 : ((j : Int) < (l.length : Int)) := by omega
        have g2 : ¬ ((j : Int) < 300) := by omega
        have kb := conv_str (hb.only hO (by simp)) cap
        have km := conv_str hM mcap
        go_wp2
        go_ret
        exact ⟨rfl, hO.below (Nat.le_refl _) (by simp)⟩
    · have g1 : ¬ ((j : Int) < (l.length : Int)) := by omega
      have kb := conv_str (hb.only hO (by simp)) cap
      have km := conv_str hM mcap
      go_wp2
      go_ret
      exact ⟨rfl, hO.below (Nat.le_refl _) (by simp)⟩

end Go.Proofs.Ytgnbimoebaagfaa
