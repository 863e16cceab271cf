/-
  The walk of HeapFull: it answers true of whatever number and sizes, and writes nothing that was there. No conditions.
-/
import Derived.Test.YtjmodknbifapbaaGreatDoorHQ4
import Derived.Test.YtjmodknbifapbaaGreatDoorRN30
namespace Go.Proofs.YtjmodknbifapbaaGreatDoor
open Go.RowKit

theorem own_base {w : World} {B n : Nat} {e : TypeId} {k : Nat} {v : Value} {xs : List Value} {b : Nat} (h : w.ownsRow B e k v n xs) (hb : v.ownBlock = some b) : B ≤ b := by
  rcases h.2 with ⟨rfl, _⟩ | ⟨g, cap, cur, rfl, q, _⟩
  · cases hb
  · have : g = b := by simpa [Value.ownBlock] using hb
    omega
theorem tmod_case (z : Int) : (∃ k : Nat, z.tmod 60 = -(k : Int) ∧ 0 < k ∧ k < 60) ∨ ∃ k : Nat, z.tmod 60 = (k : Int) ∧ k < 60 := by
  have b1 := Int.tmod_lt_of_pos z (show (0 : Int) < 60 by decide)
  have b2 : -60 < z.tmod 60 := Int.lt_tmod_of_pos z (show (0 : Int) < 60 by decide)
  by_cases h : z.tmod 60 < 0
  · exact .inl ⟨(-(z.tmod 60)).toNat, by omega, by omega, by omega⟩
  · exact .inr ⟨(z.tmod 60).toNat, by omega, by omega⟩
abbrev ints (zs : List Int) : List Value := zs.map fun z => .int .i64 z

/-- What stands all along. -/
structure FuI (w4 wr : World) (g n : Nat) (a : Addr) (m gv : Int) : Prop where
  heap : ∃ v xs, HeapAt wr w4.heap.size g (.pointer (some a)) n m gv v xs
  only : Only [] w4 wr
  sub : SubAt w4 (.pointer (some a))
  low : 0 ≤ gv
  high : gv ≤ m ∨ (n = 0 ∧ gv = 0)
  m1 : -5000 < m
  m2 : m < 5000
theorem FuI.subAt {w4 wr : World} {g n : Nat} {a : Addr} {m gv : Int} (h : FuI w4 wr g n a m gv) : SubAt wr (.pointer (some a)) := fun W hW => h.sub W (h.only.trans hW (by simp))
theorem FuI.no {w4 wr : World} {g n k : Nat} {a : Addr} {m gv : Int} (h : FuI w4 wr g n a m gv) (hk : k < 60) (hno : ¬ 16 + 8 * (k : Int) ≤ m - gv) :
    Calls Tryz.prog 7 #[.pointer (some ⟨g, 0, none⟩), .agg #[.int .i64 0, .string ⟨#[]⟩], .int .i64 (k : Int)] wr fun e w' => e = .returned (.tuple #[.int .i64 0, .int .i64 7]) ∧ FuI w4 w' g n a m gv := by
  obtain ⟨v, xs, hH⟩ := h.heap
  have hl := h.low
  have hh := h.high
  have h1 := h.m1
  have h2 := h.m2
  refine (array_no hH h.subAt hk (by omega) (by omega) hl (by omega) hno).mono ?_
  rintro e w' ⟨he, ho⟩
  exact ⟨he, ⟨v, xs, hH.only ho⟩, h.only.trans ho (by simp), h.sub, hl, hh, h1, h2⟩
theorem FuI.yes {w4 wr : World} {g n k : Nat} {a : Addr} {m gv : Int} (h : FuI w4 wr g n a m gv) (hn : n ≤ 100) (hk : k < 60) (hyes : 16 + 8 * (k : Int) ≤ m - gv) :
    Calls Tryz.prog 7 #[.pointer (some ⟨g, 0, none⟩), .agg #[.int .i64 0, .string ⟨#[]⟩], .int .i64 (k : Int)] wr fun e w' => e = .returned (.tuple #[.int .i64 ((n : Int) + 1), .int .i64 0]) ∧ FuI w4 w' g (n + 1) a m (gv + (16 + 8 * (k : Int))) := by
  obtain ⟨v, xs, hH⟩ := h.heap
  have hl := h.low
  have hh := h.high
  have h1 := h.m1
  have h2 := h.m2
  refine (array_yes hH h.subAt hn hk (by omega) (by omega) hl (by omega) hyes).mono ?_
  rintro e w' ⟨v', xs', he, hH', ho⟩
  refine ⟨he, ⟨v', xs', hH'⟩, h.only.next ho (fun x hx => ?_), h.sub, by omega, .inl (by omega), h1, h2⟩
  rcases List.mem_cons.1 hx with rfl | hx
  · exact hH.base
  · exact own_base hH.own (by simpa using hx)

set_option maxRecDepth 100000 in
set_option maxHeartbeats 4000000 in
theorem full_core (w : World) (x : Int) {ao : Option Addr} {zs : List Int} {cap d : Nat} (hS : RS w ao (ints zs) d) (hz : ∀ z ∈ zs, -9223372036854775808 ≤ z ∧ z < 9223372036854775808) (hlen : zs.length ≤ 9223372036854775807) :
    Calls Tryz.prog 3 #[.int .i64 x, .slice ao zs.length cap] w fun e w' => e = .returned (.bool true) ∧ Only [] w w' := by
  obtain ⟨m, hm⟩ : ∃ m, x.tmod 5000 = m := ⟨_, rfl⟩
  have m1 : m < 5000 := by rw [← hm]; exact Int.tmod_lt_of_pos x (by decide)
  have m2 : -5000 < m := by rw [← hm]; exact Int.lt_tmod_of_pos x (by decide)
  have HS := hid hS
  have HZ := hid hz
  clear hS hz
  go_enter Tryz.func3, Tryz.ntmps3
  go_wp2_with (first
    | (go_at_call 4; refine (Rn.known_any _).mono ?_; rintro e w1 ⟨rfl, hb1⟩; have O1 := hid (only_below hb1); clear hb1)
    | (go_at_call 5; refine (Rn.built_any _).mono ?_; rintro e w4 ⟨a, x4, rfl, hb4, hsub⟩; have O4 := hid (O1.out.trans (only_below hb4) (by simp)); have HSUB := hid hsub; clear hb4 hsub)
    | (go_at_call 6; refine (hnew_any _ _ _).mono ?_; rintro e w5 ⟨g, rfl, hH, ho5⟩; have HH := hid hH; have O5 := hid ho5; clear hH ho5)
    | fail)
  have hI : Hid (FuI w4 w5 g 0 a m 0) := hid ⟨⟨_, _, HH.out⟩, O5.out, (SubAt.of HSUB.out (Nat.le_refl _) fun _ _ => rfl), by omega, .inr ⟨rfl, rfl⟩, m2, m1⟩
  clear O5 HH HSUB O1
  go_loopw [9, 10, 11, 12, 13, 14] (fun v9 v10 v11 _ _ _ wr => ∃ (i n : Nat) (gv : Int), i ≤ zs.length ∧ i ≤ 60 ∧ n ≤ i ∧ v9 = .int .i64 gv ∧ v10 = .int .i64 (n : Int) ∧ v11 = .int .i64 (i : Int) ∧ 0 ≤ gv ∧ gv ≤ 5000 ∧ Hid (FuI w4 wr g n a m gv)) (fun _ _ v11 _ _ _ _ => zs.length - (intOf v11).toNat)
  case atStart => exact ⟨0, 0, 0, by omega, by omega, by omega, rfl, rfl, rfl, by omega, by omega, hI⟩
  case round =>
    obtain ⟨i, n, gv, hi, hi6, hni, rfl, rfl, rfl, hg0, hg1, hI⟩ := hrel
    by_cases hend : i < zs.length ∧ i < 60
    · obtain ⟨hlt, h60⟩ := hend
      have hr : RS wr ao (ints zs) d := HS.out.only0 (O4.out.trans hI.out.only (by simp))
      have hcl : i < (ints zs).length := by simpa using hlt
      obtain ⟨off, rfl, hcell⟩ := hr.at hcl
      have hc := hcell i (.int .i64 zs[i]) (by simp [hlt])
      have hzi := HZ.out zs[i] (List.getElem_mem hlt)
      clear hcell hr hcl
      have t1 : (i : Int) < (zs.length : Int) := by omega
      have t2 : (i : Int) < 60 := by omega
      generalize zs[i] = z at hc hzi
      rcases tmod_case z with ⟨k, hk, hk0, hk6⟩ | ⟨k, hk, hk6⟩
      · by_cases hf : 16 + 8 * (k : Int) ≤ m - gv
        · have HY := hid (hI.out.yes (by omega) hk6 hf)
          go_wp2_with (first | (go_at_call 7; refine HY.out.mono ?_; rintro e w6 ⟨rfl, h6⟩; replace h6 := hid h6) | fail)
          have h7 : Hid (FuI w4 w6 g (n + 1) a m (gv + 16 + 8 * (k : Int))) := by rw [Int.add_assoc]; exact h6
          exact ⟨⟨i + 1, n + 1, gv + 16 + 8 * (k : Int), by omega, by omega, by omega, rfl, by simp, by simp, by omega, by omega, h7⟩, by simp [intOf]; omega⟩
        · have HY := hid (hI.out.no hk6 hf)
          have hf' : 16 + 8 * (k : Int) > m - gv := by omega
          go_wp2_with (first | (go_at_call 7; refine HY.out.mono ?_; rintro e w6 ⟨rfl, h6⟩; replace h6 := hid h6) | fail)
          exact ⟨⟨i + 1, n, gv, by omega, by omega, by omega, rfl, rfl, by simp, by omega, by omega, h6⟩, by simp [intOf]; omega⟩
      · by_cases hf : 16 + 8 * (k : Int) ≤ m - gv
        · have HY := hid (hI.out.yes (by omega) hk6 hf)
          go_wp2_with (first | (go_at_call 7; refine HY.out.mono ?_; rintro e w6 ⟨rfl, h6⟩; replace h6 := hid h6) | fail)
          have h7 : Hid (FuI w4 w6 g (n + 1) a m (gv + 16 + 8 * (k : Int))) := by rw [Int.add_assoc]; exact h6
          exact ⟨⟨i + 1, n + 1, gv + 16 + 8 * (k : Int), by omega, by omega, by omega, rfl, by simp, by simp, by omega, by omega, h7⟩, by simp [intOf]; omega⟩
        · have HY := hid (hI.out.no hk6 hf)
          have hf' : 16 + 8 * (k : Int) > m - gv := by omega
          go_wp2_with (first | (go_at_call 7; refine HY.out.mono ?_; rintro e w6 ⟨rfl, h6⟩; replace h6 := hid h6) | fail)
          exact ⟨⟨i + 1, n, gv, by omega, by omega, by omega, rfl, rfl, by simp, by omega, by omega, h6⟩, by simp [intOf]; omega⟩
    · obtain ⟨v, xs, hH⟩ := hI.out.heap
      have HB := hid (bytes_any hH)
      have HC := hid (count_any hH)
      have hor := hI.out.high
      have hval : Hid ((decide (gv ≤ m) || ((n : Int) == 0)) = true) := hid (by
        rcases hor with h | ⟨rfl, rfl⟩
        · simp [h]
        · simp)
      have ho := hid (O4.out.trans hI.out.only (by simp))
      clear hor hH
      by_cases h60 : i < zs.length
      · have e1 : (i : Int) < (zs.length : Int) := by omega
        have e2 : ¬ (i : Int) < 60 := by omega
        clear hend
        go_wp2_with (first | (go_at_call 8; refine HB.out.mono ?_; rintro e w6 ⟨rfl, rfl⟩) | (go_at_call 9; refine HC.out.mono ?_; rintro e w6 ⟨rfl, rfl⟩) | fail)
        all_goals
          go_ret
          refine ⟨?_, ho.out⟩
          first | rfl | exact congrArg (fun b => Ending.returned (.bool b)) hval.out
      · have e1 : ¬ (i : Int) < (zs.length : Int) := by omega
        clear hend
        go_wp2_with (first | (go_at_call 8; refine HB.out.mono ?_; rintro e w6 ⟨rfl, rfl⟩) | (go_at_call 9; refine HC.out.mono ?_; rintro e w6 ⟨rfl, rfl⟩) | fail)
        all_goals
          go_ret
          refine ⟨?_, ho.out⟩
          first | rfl | exact congrArg (fun b => Ending.returned (.bool b)) hval.out

theorem only_bel {w w' : World} (h : Only [] w w') : Below w.heap.size w w' := h.below (Nat.le_refl _) (by simp)

namespace Rn
theorem full_walk (w : World) (x : Int) (_ : -9223372036854775808 ≤ x) (_ : x < 9223372036854775808) {v : Value} (hv : v = .slice none 0 0 ∨ (∃ a c, v = .slice (some a) 0 c) ∨ ∃ A, LiAt w A ∧ v = .slice (some ⟨A.b, A.off, none⟩) A.zs.length A.cap) :
    Calls Tryz.prog 3 #[.int .i64 x, v] w fun e w' => e = .returned (.bool true) ∧ Below w.heap.size w w' := by
  have fin : ∀ {ao : Option Addr} {zs : List Int} {cap d : Nat}, RS w ao (ints zs) d → (∀ z ∈ zs, -9223372036854775808 ≤ z ∧ z < 9223372036854775808) → zs.length ≤ 9223372036854775807 →
      Calls Tryz.prog 3 #[.int .i64 x, .slice ao zs.length cap] w fun e w' => e = .returned (.bool true) ∧ Below w.heap.size w w' := fun h1 h2 h3 => by
    refine (full_core w x h1 h2 h3).mono ?_
    rintro e w' ⟨he, ho⟩
    exact ⟨he, only_bel ho⟩
  rcases hv with rfl | ⟨a, c, rfl⟩ | ⟨A, hA, rfl⟩
  · exact fin (zs := []) (d := 0) (RS.nil _ _ _) (by simp) (by simp)
  · exact fin (zs := []) (d := 0) (RS.nil _ _ _) (by simp) (by simp)
  · refine fin (d := A.b) (.inr ⟨A.off, rfl, fun j u hj => ?_⟩) hA.wf (Nat.le_trans hA.fits hA.most)
    rw [List.getElem?_map] at hj
    cases hz : A.zs[j]? with
    | none => rw [hz] at hj; cases hj
    | some z =>
      rw [hz] at hj
      cases hj
      exact hA.cell j z hz
end Rn

end Go.Proofs.YtjmodknbifapbaaGreatDoor
