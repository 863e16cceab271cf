/-
  The contracts of slices.Contains at numbers, Next, the second program's Next, sameInts. A place and a size together are a number of 64 bits.
-/
import Derived.Test.YtemjhlhioeopnabDoorIIn
namespace Go.Proofs.YtemjhlhioeopnabDoor
open Go.RowKit

set_option maxHeartbeats 400000 in
set_option maxRecDepth 100000 in
theorem index_int {w : World} {ao : Option Addr} {l : List Int} {d cap : Nat} (hI : RS w ao (ics l) d) (hl : l.length ≤ 9223372036854775807) (x : Int) :
    Calls Tryd.prog 25 #[.slice ao l.length cap, .int .i64 x] w fun e w' => (∃ k : Int, e = .returned (.int .i64 k) ∧ (0 ≤ k ↔ x ∈ l)) ∧ w' = w := by
  go_enter Tryd.func25, Tryd.ntmps25
  go_wp2
  go_loopw [8] (fun i wr => ∃ j : Nat, j ≤ l.length ∧ i = .int .i64 (j : Int) ∧ Hid (x ∉ l.take j) ∧ wr = w) (fun i _ => l.length - (intOf i).toNat)
  case atStart => exact ⟨0, by omega, rfl, by simp [Hid], rfl⟩
  case round =>
    obtain ⟨j, hj, rfl, hq, rfl⟩ := hrel
    by_cases hlt : j < l.length
    · have g2 : ((j : Int) < (l.length : Int)) := by omega
      obtain ⟨off, rfl, hc⟩ := hI.at (j := j) (by rw [ics_length]; omega)
      have hk := hc j _ (ics_get l j hlt)
      clear hc hI
      have hm : Hid (l[j] ∈ l) := List.getElem_mem hlt
      have hnx : Hid (x ≠ l[j] → x ∉ l.take (j + 1)) := by
        intro h1 h2
        rw [List.take_succ_eq_append_getElem hlt] at h2
        rcases List.mem_append.1 h2 with h | h
        · exact hq.out h
        · exact h1 (by simpa using h)
      generalize l[j] = y at *
      by_cases he : x = y
      · subst he
        clear hnx
        go_wp2
        go_ret
        exact ⟨⟨(j : Int), rfl, ⟨fun _ => hm.out, fun _ => by omega⟩⟩, rfl⟩
      · have g3 : (x == y) = false := by simpa using he
        replace hnx := hid (hnx.out he)
        go_wp2
        exact ⟨⟨j + 1, by omega, by go_num, hnx, by first | rfl | trivial⟩, by simp [intOf]; omega⟩
    · have g2 : ¬ ((j : Int) < (l.length : Int)) := by omega
      have hn : Hid (x ∉ l) := by
        have := hq.out
        rw [List.take_of_length_le (by omega)] at this
        exact this
      clear hI
      go_wp2
      go_ret
      exact ⟨⟨-1, rfl, ⟨fun h => by omega, fun h => absurd h hn.out⟩⟩, rfl⟩

set_option maxHeartbeats 400000 in
set_option maxRecDepth 100000 in
theorem contains_int {w : World} {ao : Option Addr} {l : List Int} {d cap : Nat} (hI : RS w ao (ics l) d) (hl : l.length ≤ 9223372036854775807) (x : Int) :
    Calls Tryd.prog 19 #[.slice ao l.length cap, .int .i64 x] w fun e w' => e = .returned (.bool (decide (x ∈ l))) ∧ w' = w := by
  have HI := hid (index_int (cap := cap) hI hl x)
  clear hI
  go_enter Tryd.func19, Tryd.ntmps19
  go_wp2_with (go_at_call 25; refine HI.out.mono ?_; rintro e w' ⟨⟨k, rfl, hk⟩, rfl⟩; replace hk := hid hk)
  go_ret
  refine ⟨?_, rfl⟩
  by_cases hx : x ∈ l
  · have := hk.out.2 hx
    simp [hx, this]
  · have : ¬ (0 ≤ k) := fun h => hx (hk.out.1 h)
    simp [hx, this]

/-- What Next answers. -/
def NextPost (w : World) (l : List Int) (e : Ending) (w' : World) : Prop := ∃ ao cap, e = .returned (.slice ao l.length cap) ∧ w'.ownsRow w.heap.size 3 1 (.slice ao l.length cap) l.length (ics l) ∧ Only [] w w'

theorem next_none {w w' : World} (ho : Only [] w w') : NextPost w [] (.returned (.slice none 0 0)) w' := ⟨none, 0, rfl, World.ownsRow_nil _ _ _ _, ho⟩

theorem row_not0 {op : Int} (h : rowI op ≠ 0) : 0 ≤ op ∧ op ≤ 45 := by
  unfold rowI at h
  split at h
  · exact absurd rfl h
  · omega

/-- Which way Next goes. -/
theorem next_cases (i : In) : (rowI i.2.1 = 0 ∧ nextR i = []) ∨ (rowI i.2.1 ≠ 0 ∧ (((i.2.1 = 42 ∨ i.2.1 = 43 ∨ i.2.1 = 44) ∧ nextR i = []) ∨ (i.2.1 = 19 ∧ nextR i = [i.2.2.1]) ∨
    ((i.2.1 = 20 ∨ i.2.1 = 21 ∨ i.2.1 = 22 ∨ i.2.1 = 23 ∨ i.2.1 = 24) ∧ nextR i = if i.2.2.1 = i.1 + i.2.2.2 then [i.1 + i.2.2.2] else [i.1 + i.2.2.2, i.2.2.1]) ∨
    ((i.2.1 ≠ 42 ∧ i.2.1 ≠ 43 ∧ i.2.1 ≠ 44 ∧ i.2.1 ≠ 19 ∧ i.2.1 ≠ 20 ∧ i.2.1 ≠ 21 ∧ i.2.1 ≠ 22 ∧ i.2.1 ≠ 23 ∧ i.2.1 ≠ 24) ∧ nextR i = [i.1 + i.2.2.2]))) := by
  obtain ⟨a, op, n, s⟩ := i
  simp only
  by_cases h0 : rowI op = 0
  · exact .inl ⟨h0, by simp [nextR, h0]⟩
  refine .inr ⟨h0, ?_⟩
  have hb := row_not0 h0
  by_cases h1 : 42 ≤ op ∧ op ≤ 44
  · exact .inl ⟨by omega, by unfold nextR; rw [if_pos (.inr h1)]⟩
  by_cases h2 : op = 19
  · exact .inr (.inl ⟨h2, by unfold nextR; rw [if_neg (by simp only; omega), if_pos h2]⟩)
  by_cases h3 : 20 ≤ op ∧ op ≤ 24
  · refine .inr (.inr (.inl ⟨by omega, ?_⟩))
    unfold nextR
    rw [if_neg (by simp only; omega), if_neg (by simp only; omega)]
    by_cases h4 : n = a + s
    · rw [if_neg (by simp [h4]), if_pos h4]
    · rw [if_pos ⟨h3.1, h3.2, h4⟩, if_neg h4]
  · refine .inr (.inr (.inr ⟨by omega, ?_⟩))
    unfold nextR
    rw [if_neg (by simp only; omega), if_neg (by simp only; omega), if_neg (by simp only; omega)]

set_option maxHeartbeats 1000000 in
set_option maxRecDepth 100000 in
theorem next_any (i : In) (hi : -9223372036854775808 ≤ i.1 + i.2.2.2 ∧ i.1 + i.2.2.2 ≤ 9223372036854775807) (w : World) :
    Calls Tryd.prog 15 #[inV i] w (NextPost w (nextR i)) := by
  have hc := next_cases i
  obtain ⟨a, op, n, s⟩ := i
  generalize hX : nextR (a, op, n, s) = X at *
  clear hX
  simp only at hi hc
  simp only [inV]
  have o0 := (Only.refl [] w).alloc (.cells #[.int .i64 a, .int .i64 op, .int .i64 n, .int .i64 s] 31)
  have I0 := hid (inAt_new w a op n s 31)
  have HR := row_any op (w.alloc (.cells #[.int .i64 a, .int .i64 op, .int .i64 n, .int .i64 s] 31))
  generalize rowI op = r at *
  replace HR := hid HR
  rcases hc with ⟨rfl, rfl⟩ | ⟨hr, hc⟩
  · go_enter Tryd.func15, Tryd.ntmps15
    go_wp2_with (go_at_call 17; refine HR.out.mono ?_; rintro e w' ⟨rfl, rfl⟩)
    go_ret
    exact next_none o0
  have g0 : (r == 0) = false := by simpa using hr
  rcases hc with ⟨h | h | h, rfl⟩ | ⟨rfl, rfl⟩ | ⟨h, hX⟩ | ⟨h, rfl⟩
  · subst h
    go_enter Tryd.func15, Tryd.ntmps15
    go_wp2_with (go_at_call 17; refine HR.out.mono ?_; rintro e w' ⟨rfl, rfl⟩)
    go_ret
    exact next_none o0
  · subst h
    go_enter Tryd.func15, Tryd.ntmps15
    go_wp2_with (go_at_call 17; refine HR.out.mono ?_; rintro e w' ⟨rfl, rfl⟩)
    go_ret
    exact next_none o0
  · subst h
    go_enter Tryd.func15, Tryd.ntmps15
    go_wp2_with (go_at_call 17; refine HR.out.mono ?_; rintro e w' ⟨rfl, rfl⟩)
    go_ret
    exact next_none o0
  · have HC := hid (fun W => contains_int (w := W) (ao := none) (l := []) (d := 0) (cap := 0) (RS.nil _ _ _) (by simp) n)
    simp only [List.length_nil, List.not_mem_nil, decide_false] at HC
    go_enter Tryd.func15, Tryd.ntmps15
    go_wp2_with (first | (go_at_call 17; refine HR.out.mono ?_; rintro e w' ⟨rfl, rfl⟩) | (go_at_call 19; refine (HC.out _).mono ?_; rintro e w' ⟨rfl, rfl⟩) | (at_builtin; refine wpList_append_any (ys := ics [n]) rfl (.tmp 35) (.tmp 38) elInt Tryd.underlying44 rfl rfl rfl (World.ownsRow_nil _ w.heap.size _ _) (rows_int _ n (by simp)) rfl (ics_one _) (by simp) (by omega) (by simp <;> omega) ?_; rintro ao' cap' w2 hA))
    go_ret
    exact ⟨ao', cap', rfl, hA.own, (o0.alloc _).next hA.only (by simp [Value.ownBlock])⟩
  · have HC := hid (fun W ao cap (hB : W.ownsRow w.heap.size 3 1 (.slice ao 1 cap) 1 (ics [a + s])) => contains_int (w := W) (ao := ao) (l := [a + s]) (cap := cap) (RS.of_owns hB).1 (by simp) n)
    simp only [List.length_singleton, List.mem_singleton] at HC
    by_cases he : n = a + s
    · subst he
      rw [if_pos rfl] at hX
      subst hX
      simp only [decide_true] at HC
      rcases h with rfl | rfl | rfl | rfl | rfl
      all_goals
        go_enter Tryd.func15, Tryd.ntmps15
        go_wp2_with (first | (go_at_call 17; refine HR.out.mono ?_; rintro e w' ⟨rfl, rfl⟩) | (go_at_call 19; refine (HC.out _ _ _ hA.own).mono ?_; rintro e w' ⟨rfl, rfl⟩) | (at_builtin; refine wpList_append_any (ys := ics [a + s]) rfl (.tmp 22) (.tmp 28) elInt Tryd.underlying44 rfl rfl rfl (World.ownsRow_nil _ w.heap.size _ _) (rows_int _ (a + s) (by simp)) rfl (ics_one _) (by simp) (by omega) (by simp <;> omega) ?_; rintro ao' cap' w2 hA; have c2 := ((I0.out.alloc _).only hA.only (by simp [Value.ownBlock])).c2; simp only [Nat.zero_add] at c2))
        go_ret
        exact ⟨ao', cap', rfl, hA.own, (o0.alloc _).next hA.only (by simp [Value.ownBlock])⟩
    · rw [if_neg he] at hX
      subst hX
      simp only [decide_eq_false he] at HC
      rcases h with rfl | rfl | rfl | rfl | rfl
      all_goals
        go_enter Tryd.func15, Tryd.ntmps15
        go_wp2_with (first | (go_at_call 17; refine HR.out.mono ?_; rintro e w' ⟨rfl, rfl⟩) | (go_at_call 19; refine (HC.out _ _ _ hA.own).mono ?_; rintro e w' ⟨rfl, rfl⟩) | (at_builtin; refine wpList_append_any (ys := ics [n]) rfl (.tmp 35) (.tmp 38) elInt Tryd.underlying44 rfl rfl rfl (hA.own.alloc _) (rows_int _ n (by simp)) rfl (ics_one _) (by simp) (by omega) (by have := hA.grown.size; simp at this ⊢; omega) ?_; rintro ao3 cap3 w3 hA3) | (at_builtin; refine wpList_append_any (ys := ics [a + s]) rfl (.tmp 22) (.tmp 28) elInt Tryd.underlying44 rfl rfl rfl (World.ownsRow_nil _ w.heap.size _ _) (rows_int _ (a + s) (by simp)) rfl (ics_one _) (by simp) (by omega) (by simp <;> omega) ?_; rintro ao' cap' w2 hA; have c2 := ((I0.out.alloc _).only hA.only (by simp [Value.ownBlock])).c2; simp only [Nat.zero_add] at c2))
        go_ret
        refine ⟨ao3, cap3, rfl, hA3.own, (((o0.alloc _).next hA.only (by simp [Value.ownBlock])).alloc _).next hA3.only ?_⟩
        intro x hx
        cases ao' with
        | none => simp [Value.ownBlock] at hx
        | some q =>
          simp [Value.ownBlock] at hx
          subst hx
          exact ((RS.of_owns hA.own).2.2.2.2 q rfl).1
  · obtain ⟨h42, h43, h44, h19, h20, h21, h22, h23, h24⟩ := h
    have b42 : (op == 42) = false := by simpa using h42
    have b43 : (op == 43) = false := by simpa using h43
    have b44 : (op == 44) = false := by simpa using h44
    have b19 : (op == 19) = false := by simpa using h19
    have b20 : (op == 20) = false := by simpa using h20
    have b21 : (op == 21) = false := by simpa using h21
    have b22 : (op == 22) = false := by simpa using h22
    have b23 : (op == 23) = false := by simpa using h23
    have b24 : (op == 24) = false := by simpa using h24
    go_enter Tryd.func15, Tryd.ntmps15
    go_wp2_with (first | (go_at_call 17; refine HR.out.mono ?_; rintro e w' ⟨rfl, rfl⟩) | (at_builtin; refine wpList_append_any (ys := ics [a + s]) rfl (.tmp 40) (.tmp 46) elInt Tryd.underlying44 rfl rfl rfl (World.ownsRow_nil _ w.heap.size _ _) (rows_int _ (a + s) (by simp)) rfl (ics_one _) (by simp) (by omega) (by simp <;> omega) ?_; rintro ao' cap' w2 hA))
    go_ret
    exact ⟨ao', cap', rfl, hA.own, (o0.alloc _).next hA.only (by simp [Value.ownBlock])⟩

end Go.Proofs.YtemjhlhioeopnabDoor
