/-
  The contracts of the second program's Next and of sameInts. A place and a size together are a number of 64 bits.
-/
import Derived.Test.YtemjhlhioeopnaaDoorINext
namespace Go.Proofs.YtemjhlhioeopnaaDoor
open Go.RowKit

theorem next_lit {w w' : World} (ho : Only [] w w') (l : List Int) (cs : Array Value) (hcs : cs.toList = ics l) {b n : Nat} (hb : b = w'.heap.size) (hn : n = l.length) (hm : l.length ≤ 1000000) :
    NextPost w l (.returned (.slice (some ⟨b, 0, none⟩) n n)) (w'.alloc (.cells cs 3)) := by
  subst hb
  subst hn
  refine ⟨some ⟨w'.heap.size, 0, none⟩, l.length, rfl, ⟨ics_length l, .inr ⟨w'.heap.size, l.length, cs, rfl, ho.size, Go.heap_alloc_new _ _, Nat.le_refl _, by unfold maxLen; omega, ?_, ?_⟩⟩, ho.alloc _⟩
  · rw [← Array.length_toList, hcs, ics_length]
  · rw [hcs, List.take_of_length_le (by rw [ics_length]; exact Nat.le_refl _)]

set_option maxHeartbeats 1000000 in
set_option maxRecDepth 100000 in
theorem rnext_any (i : In) (hi : -9223372036854775808 ≤ i.1 + i.2.2.2 ∧ i.1 + i.2.2.2 ≤ 9223372036854775807) (w : World) :
    Calls Tryd.prog 18 #[inV i] w (NextPost w (nextR i)) := by
  have hc := next_cases i
  have hrc := row_cases i.2.1
  obtain ⟨a, op, n, s⟩ := i
  generalize hX : nextR (a, op, n, s) = X at *
  clear hX
  simp only at hi hc hrc
  simp only [inV]
  have o0 := (Only.refl [] w).alloc (.cells #[.int .i64 a, .int .i64 op, .int .i64 n, .int .i64 s] 23)
  have HR := rsize_any op (w.alloc (.cells #[.int .i64 a, .int .i64 op, .int .i64 n, .int .i64 s] 23))
  have HJ := rjumps_any op (w.alloc (.cells #[.int .i64 a, .int .i64 op, .int .i64 n, .int .i64 s] 23))
  have hz : (rowI op = 0 → sizeN op = 0) ∧ (rowI op ≠ 0 → sizeN op ≠ 0) := by omega
  clear hrc
  generalize rowI op = r at *
  generalize sizeN op = z at *
  replace HR := hid HR
  rcases hc with ⟨rfl, rfl⟩ | ⟨hr, hc⟩
  · have := hz.1 rfl
    subst this
    clear HJ
    go_enter Tryd.func18, Tryd.ntmps18
    go_wp2_with (go_at_call 15; refine HR.out.mono ?_; rintro e w' ⟨rfl, rfl⟩)
    go_ret
    exact next_none o0
  have hz' : ¬ ((z : Int) = 0) := by have := hz.2 hr; omega
  have g0 : ((z : Int) == 0) = false := by simpa using hz'
  clear hz hr
  rcases hc with ⟨h | h | h, rfl⟩ | ⟨rfl, rfl⟩ | ⟨h, hX⟩ | ⟨h, rfl⟩
  · subst h
    clear HJ
    go_enter Tryd.func18, Tryd.ntmps18
    go_wp2_with (go_at_call 15; refine HR.out.mono ?_; rintro e w' ⟨rfl, rfl⟩)
    go_ret
    exact next_none o0
  · subst h
    clear HJ
    go_enter Tryd.func18, Tryd.ntmps18
    go_wp2_with (go_at_call 15; refine HR.out.mono ?_; rintro e w' ⟨rfl, rfl⟩)
    go_ret
    exact next_none o0
  · subst h
    clear HJ
    go_enter Tryd.func18, Tryd.ntmps18
    go_wp2_with (go_at_call 15; refine HR.out.mono ?_; rintro e w' ⟨rfl, rfl⟩)
    go_ret
    exact next_none o0
  · clear HJ
    go_enter Tryd.func18, Tryd.ntmps18
    go_wp2_with (go_at_call 15; refine HR.out.mono ?_; rintro e w' ⟨rfl, rfl⟩)
    go_ret
    exact next_lit o0 [n] _ rfl (by simp) rfl (by simp)
  · have e2 : jumpsI op = true := by rcases h with rfl | rfl | rfl | rfl | rfl <;> rfl
    rw [e2] at HJ
    replace HJ := hid HJ
    clear e2
    by_cases he : n = a + s
    · subst he
      rw [if_pos rfl] at hX
      subst hX
      rcases h with rfl | rfl | rfl | rfl | rfl
      all_goals
        go_enter Tryd.func18, Tryd.ntmps18
        go_wp2_with (first | (go_at_call 15; refine HR.out.mono ?_; rintro e w' ⟨rfl, rfl⟩) | (go_at_call 30; refine HJ.out.mono ?_; rintro e w' ⟨rfl, rfl⟩))
        go_ret
        exact next_lit o0 [a + s] _ rfl (by simp) rfl (by simp)
    · rw [if_neg he] at hX
      subst hX
      have g3 : (n == a + s) = false := by simpa using he
      rcases h with rfl | rfl | rfl | rfl | rfl
      all_goals
        go_enter Tryd.func18, Tryd.ntmps18
        go_wp2_with (first | (go_at_call 15; refine HR.out.mono ?_; rintro e w' ⟨rfl, rfl⟩) | (go_at_call 30; refine HJ.out.mono ?_; rintro e w' ⟨rfl, rfl⟩))
        go_ret
        exact next_lit o0 [a + s, n] _ rfl (by simp) rfl (by simp)
  · obtain ⟨h42, h43, h44, h19, h20, h21, h22, h23, h24⟩ := h
    have e2 : jumpsI op = false := by
      unfold jumpsI
      by_cases q : 19 ≤ op
      · have : ¬ (op ≤ 24) := by omega
        simp [this]
      · simp [q]
    rw [e2] at HJ
    replace HJ := hid HJ
    clear e2
    have b42 : (op == 42) = false := by simpa using h42
    have b43 : (op == 43) = false := by simpa using h43
    have b44 : (op == 44) = false := by simpa using h44
    have b19 : (op == 19) = false := by simpa using h19
    go_enter Tryd.func18, Tryd.ntmps18
    go_wp2_with (first | (go_at_call 15; refine HR.out.mono ?_; rintro e w' ⟨rfl, rfl⟩) | (go_at_call 30; refine HJ.out.mono ?_; rintro e w' ⟨rfl, rfl⟩))
    go_ret
    exact next_lit o0 [a + s] _ rfl (by simp) rfl (by simp)

set_option maxHeartbeats 400000 in
set_option maxRecDepth 100000 in
theorem sameInts_any {w : World} {ao bo : Option Addr} {l : List Int} {d k cap bap : Nat} (hT : RS w ao (ics l) d) (hM : RS w bo (ics l) k) (hl : l.length ≤ 9223372036854775807) :
    Calls Tryd.prog 16 #[.slice ao l.length cap, .slice bo l.length bap] w fun e w' => e = .returned (.bool true) ∧ Only [] w w' := by
  go_enter Tryd.func16, Tryd.ntmps16
  go_wp2
  go_loopw [5] (fun i wr => ∃ j : Nat, j ≤ l.length ∧ i = .int .i64 (j : Int) ∧ Only [] w wr) (fun i _ => l.length - (intOf i).toNat)
  case atStart => exact ⟨0, by omega, rfl, Only.refl _ _⟩
  case round =>
    obtain ⟨j, hj, rfl, hor⟩ := hrel
    by_cases hlt : j < l.length
    · have g2 : ((j : Int) < (l.length : Int)) := by omega
      obtain ⟨off, rfl, y0⟩ := (hT.only0 hor).intAt hlt
      obtain ⟨off2, rfl, z0⟩ := (hM.only0 hor).intAt hlt
      clear hT hM
      generalize l[j] = s at *
      go_wp2_with fail
      go_region
      go_wp2
      exact ⟨⟨j + 1, by omega, by go_num, hor.drew⟩, by simp [intOf]; omega⟩
    · have g2 : ¬ ((j : Int) < (l.length : Int)) := by omega
      clear hT hM
      go_wp2
      go_ret
      exact ⟨rfl, hor⟩

end Go.Proofs.YtemjhlhioeopnaaDoor
