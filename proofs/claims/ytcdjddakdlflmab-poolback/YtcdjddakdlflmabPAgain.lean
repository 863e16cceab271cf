/-
  The contract of again: a call of a builder. Its list has less than 10000 entries.
-/
import Derived.Test.YtcdjddakdlflmabPBuild2
import Derived.Test.YtcdjddakdlflmabPCall
import Derived.Laws.OwnMore
namespace Go.Proofs.Ytcdjddakdlflmab
open Go.RowKit

/-- What a call does to a builder's list, and answers. -/
def againB (l : List En) (x : Cal) : List En × Int × Int :=
  if x.k = 1 then textB l x.m else if x.k = 2 then numberB l x.n else if x.k = 3 then classB l x.c else if x.k = 4 then typeB l x.t else
  if x.k = 5 then fieldB l x.c x.m x.t else if x.k = 6 then methodB l x.c x.m (x.ps, x.v, x.r) else (l, 0, 3)

theorem fit_len' (l : List En) (hl : l.length ≤ 4096) (x : List En × Int) : (fitE l.length x).1.length ≤ 4096 := by
  unfold fitE
  split
  · simp
    omega
  · simp only
    omega

theorem againB_len (l : List En) (hl : l.length ≤ 4096) (x : Cal) : (againB l x).1.length ≤ 4096 := by
  unfold againB
  split
  · unfold textB
    split
    · exact fit_len' l hl _
    · exact hl
  split
  · exact fit_len' l hl _
  split
  · unfold classB
    split
    · exact fit_len' l hl _
    · exact hl
  split
  · unfold typeB
    split
    · exact fit_len' l hl _
    · exact hl
  split
  · unfold fieldB
    split
    · split
      · exact fit_len' l hl _
      · exact hl
    · exact hl
  split
  · unfold methodB
    split
    · split
      · split
        · exact fit_len' l hl _
        · exact hl
      · exact hl
    · exact hl
  · exact hl

theorem newE_len (l : List En) : (newE l).length ≤ 4096 := by
  unfold newE
  split
  · rename_i h
    unfold checkE at h
    split at h
    · cases h
    · omega
  · simp

set_option maxHeartbeats 1000000 in
set_option maxRecDepth 100000 in
theorem again_any {w : World} {b : Nat} {R : Option Nat} {l : List En} (h : Bd w b R l) (hl : l.length < 10000) {x : Cal} (hx : CalOK w x) :
    Calls Try.prog 7 #[.pointer (some ⟨b, 0, none⟩), clV x] w fun e w' => BPost (againB l x) w b R e w' := by
  have o0 := (Only.refl [] w).alloc (.cells #[.int .i64 x.k, .int .i64 x.n, .string (str x.c), .string (str x.m), .int .i64 x.t.1, .string (str x.t.2), .slice x.ao x.ps.length x.cap, .bool x.v, .int .i64 x.r.1, .string (str x.r.2)] 36)
  have B0 := h.only o0 (by simp) (by simp)
  have X0 := hx.only o0 (by simp)
  have hy : ∃ y, y = againB l x := ⟨_, rfl⟩
  obtain ⟨y, hy⟩ := hy
  rw [← hy]
  obtain ⟨k, n, c, m, ⟨td, tn⟩, ao, cap, d, ps, v, ⟨rd, rn⟩⟩ := x
  simp only [clV] at *
  obtain ⟨X1, X2, X3, X4, X5, X6, X7, X8⟩ := X0
  simp only at X1 X2 X3 X4 X5 X6 X7 X8
  replace hy := hid hy
  replace B0 := hid B0
  replace X1 := hid X1
  replace X7 := hid X7
  clear hx X2 h
  by_cases h1 : k = 1
  · subst h1
    have ey : y = textB l m := by rw [hy.out]; simp [againB]
    have HB := btext_any B0.out hl m X4
    rw [← ey] at HB
    unfold BPost at HB
    replace HB := hid HB
    clear hy ey
    go_enter Try.func7, Try.ntmps7
    go_wp2_with (go_at_call 15; refine HB.out.mono ?_; rintro e w1 ⟨rfl, R1, hb1⟩)
    go_ret2
    exact ⟨rfl, R1, Bt.first o0 hb1⟩
  have g1 : (k == 1) = false := by simpa using h1
  by_cases h2 : k = 2
  · subst h2
    have ey : y = numberB l n := by rw [hy.out]; simp [againB]
    have HB := bnumber_any B0.out hl n
    rw [← ey] at HB
    unfold BPost at HB
    replace HB := hid HB
    clear hy ey h1 g1
    go_enter Try.func7, Try.ntmps7
    go_wp2_with (go_at_call 16; refine HB.out.mono ?_; rintro e w1 ⟨rfl, R1, hb1⟩)
    go_ret2
    exact ⟨rfl, R1, Bt.first o0 hb1⟩
  have g2 : (k == 2) = false := by simpa using h2
  by_cases h3 : k = 3
  · subst h3
    have ey : y = classB l c := by rw [hy.out]; simp [againB]
    have HB := bclass_any B0.out hl c X3
    rw [← ey] at HB
    unfold BPost at HB
    replace HB := hid HB
    clear hy ey h1 g1 h2 g2
    go_enter Try.func7, Try.ntmps7
    go_wp2_with (go_at_call 12; refine HB.out.mono ?_; rintro e w1 ⟨rfl, R1, hb1⟩)
    go_ret2
    exact ⟨rfl, R1, Bt.first o0 hb1⟩
  have g3 : (k == 3) = false := by simpa using h3
  by_cases h4 : k = 4
  · subst h4
    have ey : y = typeB l (td, tn) := by rw [hy.out]; simp [againB]
    have HB := btype_any B0.out hl (td, tn) X5
    rw [← ey] at HB
    unfold BPost at HB
    simp only [tyV] at HB
    replace HB := hid HB
    clear hy ey h1 g1 h2 g2 h3 g3
    go_enter Try.func7, Try.ntmps7
    go_wp2_with (go_at_call 17; refine HB.out.mono ?_; rintro e w1 ⟨rfl, R1, hb1⟩)
    go_ret2
    exact ⟨rfl, R1, Bt.first o0 hb1⟩
  have g4 : (k == 4) = false := by simpa using h4
  by_cases h5 : k = 5
  · subst h5
    have ey : y = fieldB l c m (td, tn) := by rw [hy.out]; simp [againB]
    have HB := bfield_any B0.out hl c m X3 X4 (td, tn) X5
    rw [← ey] at HB
    unfold BPost at HB
    simp only [tyV] at HB
    replace HB := hid HB
    clear hy ey h1 g1 h2 g2 h3 g3 h4 g4
    go_enter Try.func7, Try.ntmps7
    go_wp2_with (go_at_call 13; refine HB.out.mono ?_; rintro e w1 ⟨rfl, R1, hb1⟩)
    go_ret2
    exact ⟨rfl, R1, Bt.first o0 hb1⟩
  have g5 : (k == 5) = false := by simpa using h5
  by_cases h6 : k = 6
  · subst h6
    have ey : y = methodB l c m (ps, v, (rd, rn)) := by rw [hy.out]; simp [againB]
    have HB := bmethod_any (cap0 := cap) B0.out hl c m X3 X4 X1.out X6 X7.out v (rd, rn) X8
    rw [← ey] at HB
    unfold BPost at HB
    simp only [sigV] at HB
    replace HB := hid HB
    clear hy ey h1 g1 h2 g2 h3 g3 h4 g4 h5 g5
    go_enter Try.func7, Try.ntmps7
    go_wp2_with (go_at_call 18; refine HB.out.mono ?_; rintro e w1 ⟨rfl, R1, hb1⟩)
    go_ret2
    exact ⟨rfl, R1, Bt.first o0 hb1⟩
  have g6 : (k == 6) = false := by simpa using h6
  have ey : y = (l, 0, 3) := by rw [hy.out]; simp [againB, h1, h2, h3, h4, h5, h6]
  subst ey
  clear hy h1 h2 h3 h4 h5 h6
  go_enter Try.func7, Try.ntmps7
  go_wp2
  go_ret2
  exact ⟨rfl, R, Bt.first o0 (Bt.refl B0.out)⟩

end Go.Proofs.Ytcdjddakdlflmab
