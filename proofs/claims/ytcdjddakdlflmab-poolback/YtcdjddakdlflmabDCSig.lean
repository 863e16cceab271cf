/-
  The contract of checkSig: what is wrong with a signature. No conditions.
-/
import Derived.Test.YtcdjddakdlflmabDTText
import Derived.Test.YtcdjddakdlflmabDSig
namespace Go.Proofs.Ytcdjddakdlflmab
open Go.RowKit

/-- The first thing that is wrong with types in a row. -/
def checkAll : List Ty → Int
  | [] => 0
  | t :: l => if tyCheck t = 0 then checkAll l else tyCheck t

/-- What is wrong with a signature. -/
def sigCheck (l : List Ty) (void : Bool) (t : Ty) : Int := if 16 < l.length then 4 else if checkAll l = 0 then (if void = true ∧ t ≠ (0, []) then 1 else tyCheck t) else checkAll l

theorem checkAll_ok (l : List Ty) : checkAll l = 0 ↔ ∀ t ∈ l, tyCheck t = 0 := by
  induction l with
  | nil => simp [checkAll]
  | cons t l ih =>
    unfold checkAll
    split
    · rename_i h
      simp [ih, h]
    · rename_i h
      simp [h]

theorem checkAll_at (l : List Ty) (k : Nat) (hk : k < l.length) (h0 : ∀ j (hj : j < k), tyCheck (l[j]'(by omega)) = 0) (h1 : tyCheck l[k] ≠ 0) : checkAll l = tyCheck l[k] := by
  induction l generalizing k with
  | nil => simp at hk
  | cons t l ih =>
    cases k with
    | zero =>
      simp at h1 ⊢
      simp [checkAll, h1]
    | succ k =>
      have := h0 0 (by omega)
      simp at this
      rw [checkAll, if_pos this]
      simpa using ih k (by simpa using hk) (fun j hj => by simpa using h0 (j + 1) (by omega)) (by simpa using h1)

set_option maxHeartbeats 400000 in
set_option maxRecDepth 100000 in
theorem checkSig_any {w : World} {ao : Option Addr} {l : List Ty} {d cap : Nat} (hT : TS w ao l d) (hl : l.length ≤ 9223372036854775807) (hA : ∀ t ∈ l, t.2.length ≤ 9223372036854775807) (void : Bool) (t : Ty) (ht : t.2.length ≤ 9223372036854775807) :
    Calls Try.prog 53 #[sigV (.slice ao l.length cap) void t] w fun e w' => e = .returned (.int .i64 (sigCheck l void t)) ∧ Only [] w w' := by
  obtain ⟨td, tn⟩ := t
  simp only [sigV]
  by_cases h16 : 16 < l.length
  · have g1 : (16 < (l.length : Int)) := by omega
    have e1 : sigCheck l void (td, tn) = 4 := by simp [sigCheck, h16]
    rw [e1]
    go_enter Try.func53, Try.ntmps53
    go_wp2
    go_ret
    exact ⟨rfl, (Only.refl [] w).alloc _⟩
  · have g1 : ¬ (16 < (l.length : Int)) := by omega
    go_enter Try.func53, Try.ntmps53
    go_wp2
    go_loopw [13] (fun i wr => ∃ k : Nat, k ≤ l.length ∧ i = .int .i64 (k : Int) ∧ (∀ j (hj : j < l.length), j < k → tyCheck l[j] = 0) ∧ Only [] (w.alloc (.cells #[.slice ao l.length cap, .bool void, .int .i64 td, .string (str tn)] 34)) wr) (fun i _ => l.length - (intOf i).toNat)
    case atStart => exact ⟨0, by omega, rfl, fun j _ h => by omega, Only.refl _ _⟩
    case round =>
      obtain ⟨k, hk, rfl, hok, hor⟩ := hrel
      have ho0 := (Only.refl [] w).alloc (.cells #[.slice ao l.length cap, .bool void, .int .i64 td, .string (str tn)] 34)
      have hon := ho0.next hor (by simp)
      have c1 : wr.cell? ⟨w.heap.size, 1, none⟩ = some (.bool void) := by rw [hor.cell (by simp) (by simp), cell_new]; rfl
      have c2 : wr.cell? ⟨w.heap.size, 2, none⟩ = some (.int .i64 td) := by rw [hor.cell (by simp) (by simp), cell_new]; rfl
      have c3 : wr.cell? ⟨w.heap.size, 3, none⟩ = some (.string (str tn)) := by rw [hor.cell (by simp) (by simp), cell_new]; rfl
      by_cases hlt : k < l.length
      · have g2 : ((k : Int) < (l.length : Int)) := by omega
        have hne : l ≠ [] := by intro e; simp [e] at hlt
        rcases hT.only hon (by simp) with h | ⟨off, rfl, hc⟩
        · exact absurd h hne
        obtain ⟨y0, y1⟩ := hc k hlt
        clear hc
        have hat := fun (h : tyCheck l[k] ≠ 0) => checkAll_at l k hlt (fun j hj => hok j (by omega) hj) h
        have hnx : tyCheck l[k] = 0 → ∀ j (hj : j < l.length), j < k + 1 → tyCheck l[j] = 0 := by
          intro h0 j hj hjk
          by_cases e : j = k
          · subst e
            exact h0
          · exact hok j hj (by omega)
        have hln := hA l[k] (List.getElem_mem hlt)
        generalize l[k] = t at *
        obtain ⟨d0, nm⟩ := t
        clear hok
        have HC := check_any (d0, nm) hln (wr.alloc (.cells #[.int .i64 d0, .string (str nm)] 31))
        by_cases hz : tyCheck (d0, nm) = 0
        · rw [hz] at HC
          simp only [tyV] at HC y0 y1
          have HC := hid HC
          have hnx := hid (hnx hz)
          clear hat hz
          go_wp2_with (go_at_call 50; refine HC.out.mono ?_; rintro e w2 ⟨rfl, ho2⟩)
          exact ⟨⟨k + 1, by omega, by go_num, hnx.out, (hor.alloc _).next ho2 (by simp)⟩, by simp [intOf]; omega⟩
        · have hat := hat hz
          have e1 : Hid (sigCheck l void (td, tn) = tyCheck (d0, nm)) := by
            unfold Hid sigCheck
            rw [if_neg h16, hat, if_neg hz]
          clear hat hnx
          generalize tyCheck (d0, nm) = c at *
          simp only [tyV] at HC y0 y1
          have HC := hid HC
          go_wp2_with (go_at_call 50; refine HC.out.mono ?_; rintro e w2 ⟨rfl, ho2⟩)
          go_ret
          exact ⟨by rw [e1.out]; rfl, (hon.alloc _).next ho2 (by simp)⟩
      · have g2 : ¬ ((k : Int) < (l.length : Int)) := by omega
        obtain rfl : k = l.length := by omega
        have hall : checkAll l = 0 := (checkAll_ok l).2 fun t ht => by
          obtain ⟨j, hj, rfl⟩ := List.getElem_of_mem ht
          exact hok j hj hj
        clear hok
        have hq := neq_type (td, tn) (0, [])
        rw [ty_zero] at hq
        simp only [tyV] at hq
        have HC := check_any (td, tn) ht wr
        simp only [tyV] at HC
        have HC := hid HC
        by_cases hz : (td, tn) = (((0 : Int), []) : Ty)
        · have e1 : Hid (sigCheck l void (td, tn) = tyCheck (td, tn)) := by
            unfold Hid sigCheck
            rw [if_neg h16, if_pos hall, if_neg (by simp [hz])]
          simp only [hz, decide_true, Bool.not_true] at hq
          clear hz hall
          cases void
          · go_wp2_with (go_at_call 50; refine HC.out.mono ?_; rintro e w2 ⟨rfl, ho2⟩)
            go_ret
            exact ⟨by rw [e1.out]; rfl, hon.next ho2 (by simp)⟩
          · go_wp2_with (go_at_call 50; refine HC.out.mono ?_; rintro e w2 ⟨rfl, ho2⟩)
            go_ret
            exact ⟨by rw [e1.out]; rfl, hon.next ho2 (by simp)⟩
        · have e1 : Hid (sigCheck l void (td, tn) = if void = true then 1 else tyCheck (td, tn)) := by
            unfold Hid sigCheck
            rw [if_neg h16, if_pos hall]
            simp [hz]
          simp only [hz, decide_false, Bool.not_false] at hq
          clear hz hall
          cases void
          · go_wp2_with (go_at_call 50; refine HC.out.mono ?_; rintro e w2 ⟨rfl, ho2⟩)
            go_ret
            exact ⟨by rw [e1.out]; simp, hon.next ho2 (by simp)⟩
          · go_wp2
            go_ret
            exact ⟨by rw [e1.out]; simp, hon⟩

end Go.Proofs.Ytcdjddakdlflmab
