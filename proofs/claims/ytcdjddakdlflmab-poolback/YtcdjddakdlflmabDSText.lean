/-
  The contract of SigText: a signature's text, or what is wrong with it. No conditions.
-/
import Derived.Test.YtcdjddakdlflmabDCSig
namespace Go.Proofs.Ytcdjddakdlflmab
open Go.RowKit

/-- A right signature's text. -/
def sigText (l : List Ty) (void : Bool) (t : Ty) : List UInt8 := 40 :: (tyTexts l ++ 41 :: (if void = true then [86] else tyText t))
def stR (l : List Ty) (void : Bool) (t : Ty) : List UInt8 := if sigCheck l void t = 0 then sigText l void t else []

theorem sigCheck_ok {l : List Ty} {void : Bool} {t : Ty} (h : sigCheck l void t = 0) : l.length ≤ 16 ∧ (∀ x ∈ l, tyCheck x = 0) ∧ tyCheck t = 0 ∧ (void = true → t = (0, [])) := by
  unfold sigCheck at h
  split at h
  · omega
  · split at h
    · rename_i h1 h2
      split at h
      · omega
      · rename_i h3
        refine ⟨by omega, (checkAll_ok l).1 h2, h, fun hv => ?_⟩
        by_cases e : t = (0, [])
        · exact e
        · exact absurd ⟨hv, e⟩ h3
    · contradiction

set_option maxHeartbeats 400000 in
set_option maxRecDepth 100000 in
theorem sigText_any {w : World} {ao : Option Addr} {l : List Ty} {d cap : Nat} (hT : TS w ao l d) (hl : l.length ≤ 9223372036854775807) (hA : ∀ t ∈ l, t.2.length ≤ 9223372036854775807) (void : Bool) (t : Ty) (ht : t.2.length ≤ 9223372036854775807) :
    Calls Try.prog 37 #[sigV (.slice ao l.length cap) void t] w fun e w' => e = .returned (.tuple #[.string (str (stR l void t)), .int .i64 (sigCheck l void t)]) ∧ Only [] w w' := by
  have ho := (Only.refl [] w).alloc (.cells #[.slice ao l.length cap, .bool void, .int .i64 t.1, .string (str t.2)] 34)
  have HC := hid (checkSig_any (cap := cap) (hT.only ho (by simp)) hl hA void t ht)
  by_cases h : sigCheck l void t = 0
  · obtain ⟨h1, h2, h3, h4⟩ := sigCheck_ok h
    have e1 : stR l void t = sigText l void t := by simp [stR, h]
    have hlen := fits_len l fun x hx => check_fit (h2 x hx)
    have hlt := fit_len (check_fit h3)
    have hft := check_fit h3
    rw [e1, h]
    rw [h] at HC
    clear e1 h h3
    obtain ⟨td, tn⟩ := t
    cases void with
    | true =>
      clear h4
      simp only [sigV] at HC ⊢
      have e2 : Hid (sigText l true (td, tn) = 40 :: (tyTexts l ++ [41, 86])) := by simp [Hid, sigText]
      go_enter Try.func37, Try.ntmps37
      go_wp2_with fail
      refine HC.out.mono ?_
      rintro e w1 ⟨rfl, ho1⟩
      have c0 : w1.cell? ⟨w.heap.size, 0, none⟩ = some (.slice ao l.length cap) := by rw [ho1.cell (by simp) (by simp), cell_new]; rfl
      have c1 : w1.cell? ⟨w.heap.size, 1, none⟩ = some (.bool true) := by rw [ho1.cell (by simp) (by simp), cell_new]; rfl
      have o1 := ho.next ho1 (by simp)
      have HT := hid (texts_any (cap := cap) (hT.only o1 (by simp)) (fun x hx => check_fit (h2 x hx)) (by omega))
      go_wp2_with fail
      refine HT.out.mono ?_
      rintro e w2 ⟨rfl, ho2⟩
      generalize tyTexts l = u at *
      have k1 : ∀ w, (Op.stringOp .add ⟨#[40]⟩ (str u)).run Try.prog w = .ok (.string (str (40 :: u))) w := fun w => run_cat [40] u (by simp; omega) w
      have k2 : ∀ w, (Op.stringOp .add (str (40 :: u)) ⟨#[41]⟩).run Try.prog w = .ok (.string (str (40 :: (u ++ [41])))) w := fun w => run_cat (40 :: u) [41] (by simp; omega) w
      have k3 : ∀ w, (Op.stringOp .add (str (40 :: (u ++ [41]))) ⟨#[86]⟩).run Try.prog w = .ok (.string (str (40 :: (u ++ [41, 86])))) w := fun w => by
        have := run_cat (40 :: (u ++ [41])) [86] (by simp; omega) w
        simp only [List.cons_append, List.append_assoc, List.nil_append] at this
        exact this
      go_wp2
      go_ret2
      exact ⟨by rw [e2.out]; rfl, o1.next ho2 (by simp)⟩
    | false =>
      clear h4
      simp only [sigV] at HC ⊢
      have e2 : Hid (sigText l false (td, tn) = 40 :: (tyTexts l ++ 41 :: tyText (td, tn))) := by simp [Hid, sigText]
      go_enter Try.func37, Try.ntmps37
      go_wp2_with fail
      refine HC.out.mono ?_
      rintro e w1 ⟨rfl, ho1⟩
      have c0 : w1.cell? ⟨w.heap.size, 0, none⟩ = some (.slice ao l.length cap) := by rw [ho1.cell (by simp) (by simp), cell_new]; rfl
      have c1 : w1.cell? ⟨w.heap.size, 1, none⟩ = some (.bool false) := by rw [ho1.cell (by simp) (by simp), cell_new]; rfl
      have c2 : w1.cell? ⟨w.heap.size, 2, none⟩ = some (.int .i64 td) := by rw [ho1.cell (by simp) (by simp), cell_new]; rfl
      have c3 : w1.cell? ⟨w.heap.size, 3, none⟩ = some (.string (str tn)) := by rw [ho1.cell (by simp) (by simp), cell_new]; rfl
      have o1 := ho.next ho1 (by simp)
      have HR := texts_any (cap := 1) (ts_one w1 (td, tn) 31) (by intro t ht; simp at ht; subst ht; exact hft) (by simp)
      simp only [tyTexts, List.append_nil, List.length_cons, List.length_nil] at HR
      have HR := hid HR
      go_wp2_with fail
      refine HR.out.mono ?_
      rintro e w2 ⟨rfl, ho2⟩
      have o2 := (o1.alloc (.cells #[.int .i64 td, .string (str tn)] 31)).next ho2 (by simp)
      have c0 : w2.cell? ⟨w.heap.size, 0, none⟩ = some (.slice ao l.length cap) := by rw [ho2.cell (by have := World.block_lt_of_cell? _ _ c0; simp at this ⊢; omega) (by simp)]; exact cell_alloc _ c0
      clear c1 c2 c3
      have HT := hid (texts_any (cap := cap) (hT.only o2 (by simp)) (fun x hx => check_fit (h2 x hx)) (by omega))
      go_wp2_with fail
      refine HT.out.mono ?_
      rintro e w3 ⟨rfl, ho3⟩
      generalize tyTexts l = u at *
      generalize tyText (td, tn) = v at *
      have k1 : ∀ w, (Op.stringOp .add ⟨#[40]⟩ (str u)).run Try.prog w = .ok (.string (str (40 :: u))) w := fun w => run_cat [40] u (by simp; omega) w
      have k2 : ∀ w, (Op.stringOp .add (str (40 :: u)) ⟨#[41]⟩).run Try.prog w = .ok (.string (str (40 :: (u ++ [41])))) w := fun w => run_cat (40 :: u) [41] (by simp; omega) w
      have k3 : ∀ w, (Op.stringOp .add (str (40 :: (u ++ [41]))) (str v)).run Try.prog w = .ok (.string (str (40 :: (u ++ 41 :: v)))) w := fun w => by
        have := run_cat (40 :: (u ++ [41])) v (by simp; omega) w
        simp only [List.cons_append, List.append_assoc, List.nil_append] at this
        exact this
      go_wp2
      go_ret2
      exact ⟨by rw [e2.out]; rfl, o2.next ho3 (by simp)⟩
  · have e1 : stR l void t = [] := by simp [stR, h]
    rw [e1]
    obtain ⟨td, tn⟩ := t
    generalize sigCheck l void (td, tn) = c at *
    simp only [sigV] at HC ⊢
    go_enter Try.func37, Try.ntmps37
    go_wp2_with fail
    refine HC.out.mono ?_
    rintro e w1 ⟨rfl, ho1⟩
    go_wp2
    go_ret2
    exact ⟨rfl, ho.next ho1 (by simp)⟩

end Go.Proofs.Ytcdjddakdlflmab
