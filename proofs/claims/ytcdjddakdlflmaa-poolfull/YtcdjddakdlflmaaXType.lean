/-
  The contracts of the second program's Type and TypeText. No conditions.
-/
import Derived.Test.YtcdjddakdlflmaaXOne
import Derived.Test.YtcdjddakdlflmaaDTText
namespace Go.Proofs.Ytcdjddakdlflmaa
open Go.RowKit

theorem rtype_result {w : World} {b : Nat} {x : Value} {t : Ty} (h : TyAt w b t) (tmps : Array Value) (h2 : tmps.getD 2 undef = .pointer (some ⟨b, 0, none⟩)) (h3 : tmps.getD 3 undef = x) :
    (results Try.f67 tmps).run Try.prog w = .ok (.tuple #[tyV t, x]) w := by
  obtain ⟨c0, c1, _, _⟩ := h
  rw [results_cell_tmp (p := 2) (u := 3) (ty := 41) Try.results67, h2, h3]
  simp [go_sem, c0, c1, tyV]

set_option maxHeartbeats 400000 in
set_option maxRecDepth 100000 in
theorem rtype_any (l : List UInt8) (hl : l.length ≤ 9223372036854775807) (w : World) : Calls Try.prog 67 #[.string (str l)] w fun e w' => e = .returned (.tuple #[tyV (typeR l).1, .int .i64 (typeR l).2]) ∧ Only [] w w' := by
  have hs := str_size l
  have R0 := hid (tyAt_new w 0 [])
  have o0 := (Only.refl [] w).alloc (.cells #[.int .i64 0, .string ⟨#[]⟩] 41)
  have HO := hid (one_any l hl 0 (Nat.zero_le _) (w.alloc (.cells #[.int .i64 0, .string ⟨#[]⟩] 41)))
  go_enter Try.func67, Try.ntmps67
  go_wp2_with fail
  refine HO.out.mono ?_
  rintro e w1 ⟨⟨td, tn⟩, n, rfl, hR, ho1⟩
  simp only [tyV]
  replace R0 := hid (R0.out.only (ho1.alloc (.cells #[.int .i64 td, .string (str tn)] 41)) (by simp))
  obtain ⟨r0, r1, rf0, rf1⟩ := R0.out
  have o1 := (o0.next ho1 (by simp)).alloc (.cells #[.int .i64 td, .string (str tn)] 41)
  unfold OneR at hR
  rw [List.drop_zero] at hR
  by_cases hq : n = (l.length : Int)
  · subst hq
    have e1 : Hid (typeR l = ((td, tn), 0)) := by
      unfold Hid typeR
      cases hf : firstP 0 l with
      | none =>
        rw [hf] at hR
        simp at hR
      | some x =>
        obtain ⟨t', r⟩ := x
        rw [hf] at hR
        simp only [] at hR
        obtain ⟨h1, h2, h3, h4⟩ := hR
        have : r = [] := List.eq_nil_of_length_eq_zero (by omega)
        subst this
        rw [← h1]
    clear hR
    go_wp2
    refine bodyPost_ret (rtype_result (R0.out.put td tn) _ rfl rfl) rfl ⟨by rw [e1.out]; rfl, (o1.setCell (.inr (by simp)) _).setCell (.inr (by simp)) _⟩
  · have hq2 : (n == (l.length : Int)) = false := by simpa using hq
    have e1 : Hid (typeR l = ((0, []), 15)) := by
      unfold Hid typeR
      cases hf : firstP 0 l with
      | none => rfl
      | some x =>
        obtain ⟨t', r⟩ := x
        rw [hf] at hR
        simp only [] at hR
        obtain ⟨h1, h2, h3, h4⟩ := hR
        cases r with
        | nil => simp at h2; exact absurd h2 hq
        | cons a b => rfl
    clear hR hq
    go_wp2
    refine bodyPost_ret (rtype_result (R0.out.put 0 []) _ rfl rfl) rfl ⟨by rw [e1.out]; rfl, (o1.setCell (.inr (by simp)) _).setCell (.inr (by simp)) _⟩

set_option maxHeartbeats 400000 in
set_option maxRecDepth 100000 in
theorem rtypeText_any (t : Ty) (hl : t.2.length ≤ 9223372036854775807) (w : World) : Calls Try.prog 76 #[tyV t] w fun e w' => e = .returned (.tuple #[.string (str (ttR t)), .int .i64 (tyCheck t)]) ∧ Only [] w w' := by
  obtain ⟨d, n⟩ := t
  have ho := (Only.refl [] w).alloc (.cells #[.int .i64 d, .string (str n)] 41)
  have HC := rcheck_any (d, n) hl (w.alloc (.cells #[.int .i64 d, .string (str n)] 41))
  have ht := str_toList n
  by_cases h : tyCheck (d, n) = 0
  · have hf := check_fit h
    obtain ⟨f1, f2, f3⟩ := hf
    have e1 : ttR (d, n) = tyText (d, n) := by simp [ttR, h]
    rw [e1, h]
    rw [h] at HC
    obtain ⟨dn, rfl⟩ : ∃ dn : Nat, d = (dn : Int) := ⟨d.toNat, by simp at f1; omega⟩
    simp only [] at f1 f2 f3
    have e2 : Hid (∀ b, b = (if n = [] then [73] else 76 :: (n ++ [59])) → tyText ((dn : Int), n) = List.replicate dn 91 ++ b) := by
      intro b hb
      rw [hb]
      simp [tyText]
    simp only [tyV] at HC ⊢
    replace HC := hid HC
    clear h e1
    go_enter Try.func76, Try.ntmps76
    go_wp2_with fail
    refine HC.out.mono ?_
    rintro e w1 ⟨rfl, ho1⟩
    have c0 : w1.cell? ⟨w.heap.size, 0, none⟩ = some (.int .i64 (dn : Int)) := by rw [ho1.cell (by simp) (by simp), cell_new]; rfl
    have c1 : w1.cell? ⟨w.heap.size, 1, none⟩ = some (.string (str n)) := by rw [ho1.cell (by simp) (by simp), cell_new]; rfl
    have o1 := ho.next ho1 (by simp)
    have hk : ∀ (x : List UInt8), x.length ≤ 100 → ∀ w, (Op.stringOp .add ⟨#[91]⟩ (str x)).run Try.prog w = .ok (.string (str (91 :: x))) w := fun x hx w => run_cat [91] x (by simp; omega) w
    by_cases hz : n = []
    · subst hz
      have e3 := e2.out [73] rfl
      replace e3 := hid e3
      go_wp2
      go_loopw [5, 6] (fun s i wr => ∃ k : Nat, k ≤ dn ∧ i = .int .i64 (k : Int) ∧ s = .string (str (List.replicate k 91 ++ [73])) ∧ wr = w1) (fun _ i _ => dn - (intOf i).toNat)
      case atStart => exact ⟨0, by omega, rfl, rfl, rfl⟩
      case round =>
        obtain ⟨k, hkd, rfl, rfl, rfl⟩ := hrel
        by_cases hlt : k < dn
        · have g1 : ((k : Int) < (dn : Int)) := by omega
          have hk1 := hk (List.replicate k 91 ++ [73]) (by simp; omega)
          have hk2 : (91 : UInt8) :: (List.replicate k 91 ++ [73]) = List.replicate (k + 1) 91 ++ [73] := by rw [List.replicate_succ]; rfl
          rw [hk2] at hk1
          clear hk hk2
          generalize List.replicate k (91 : UInt8) ++ [73] = u at *
          generalize hv : List.replicate (k + 1) (91 : UInt8) ++ [73] = u2 at *
          replace hv := hid hv
          go_wp2
          refine ⟨⟨k + 1, by omega, by go_num, by rw [hv.out], trivial⟩, by simp [intOf]; omega⟩
        · have g1 : ¬ ((k : Int) < (dn : Int)) := by omega
          obtain rfl : k = dn := by omega
          rw [← e3.out]
          go_wp2
          go_ret2
          exact ⟨rfl, o1⟩
    · have hzi : n.isEmpty = false := by simpa using hz
      have e3 := e2.out (76 :: (n ++ [59])) (by rw [if_neg hz])
      replace e3 := hid e3
      have k1 : ∀ w, (Op.stringOp .add ⟨#[76]⟩ (str n)).run Try.prog w = .ok (.string (str (76 :: n))) w := fun w => run_cat [76] n (by simp; omega) w
      have k2 : ∀ w, (Op.stringOp .add (str (76 :: n)) ⟨#[59]⟩).run Try.prog w = .ok (.string (str (76 :: (n ++ [59])))) w := fun w => run_cat (76 :: n) [59] (by simp; omega) w
      go_wp2
      go_loopw [5, 6] (fun s i wr => ∃ k : Nat, k ≤ dn ∧ i = .int .i64 (k : Int) ∧ s = .string (str (List.replicate k 91 ++ 76 :: (n ++ [59]))) ∧ wr = w1) (fun _ i _ => dn - (intOf i).toNat)
      case atStart => exact ⟨0, by omega, rfl, rfl, rfl⟩
      case round =>
        obtain ⟨k, hkd, rfl, rfl, rfl⟩ := hrel
        by_cases hlt : k < dn
        · have g1 : ((k : Int) < (dn : Int)) := by omega
          have hk1 := hk (List.replicate k 91 ++ 76 :: (n ++ [59])) (by simp; omega)
          have hk2 : (91 : UInt8) :: (List.replicate k 91 ++ 76 :: (n ++ [59])) = List.replicate (k + 1) 91 ++ 76 :: (n ++ [59]) := by rw [List.replicate_succ]; rfl
          rw [hk2] at hk1
          clear hk hk2 k1 k2
          generalize List.replicate k (91 : UInt8) ++ 76 :: (n ++ [59]) = u at *
          generalize hv : List.replicate (k + 1) (91 : UInt8) ++ 76 :: (n ++ [59]) = u2 at *
          replace hv := hid hv
          go_wp2
          refine ⟨⟨k + 1, by omega, by go_num, by rw [hv.out], trivial⟩, by simp [intOf]; omega⟩
        · have g1 : ¬ ((k : Int) < (dn : Int)) := by omega
          obtain rfl : k = dn := by omega
          rw [← e3.out]
          go_wp2
          go_ret2
          exact ⟨rfl, o1⟩
  · have e1 : ttR (d, n) = [] := by simp [ttR, h]
    rw [e1]
    generalize tyCheck (d, n) = c at *
    simp only [tyV] at HC ⊢
    replace HC := hid HC
    go_enter Try.func76, Try.ntmps76
    go_wp2_with fail
    refine HC.out.mono ?_
    rintro e w1 ⟨rfl, ho1⟩
    go_wp2
    go_ret2
    exact ⟨rfl, ho.next ho1 (by simp)⟩

end Go.Proofs.Ytcdjddakdlflmaa
