/-
  The walk of InstrWords: it answers true of whatever number, and writes nothing that was there. The table of words holds the words.
-/
import Derived.Test.YtemjhlhioeopnabDoorIKnown
namespace Go.Proofs.YtemjhlhioeopnabDoor
open Go.RowKit

theorem cat_x (x : List UInt8) (h : x.length ≤ 9223372036854775000) (w : World) : (Op.stringOp .add (str x) ⟨#[120]⟩).run Tryd.prog w = .ok (.string (str (x ++ [120]))) w := by
  have e : (⟨#[120]⟩ : ByteArray) = str [120] := rfl
  rw [e, run_string_add_sum w _ _ (by rw [str_size, str_size]; simp; omega)]
  simp [str, ByteArray.mk_append_mk]

theorem words_all : (List.range 46).all (fun j => decide (wordsI.getD j [] ≠ []) && decide (opI (wordsI.getD j []) = ((j : Int), true)) && decide (opI (wordsI.getD j [] ++ [120]) = (0, false)) && decide ((wordsI.getD j []).length ≤ 10)) = true := by kernel_rfl

theorem words_facts (j : Nat) (h : j < wordsI.length) : wordsI[j] ≠ [] ∧ opI wordsI[j] = ((j : Int), true) ∧ opI (wordsI[j] ++ [120]) = (0, false) ∧ wordsI[j].length ≤ 10 := by
  have h46 : j < 46 := h
  have := List.all_eq_true.1 words_all j (by simp [h46])
  have e : wordsI.getD j [] = wordsI[j] := by rw [List.getD_eq_getElem?_getD, List.getElem?_eq_getElem h]; rfl
  rw [e] at this
  simp only [Bool.and_eq_true, decide_eq_true_eq] at this
  exact ⟨this.1.1.1, this.1.1.2, this.1.2, this.2⟩

set_option maxHeartbeats 1000000 in
set_option maxRecDepth 100000 in
theorem words_any {w : World} (hL : Laid w) (op : Int) :
    Calls Tryd.prog 4 #[.int .i64 op] w fun e w' => e = .returned (.bool true) ∧ Only [] w w' := by
  have HK := hid (known_any hL)
  have HN := fun W (hW : Only [] w W) => iname_any (hL.only hW) op
  have HO := hid (fun W (hW : Only [] w W) s => iop_any (hL.only hW) s)
  have HS := fun W => size_any op W
  clear hL
  by_cases h : op < 0 ∨ 45 < op
  · have e1 := nameI_out h
    have e2 : sizeN op = 0 := by unfold sizeN; rw [if_pos h]
    rw [e1] at HN
    rw [e2] at HS
    replace HN := hid HN
    replace HS := hid HS
    have hst := str_toList []
    clear e1 e2 HO
    rcases h with h | h
    · go_enter Tryd.func4, Tryd.ntmps4
      go_wp2_with (first | (go_at_call 7; refine HK.out.mono ?_; rintro e w1 ⟨rfl, ho1⟩) | (go_at_call 12; refine (HN.out _ ho1).mono ?_; rintro e w2 ⟨rfl, rfl⟩) | (go_at_call 11; refine (HS.out _).mono ?_; rintro e w3 ⟨rfl, rfl⟩))
      go_ret
      exact ⟨rfl, ho1⟩
    · have h0 : ¬ (op < 0) := by omega
      go_enter Tryd.func4, Tryd.ntmps4
      go_wp2_with (first | (go_at_call 7; refine HK.out.mono ?_; rintro e w1 ⟨rfl, ho1⟩) | (go_at_call 12; refine (HN.out _ ho1).mono ?_; rintro e w2 ⟨rfl, rfl⟩) | (go_at_call 11; refine (HS.out _).mono ?_; rintro e w3 ⟨rfl, rfl⟩))
      go_ret
      exact ⟨rfl, ho1⟩
  · obtain ⟨j, rfl⟩ : ∃ j : Nat, op = (j : Int) := ⟨op.toNat, by omega⟩
    have hj : j < wordsI.length := by rw [words_length]; omega
    obtain ⟨f1, f2, f3, f4⟩ := words_facts j hj
    have hz : 1 ≤ sizeN (j : Int) ∧ sizeN (j : Int) ≤ 3 := by
      have := row_cases (j : Int)
      have hr : rowI (j : Int) ≠ 0 := by
        unfold rowI
        rw [if_neg h]
        repeat' split
        all_goals decide
      omega
    rw [nameI_at j hj] at HN
    have HO1 := fun W hW => HO.out W hW wordsI[j]
    have HO2 := fun W hW => HO.out W hW (wordsI[j] ++ [120])
    rw [f2] at HO1
    rw [f3] at HO2
    have hcat := fun W => cat_x wordsI[j] (by omega) W
    have hst := str_toList wordsI[j]
    have he : (wordsI[j] == []) = false := by simpa using f1
    have c1 : ¬ ((j : Int) < 0) := by omega
    have c2 : ¬ (45 < (j : Int)) := by omega
    generalize sizeN (j : Int) = z at *
    have c3 : ¬ ((z : Int) < 1) := by omega
    have c4 : ¬ (3 < (z : Int)) := by omega
    clear HO h f1 f2 f3 f4
    generalize wordsI[j] = t at *
    replace HN := hid HN
    replace HS := hid HS
    replace HO1 := hid HO1
    replace HO2 := hid HO2
    go_enter Tryd.func4, Tryd.ntmps4
    go_wp2_with (first | (go_at_call 7; refine HK.out.mono ?_; rintro e w1 ⟨rfl, ho1⟩) | (go_at_call 12; refine (HN.out _ ho1).mono ?_; rintro e w2 ⟨rfl, rfl⟩) | (go_at_call 13; (with_reducible refine (HO1.out _ ho1).mono ?_); rintro e w3 ⟨rfl, rfl⟩) | (go_at_call 13; (with_reducible refine (HO2.out _ ho1).mono ?_); rintro e w3 ⟨rfl, rfl⟩) | (go_at_call 11; refine (HS.out _).mono ?_; rintro e w3 ⟨rfl, rfl⟩))
    go_ret
    exact ⟨rfl, ho1⟩

theorem words_walk {w : World} (hL : Laid w) (op : Int) :
    Calls Tryd.prog 4 #[.int .i64 op] w fun e w' => e = .returned (.bool true) ∧ Below w.heap.size w w' :=
  (words_any hL op).mono fun _ _ h => ⟨h.1, h.2.below (Nat.le_refl _) (by simp)⟩

end Go.Proofs.YtemjhlhioeopnabDoor
