/-
  The contracts of the second program's SigText and Same. No conditions.
-/
import Derived.Test.YtcdjddakdlflmaaXSig
import Derived.Test.YtcdjddakdlflmaaXSame
namespace Go.Proofs.Ytcdjddakdlflmaa
open Go.RowKit

set_option maxHeartbeats 400000 in
set_option maxRecDepth 100000 in
theorem rsigText_any {w : World} {ao : Option Addr} {l : List Ty} {d cap : Nat} (hT : TS w ao l d) (hl : l.length ≤ 9223372036854775807) (hA : ∀ t ∈ l, t.2.length ≤ 9223372036854775807) (void : Bool) (t : Ty) (ht : t.2.length ≤ 9223372036854775807) :
    Calls Try.prog 79 #[sigV (.slice ao l.length cap) void t] w fun e w' => e = .returned (.tuple #[.string (str (stR l void t)), .int .i64 (sigCheck l void t)]) ∧ Only [] w w' := by
  obtain ⟨td, tn⟩ := t
  have ho := (Only.refl [] w).alloc (.cells #[.slice ao l.length cap, .bool void, .int .i64 td, .string (str tn)] 43)
  have K0 := hid (sig_new w (.slice ao l.length cap) void td tn)
  simp only [sigV]
  by_cases h16 : 16 < l.length
  · have g1 : (16 < (l.length : Int)) := by omega
    have e1 : sigCheck l void (td, tn) = 4 := by simp [sigCheck, h16]
    have e2 : stR l void (td, tn) = [] := by simp [stR, e1]
    rw [e1, e2]
    clear e1 e2 h16
    go_enter Try.func79, Try.ntmps79
    go_wp2
    go_ret2
    exact ⟨rfl, ho⟩
  · have g1 : ¬ (16 < (l.length : Int)) := by omega
    go_enter Try.func79, Try.ntmps79
    go_wp2
    go_loopw [4, 5] (fun s i wr => ∃ k : Nat, k ≤ l.length ∧ i = .int .i64 (k : Int) ∧ s = .string (str (40 :: tyTexts (l.take k))) ∧ Hid (∀ j (hj : j < l.length), j < k → tyCheck l[j] = 0) ∧ SigAt wr w.heap.size (.slice ao l.length cap) void (td, tn) ∧ Only [] w wr) (fun _ i _ => l.length - (intOf i).toNat)
    case atStart => exact ⟨0, by omega, rfl, rfl, fun j _ h => by omega, K0.out, ho⟩
    case round =>
      obtain ⟨k, hk, rfl, rfl, hok, hS, hor⟩ := hrel
      clear K0
      replace hS := hid hS
      obtain ⟨c0, c1, c2, c3, _, _, _, _⟩ := hS.out
      by_cases hlt : k < l.length
      · have g2 : ((k : Int) < (l.length : Int)) := by omega
        have hne : l ≠ [] := by intro e; simp [e] at hlt
        rcases hT.only hor (by simp) with h | ⟨off, rfl, hc⟩
        · exact absurd h hne
        obtain ⟨y0, y1⟩ := hc k hlt
        clear hc
        have hat := fun (h : tyCheck l[k] ≠ 0) => checkAll_at l k hlt (fun j hj => hok.out j (by omega) hj) h
        have hnx : tyCheck l[k] = 0 → ∀ j (hj : j < l.length), j < k + 1 → tyCheck l[j] = 0 := by
          intro h0 j hj hjk
          by_cases e : j = k
          · subst e
            exact h0
          · exact hok.out j hj (by omega)
        have htk : tyTexts (l.take (k + 1)) = tyTexts (l.take k) ++ tyText l[k] := by
          rw [List.take_succ_eq_append_getElem hlt, tyTexts_append]
          simp [tyTexts]
        have hlen := fits_len (l.take k) fun t ht => by
          obtain ⟨j, hj, rfl⟩ := List.getElem_of_mem ht
          simp at hj
          rw [List.getElem_take]
          exact check_fit (hok.out j (by omega) (by omega))
        have hln := hA l[k] (List.getElem_mem hlt)
        generalize l[k] = t at *
        obtain ⟨d0, nm⟩ := t
        have HC := rtypeText_any (d0, nm) hln wr
        simp only [] at hln
        by_cases hz : tyCheck (d0, nm) = 0
        · have e1 : ttR (d0, nm) = tyText (d0, nm) := by simp [ttR, hz]
          have hft := fit_len (check_fit hz)
          rw [hz, e1] at HC
          simp only [tyV] at HC y0 y1
          replace HC := hid HC
          have hnx := hid (hnx hz)
          have hlk : (l.take k).length ≤ 16 := by simp; omega
          have hcat : ∀ w, (Op.stringOp .add (str (40 :: tyTexts (l.take k))) (str (tyText (d0, nm)))).run Try.prog w = .ok (.string (str (40 :: tyTexts (l.take (k + 1))))) w := fun w => by
            have := run_cat (40 :: tyTexts (l.take k)) (tyText (d0, nm)) (by simp; omega) w
            rw [htk]
            exact this
          clear hat hz e1 hok htk hlk hlen hft
          generalize tyTexts (l.take k) = u at *
          generalize hv : tyTexts (l.take (k + 1)) = u2 at *
          generalize tyText (d0, nm) = u3 at *
          replace hv := hid hv
          go_wp2_with fail
          refine HC.out.mono ?_
          rintro e w2 ⟨rfl, ho2⟩
          go_wp2
          exact ⟨⟨k + 1, by omega, by go_num, by rw [hv.out], hnx, hS.out.only ho2 (by simp), hor.next ho2 (by simp)⟩, by simp [intOf]; omega⟩
        · have hat := hat hz
          have e1 : sigCheck l void (td, tn) = tyCheck (d0, nm) := by
            unfold sigCheck
            rw [if_neg h16, hat, if_neg hz]
          have e2 : Hid (stR l void (td, tn) = []) := by
            unfold Hid stR
            rw [e1, if_neg hz]
          replace e1 := hid e1
          clear hat hnx hok htk hlen
          generalize tyCheck (d0, nm) = c at *
          simp only [tyV] at HC y0 y1
          replace HC := hid HC
          go_wp2_with fail
          refine HC.out.mono ?_
          rintro e w2 ⟨rfl, ho2⟩
          go_wp2
          go_ret2
          exact ⟨by rw [e1.out, e2.out]; rfl, hor.next ho2 (by simp)⟩
      · have g2 : ¬ ((k : Int) < (l.length : Int)) := by omega
        obtain rfl : k = l.length := by omega
        have hall : checkAll l = 0 := (checkAll_ok l).2 fun t ht => by
          obtain ⟨j, hj, rfl⟩ := List.getElem_of_mem ht
          exact hok.out j hj hj
        have hlen := fits_len l fun t ht => check_fit ((checkAll_ok l).1 hall t ht)
        rw [List.take_of_length_le (Nat.le_refl _)]
        clear hok
        have hq := neq_type (td, tn) (0, [])
        rw [ty_zero] at hq
        simp only [tyV] at hq
        cases void with
        | true =>
          by_cases hz : (td, tn) = (((0 : Int), []) : Ty)
          · have e1 : sigCheck l true (td, tn) = 0 := by
              unfold sigCheck
              rw [if_neg h16, if_pos hall, if_neg (by simp [hz]), hz]
              decide
            have e2 : Hid (stR l true (td, tn) = 40 :: (tyTexts l ++ [41, 86])) := by
              unfold Hid stR
              rw [if_pos e1]
              rfl
            have hcat : ∀ w, (Op.stringOp .add (str (40 :: tyTexts l)) ⟨#[41, 86]⟩).run Try.prog w = .ok (.string (str (40 :: (tyTexts l ++ [41, 86])))) w := fun w => run_cat (40 :: tyTexts l) [41, 86] (by simp; omega) w
            replace e1 := hid e1
            simp only [hz, decide_true, Bool.not_true] at hq
            clear hz hall hlen
            generalize tyTexts l = u at *
            go_wp2
            go_ret2
            exact ⟨by rw [e1.out, e2.out]; rfl, hor⟩
          · have e1 : sigCheck l true (td, tn) = 1 := by
              unfold sigCheck
              rw [if_neg h16, if_pos hall]
              simp [hz]
            have e2 : Hid (stR l true (td, tn) = []) := by
              unfold Hid stR
              rw [e1]
              rfl
            replace e1 := hid e1
            simp only [hz, decide_false, Bool.not_false] at hq
            clear hz hall hlen
            go_wp2
            go_ret2
            exact ⟨by rw [e1.out, e2.out]; rfl, hor⟩
        | false =>
          have e1 : Hid (sigCheck l false (td, tn) = tyCheck (td, tn)) := by
            unfold Hid sigCheck
            rw [if_neg h16, if_pos hall]
            simp
          have HC := rtypeText_any (td, tn) ht wr
          clear hq
          by_cases hz : tyCheck (td, tn) = 0
          · have hft := fit_len (check_fit hz)
            have e3 : ttR (td, tn) = tyText (td, tn) := by simp [ttR, hz]
            have e2 : Hid (stR l false (td, tn) = 40 :: (tyTexts l ++ 41 :: tyText (td, tn))) := by
              unfold Hid stR
              rw [e1.out, if_pos hz]
              simp [sigText]
            have e4 : Hid (sigCheck l false (td, tn) = 0) := by
              unfold Hid
              rw [e1.out, hz]
            rw [e3, hz] at HC
            simp only [tyV] at HC
            replace HC := hid HC
            have k2 : ∀ w, (Op.stringOp .add (str (40 :: tyTexts l)) ⟨#[41]⟩).run Try.prog w = .ok (.string (str (40 :: (tyTexts l ++ [41])))) w := fun w => run_cat (40 :: tyTexts l) [41] (by simp; omega) w
            have k3 : ∀ w, (Op.stringOp .add (str (40 :: (tyTexts l ++ [41]))) (str (tyText (td, tn)))).run Try.prog w = .ok (.string (str (40 :: (tyTexts l ++ 41 :: tyText (td, tn))))) w := fun w => by
              have := run_cat (40 :: (tyTexts l ++ [41])) (tyText (td, tn)) (by simp; omega) w
              simp only [List.cons_append, List.append_assoc, List.nil_append] at this
              exact this
            clear e1 e3 hz hall hlen hft
            generalize tyTexts l = u at *
            generalize tyText (td, tn) = v at *
            go_wp2_with fail
            refine HC.out.mono ?_
            rintro e w2 ⟨rfl, ho2⟩
            go_wp2
            go_ret2
            exact ⟨by rw [e4.out, e2.out]; rfl, hor.next ho2 (by simp)⟩
          · have e2 : Hid (stR l false (td, tn) = []) := by
              unfold Hid stR
              rw [e1.out, if_neg hz]
            clear hall hlen
            generalize tyCheck (td, tn) = c at *
            simp only [tyV] at HC
            replace HC := hid HC
            go_wp2_with fail
            refine HC.out.mono ?_
            rintro e w2 ⟨rfl, ho2⟩
            go_wp2
            go_ret2
            exact ⟨by rw [e1.out, e2.out]; rfl, hor.next ho2 (by simp)⟩

end Go.Proofs.Ytcdjddakdlflmaa
