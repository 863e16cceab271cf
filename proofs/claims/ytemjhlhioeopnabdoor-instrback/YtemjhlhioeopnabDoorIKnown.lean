/-
  The contracts of known and Same; bytes as a text. The table of words holds the words.
-/
import Derived.Test.YtemjhlhioeopnabDoorIEnc
import Derived.Test.YtemjhlhioeopnabDoorIName
import Derived.Lib.ConvBytes
namespace Go.Proofs.YtemjhlhioeopnabDoor
open Go.RowKit

/-- Bytes as a text. -/
theorem RS.conv {w : World} {ao : Option Addr} {bs : List UInt8} {d : Nat} (h : RS w ao (bcs bs) d) (cap : Nat) : (convert 23 9 (.slice ao bs.length cap)).run Tryd.prog w = .ok (.string (str bs)) w := by
  cases ao with
  | none =>
    have h0 := h.none_nil
    have : bs = [] := by simpa [bcs] using h0
    subst this
    simp [convert, run_underlying Tryd.underlying23, run_underlying Tryd.underlying9, go_sem, str, Conv.bytesToString]
    rfl
  | some a =>
    exact run_convert_bytes_back w 23 9 5 a cap bs Tryd.underlying23 Tryd.underlying5 Tryd.underlying9 (fun j hj => h.cells j _ (bcs_get bs j hj))

set_option maxHeartbeats 400000 in
set_option maxRecDepth 100000 in
theorem known_any {w : World} (hL : Laid w) : Calls Tryd.prog 7 #[] w fun e w' => e = .returned (.bool true) ∧ Only [] w w' := by
  have HE := enc_any (cap := 2) (l := [(0, 1, 258, 0), (0, 43, 0, 0)]) (RS.fresh w #[.int .i64 0, .int .i64 1, .int .i64 258, .int .i64 0, .int .i64 0, .int .i64 43, .int .i64 0, .int .i64 0] 31) (by simp)
  have ee : encR [(0, 1, 258, 0), (0, 43, 0, 0)] = ([1, 1, 2, 43], 0) := by decide
  rw [ee] at HE
  simp only [List.length_cons, List.length_nil, Nat.zero_add] at HE
  have HS := hid (fun W => size_any 3 W)
  have HN := hid (fun W (hW : Only [] w W) => iname_any (hL.only hW) 44)
  have en : nameI 44 = [116, 104, 114, 111, 119] := rfl
  have es : sizeN 3 = 2 := rfl
  rw [en] at HN
  rw [es] at HS
  have ea : str [1, 1, 2, 43] = ⟨#[1, 1, 2, 43]⟩ := rfl
  have ea2 : str [116, 104, 114, 111, 119] = ⟨#[116, 104, 114, 111, 119]⟩ := rfl
  rw [ea2] at HN
  replace HE := hid HE
  clear hL en es ee ea2
  go_enter Tryd.func7, Tryd.ntmps7
  go_wp2_with fail
  refine HE.out.mono ?_
  rintro e w1 ⟨ao, cap, rfl, hown, ho⟩
  have ho1 := hid (((Only.refl [] w).alloc _).next ho (by simp))
  have hcv := RS.conv (bs := [1, 1, 2, 43]) (RS.of_owns hown).1 cap
  rw [ea] at hcv
  simp only [List.length_cons, List.length_nil, Nat.zero_add] at hcv
  clear HE hown ho ea
  go_wp2_with (first | (go_at_call 11; refine (HS.out _).mono ?_; rintro e w' ⟨rfl, rfl⟩) | (go_at_call 12; refine (HN.out _ ho1.out).mono ?_; rintro e w' ⟨rfl, rfl⟩))
  go_ret
  exact ⟨rfl, ho1.out⟩

set_option maxHeartbeats 400000 in
set_option maxRecDepth 100000 in
theorem same_any {w : World} {ao bo : Option Addr} {l m : List In} {d k cap bap : Nat} (hT : RS w ao (qcs l) d) (hM : RS w bo (qcs m) k) (hl : l.length ≤ 9223372036854775807) :
    Calls Tryd.prog 16 #[.slice ao l.length cap, .slice bo m.length bap] w fun e w' => e = .returned (.bool (decide (l = m))) ∧ Only [] w w' := by
  by_cases hq : l.length = m.length
  · rw [← hq]
    replace hq := hid hq
    go_enter Tryd.func16, Tryd.ntmps16
    go_wp2
    go_loopw [5] (fun i wr => ∃ j : Nat, j ≤ l.length ∧ i = .int .i64 (j : Int) ∧ l.take j = m.take j ∧ Only [] w wr) (fun i _ => l.length - (intOf i).toNat)
    case atStart => exact ⟨0, by omega, rfl, by simp, Only.refl _ _⟩
    case round =>
      obtain ⟨j, hj, rfl, hpre, hor⟩ := hrel
      by_cases hlt : j < l.length
      · have g2 : ((j : Int) < (l.length : Int)) := by omega
        have hlt2 : j < m.length := by rw [← hq.out]; exact hlt
        obtain ⟨off, rfl, y0, y1, y2, y3⟩ := (hT.only0 hor).inAt hlt
        obtain ⟨off2, rfl, z0, z1, z2, z3⟩ := (hM.only0 hor).inAt hlt2
        clear hT hM
        have hnx : l[j] = m[j] → l.take (j + 1) = m.take (j + 1) := by
          intro e
          rw [List.take_succ_eq_append_getElem hlt, List.take_succ_eq_append_getElem hlt2, hpre, e]
        have hno : l[j] ≠ m[j] → l ≠ m := by
          intro e1 e2
          apply e1
          simp [e2]
        have hqt := neq_instr l[j] m[j]
        generalize l[j] = s at *
        generalize m[j] = t at *
        obtain ⟨k0, t0, n0, a0⟩ := s
        obtain ⟨k1, t1, n1, a1⟩ := t
        simp only [inV] at hqt
        clear hpre hlt2
        by_cases hs : ((k0, t0, n0, a0) : In) = (k1, t1, n1, a1)
        · have hnx := hid (hnx hs)
          rw [decide_eq_true hs] at hqt
          simp only [Bool.not_true] at hqt
          clear hs hno
          go_wp2_with fail
          go_region
          go_wp2
          exact ⟨⟨j + 1, by omega, by go_num, hnx.out, hor.drew⟩, by simp [intOf]; omega⟩
        · have e1 : Hid (decide (l = m) = false) := by simp [Hid, hno hs]
          rw [decide_eq_false hs] at hqt
          simp only [Bool.not_false] at hqt
          clear hs hno hnx
          go_wp2_with fail
          go_region
          go_wp2
          go_ret
          exact ⟨by rw [e1.out]; rfl, hor.drew⟩
      · have g2 : ¬ ((j : Int) < (l.length : Int)) := by omega
        obtain rfl : j = l.length := by omega
        have e1 : Hid (decide (l = m) = true) := by
          rw [List.take_of_length_le (Nat.le_refl _), List.take_of_length_le (by rw [hq.out]; exact Nat.le_refl _)] at hpre
          simp [Hid, hpre]
        clear hpre
        go_wp2
        go_ret
        exact ⟨by rw [e1.out]; rfl, hor⟩
  · have g1 : ¬ ((l.length : Int) = (m.length : Int)) := by omega
    have g2 : ((l.length : Int) != (m.length : Int)) = true := by simpa using g1
    have hne : ¬ (l = m) := fun e => hq (by rw [e])
    have e1 : Hid (decide (l = m) = false) := by simp [Hid, hne]
    rw [e1.out]
    clear hne e1
    go_enter Tryd.func16, Tryd.ntmps16
    go_wp2
    go_ret
    exact ⟨rfl, Only.refl _ _⟩

end Go.Proofs.YtemjhlhioeopnabDoor
