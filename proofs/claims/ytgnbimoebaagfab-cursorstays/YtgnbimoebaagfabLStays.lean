/-
  The walk of CursorStays: it answers true, and writes nothing that was there. The bytes that came in are at most 2 to the power of 47.
-/
import Derived.Test.YtgnbimoebaagfabKnown
namespace Go.Proofs.Ytgnbimoebaagfab
open Go.RowKit

theorem rTake_ok (L : List UInt8) (n m : Nat) (h : m ≤ L.length) : rTake (L, n, 0) m = (L.take m, L.drop m, n + m, 0) := by
  simp [rTake]
  omega

theorem rTake_stuck (L : List UInt8) (n m : Nat) : rTake (L, n, 11) m = ([], L, n, 11) := by
  simp [rTake]

theorem rText_stuck (L : List UInt8) (n : Nat) : rText (L, n, 11) = ([], L, n, 11) := by
  simp [rText, rTake_stuck]

theorem rBytes_stuck (L : List UInt8) (n : Nat) (x : Int) : rBytes (L, n, 11) x = ([], L, n, 11) := by
  unfold rBytes
  split
  · simp
  · exact rTake_stuck _ _ _

theorem remN (x : Int) (n : Nat) : -(n : Int) ≤ x.tmod ((n : Int) + 1) ∧ x.tmod ((n : Int) + 1) ≤ (n : Int) := by
  have h1 := Int.tmod_lt_of_pos x (show (0 : Int) < (n : Int) + 1 by omega)
  have h2 := Int.lt_tmod_of_pos x (show (0 : Int) < (n : Int) + 1 by omega)
  omega

set_option maxHeartbeats 4000000 in
set_option maxRecDepth 100000 in
theorem stays_walk {w : World} {ao lao : Option Addr} {bs : List UInt8} {cap d ll lcap : Nat} (x : Int) (hb : BS w ao bs d) (hn : ao = none → cap = 0) (hsz : bs.length ≤ 140737488351232) (_hll : ll ≤ 9223372036854775807) :
    Calls Try.prog 4 #[.slice ao bs.length cap, .int .i64 x, .slice lao ll lcap] w fun e w' => e = .returned (.bool true) ∧ Below w.heap.size w w' := by
  obtain ⟨y1, y2⟩ := remN x bs.length
  go_enter Try.func4, Try.ntmps4
  go_wp2_with fail
  refine (known_any w).mono ?_
  rintro e w1 ⟨rfl, ho1⟩
  have hb1 := hb.only ho1 (by simp)
  go_wp2_with fail
  refine (newReader_any hb1 hn (by omega)).mono ?_
  rintro e w2 ⟨r, dr, rfl, hr2, ho2, a1, a2, a3⟩
  have b1 := hr2.lt
  have z1 := ho1.size
  have z2 := ho2.size
  have hO2 : Only [] w w2 := ho1.next ho2 (by simp)
  clear hb1 ho1 ho2 hb hn
  obtain ⟨m, hm, hmx⟩ : ∃ m : Nat, m ≤ bs.length ∧ (x.tmod ((bs.length : Int) + 1) = -(m : Int) ∧ 0 < m ∨ x.tmod ((bs.length : Int) + 1) = (m : Int)) := ⟨(x.tmod ((bs.length : Int) + 1)).natAbs, by omega, by omega⟩
  have hlen : (bs.drop m).length = bs.length - m := List.length_drop
  have htl : (bs.take m).length = m := by simp; omega
  have HA := bytes_any hr2 (m : Int) (by show bs.length ≤ _; omega)
  have hra : rBytes (bs, 0, 0) (m : Int) = (bs.take m, bs.drop m, m, 0) := by
    unfold rBytes
    rw [if_neg (by omega), Int.toNat_natCast, rTake_ok _ _ _ hm]
    simp
  rw [hra] at HA
  simp only [htl] at HA
  have HA := hid HA
  obtain ⟨L, hL⟩ : ∃ L, L = bs.drop m := ⟨_, rfl⟩
  rw [← hL] at HA hlen
  have hl1 : L.length + m ≤ bs.length := by omega
  have hl2 : bs.length ≤ L.length + m := by omega
  clear y1 y2 hra hL hlen htl
  rcases hmx with ⟨hmx, hpos⟩ | hmx
  all_goals
    go_wp2_with fail
    refine HA.out.mono ?_
    rintro e w3 ⟨ao3, cap3, rfl, hown3, hR3, ho3⟩
    have HB := bytes_any hR3 ((bs.length : Int) - (m : Int) + 1) (by show L.length ≤ _; omega)
    have hrb : rBytes (L, m, 0) ((bs.length : Int) - (m : Int) + 1) = ([], L, m, 11) := by
      unfold rBytes
      rw [if_neg (by omega)]
      simp [rTake]
      omega
    rw [hrb] at HB
    have HB := hid HB
    clear HA hrb
    go_wp2_with fail
    refine HB.out.mono ?_
    rintro e w4 ⟨ao4, cap4, rfl, hown4, hR4, ho4⟩
    clear HB
    go_wp2_with fail
    refine (err_any hR4).mono ?_
    rintro e w5 ⟨rfl, rfl⟩
    go_wp2_with fail
    refine (at_any hR4).mono ?_
    rintro e w5 ⟨rfl, rfl⟩
    have hO4 : Only [] w w4 := (hO2.next ho3 (by simp; omega)).next ho4 (by simp; omega)
    go_wp2
    go_loopw [10] (fun i wr => ∃ j : Nat, j ≤ 100 ∧ i = .int .i64 (j : Int) ∧ RdE wr r dr (L, m, 11) ∧ Only [] w wr) (fun i _ => 100 - (intOf i).toNat)
    case atStart => exact ⟨0, by omega, rfl, hR4, hO4⟩
    case round =>
      obtain ⟨j, hj, rfl, hR, hO⟩ := hrel
      by_cases hlt : j < ll
      · by_cases h100 : j < 100
        · have g1 : ((j : Int) < (ll : Int)) := by omega
          have g2 : ((j : Int) < 100) := by omega
          have H1 := u1_any hR
          rw [rTake_stuck, be_nil] at H1
          have H1 := hid H1
          go_wp2_with fail
          refine H1.out.mono ?_
          rintro e x1 ⟨rfl, q1, o1⟩
          clear H1
          have H1 := u2_any q1
          rw [rTake_stuck, be_nil] at H1
          have H1 := hid H1
          go_wp2_with fail
          refine H1.out.mono ?_
          rintro e x2 ⟨rfl, q2, o2⟩
          clear H1
          have H1 := n8_any q2
          rw [rTake_stuck, be_nil, show wrap64 ((0 : Nat) : Int) = 0 by simp only [wrap64]; omega] at H1
          have H1 := hid H1
          go_wp2_with fail
          refine H1.out.mono ?_
          rintro e x3 ⟨rfl, q3, o3⟩
          clear H1
          have H1 := bytes_any q3 0 (by show L.length ≤ _; omega)
          rw [rBytes_stuck] at H1
          have H1 := hid H1
          go_wp2_with fail
          refine H1.out.mono ?_
          rintro e x4 ⟨_, _, rfl, _, q4, o4⟩
          clear H1
          have H1 := bytes_any q4 (-1) (by show L.length ≤ _; omega)
          rw [rBytes_stuck] at H1
          have H1 := hid H1
          go_wp2_with fail
          refine H1.out.mono ?_
          rintro e x5 ⟨_, _, rfl, _, q5, o5⟩
          clear H1
          have H1 := text_any q5
          rw [rText_stuck] at H1
          simp only [str] at H1
          have H1 := hid H1
          go_wp2_with fail
          refine H1.out.mono ?_
          rintro e x6 ⟨rfl, q6, o6⟩
          clear H1
          go_wp2_with fail
          refine (at_any q6).mono ?_
          rintro e x7 ⟨rfl, rfl⟩
          go_wp2_with fail
          refine (left_any q6).mono ?_
          rintro e x7 ⟨rfl, rfl⟩
          go_wp2_with fail
          refine (err_any q6).mono ?_
          rintro e x7 ⟨rfl, rfl⟩
          go_wp2
          refine ⟨⟨j + 1, by omega, by go_num, q6, ?_⟩, by simp [intOf]; omega⟩
          exact (((((hO.next o1 (by simp; omega)).next o2 (by simp; omega)).next o3 (by simp; omega)).next o4 (by simp; omega)).next o5 (by simp; omega)).next o6 (by simp; omega)
        · have g1 : ((j : Int) < (ll : Int)) := by omega
          have g2 : ¬ ((j : Int) < 100) := by omega
          go_wp2
          go_ret
          exact ⟨rfl, hO.below (Nat.le_refl _) (by simp)⟩
      · have g1 : ¬ ((j : Int) < (ll : Int)) := by omega
        go_wp2
        go_ret
        exact ⟨rfl, hO.below (Nat.le_refl _) (by simp)⟩

end Go.Proofs.Ytgnbimoebaagfab
