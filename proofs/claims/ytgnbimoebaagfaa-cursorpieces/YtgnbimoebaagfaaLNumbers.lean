/-
  The walk of CursorNumbers: it answers true, and writes nothing that was there. The bytes that came in are at most 2 to the power of 47.
-/
import Derived.Test.YtgnbimoebaagfaaKnown
namespace Go.Proofs.Ytgnbimoebaagfaa
open Go.RowKit

theorem rTake_ok (L : List UInt8) (n m : Nat) (h : m ≤ L.length) : rTake (L, n, 0) m = (L.take m, L.drop m, n + m, 0) := by
  simp [rTake]
  omega

theorem rTake_at (bs : List UInt8) (q m : Nat) (h : q + m ≤ bs.length) : rTake (bs.drop q, q, 0) m = ((bs.drop q).take m, bs.drop (q + m), q + m, 0) := by
  rw [rTake_ok _ _ _ (by simp; omega), List.drop_drop]

theorem be_take1 (bs : List UInt8) (q : Nat) (h : q < bs.length) : be ((bs.drop q).take 1) = bs[q].toNat := by
  rw [List.drop_eq_getElem_cons h]
  simp only [List.take_succ_cons, List.take_zero, be, List.foldl_cons, List.foldl_nil]
  omega

theorem be_take2 (bs : List UInt8) (q : Nat) (h : q + 1 < bs.length) : be ((bs.drop q).take 2) = 256 * bs[q].toNat + bs[q + 1].toNat := by
  rw [List.drop_eq_getElem_cons (by omega), List.drop_eq_getElem_cons (by omega)]
  simp only [List.take_succ_cons, List.take_zero, be, List.foldl_cons, List.foldl_nil]
  omega

theorem be_step2 (l : List UInt8) (k : Nat) (h : k + 2 ≤ l.length) : be (l.take (k + 2)) = be (l.take k) * 65536 + be ((l.drop k).take 2) := by
  rw [be_take2 l k (by omega), show k + 2 = (k + 1) + 1 by omega, be_take_succ l (k + 1) (by omega), be_take_succ l k (by omega)]
  omega

theorem be_lt6 (l : List UInt8) (k : Nat) (h : k ≤ 6) : be (l.take k) < 281474976710656 := by
  have h1 := be_lt_of (l.take k) 6 (by simp; omega)
  have h4 : (256 : Nat) ^ 6 = 281474976710656 := by decide
  omega

theorem back64 (x : Nat) (h : x < 18446744073709551616) : IntKind.u64.wrap (wrap64 (x : Int)) = (x : Int) := by
  rw [IntKind.wrap_u64]
  simp only [wrap64]
  omega

/-- Three readers of the same bytes. -/
structure Three (w : World) (r dr s ds t dt : Nat) (bs : List UInt8) (i j k : Nat) : Prop where
  one : RdE w r dr (bs.drop i, i, 0)
  two : RdE w s ds (bs.drop j, j, 0)
  tri : RdE w t dt (bs.drop k, k, 0)

set_option maxHeartbeats 2000000 in
set_option maxRecDepth 100000 in
theorem numbers_walk {w : World} {ao : Option Addr} {bs : List UInt8} {cap d : Nat} (hb : BS w ao bs d) (hn : ao = none → cap = 0) (hsz : bs.length ≤ 140737488351232) :
    Calls Try.prog 6 #[.slice ao bs.length cap] w fun e w' => e = .returned (.bool true) ∧ Below w.heap.size w w' := by
  go_enter Try.func6, Try.ntmps6
  go_wp2_with fail
  refine (known_any w).mono ?_
  rintro e w1 ⟨rfl, ho1⟩
  have hb1 := hb.only ho1 (by simp)
  go_wp2_with fail
  refine (newReader_any hb1 hn (by omega)).mono ?_
  rintro e w2 ⟨r, dr, rfl, hr2, ho2, a1, a2, a3⟩
  have hb2 := hb1.only ho2 (by simp)
  have b1 := hr2.lt
  go_wp2_with fail
  refine (newReader_any hb2 hn (by omega)).mono ?_
  rintro e w3 ⟨s, ds, rfl, hs3, ho3, a4, a5, a6⟩
  have hb3 := hb2.only ho3 (by simp)
  have b2 := hs3.lt
  go_wp2_with fail
  refine (newReader_any hb3 hn (by omega)).mono ?_
  rintro e w4 ⟨t, dt, rfl, ht4, ho4, a7, a8, a9⟩
  have b3 := ht4.lt
  have hT : Three w4 r dr s ds t dt bs 0 0 0 := ⟨by simpa using (hr2.only ho3 (by simp) (by simp)).only ho4 (by simp) (by simp), by simpa using hs3.only ho4 (by simp) (by simp), by simpa using ht4⟩
  have hO : Only [] w w4 := ((ho1.next ho2 (by simp)).next ho3 (by simp)).next ho4 (by simp)
  have z1 := ho1.size
  have z2 := ho2.size
  have z3 := ho3.size
  have z4 := ho4.size
  clear hr2 hs3 ht4 hb1 hb2 hb3 ho1 ho2 ho3 ho4 hb hn
  go_wp2
  go_loopw [6] (fun i wr => ∃ j : Nat, 8 * j ≤ bs.length ∧ i = .int .i64 (8 * (j : Int)) ∧ Three wr r dr s ds t dt bs (8 * j) (8 * j) (8 * j) ∧ Only [] w wr) (fun i _ => bs.length + 8 - (intOf i).toNat)
  case atStart => exact ⟨0, by omega, rfl, hT, hO⟩
  case round =>
    obtain ⟨j, hj, rfl, hT, hO⟩ := hrel
    by_cases hlt : 8 * j + 8 ≤ bs.length
    · by_cases h400 : 8 * j < 400
      · have g1 : (8 * (j : Int) + 8 ≤ (bs.length : Int)) := by omega
        have g2 : (8 * (j : Int) < 400) := by omega
        have HN := n8_any hT.tri
        rw [rTake_at bs (8 * j) 8 (by omega)] at HN
        have HN := hid HN
        go_wp2_with (go_at_call 20; refine HN.out.mono ?_; rintro e w5 ⟨rfl, hn5, ho5⟩)
        have hX8 : be (((bs.drop (8 * j)).take 8)) < 18446744073709551616 := be_lt_of _ 8 (by simp; omega)
        have hXl : ((bs.drop (8 * j)).take 8).length = 8 := by simp; omega
        have hXd : ∀ k, k < 4 → ((bs.drop (8 * j + 2 * k)).take 2) = (((bs.drop (8 * j)).take 8).drop (2 * k)).take 2 := by
          intro k hk
          rw [List.drop_take, List.take_take, List.drop_drop]
          congr 1
          omega
        have HX := hid hXd
        clear hXd
        generalize hXX : (bs.drop (8 * j)).take 8 = X at *
        have HXX := hid hXX
        clear hXX
        have hT5 : Three w5 r dr s ds t dt bs (8 * j) (8 * j) (8 * j + 8) := ⟨hT.one.only ho5 (by simp; omega) (by simp; omega), hT.two.only ho5 (by simp; omega) (by simp; omega), hn5⟩
        have hO5 : Only [] w w5 := hO.next ho5 (by simp; omega)
        clear hn5
        go_loopw [8, 9] (fun u k wr => ∃ m : Nat, m ≤ 4 ∧ k = .int .i64 (m : Int) ∧ u = .int .u64 (be (X.take (2 * m)) : Int) ∧ Three wr r dr s ds t dt bs (8 * j + 2 * m) (8 * j + 2 * m) (8 * j + 8) ∧ Only [] w wr) (fun _ k _ => 4 - (intOf k).toNat)
        case atStart => exact ⟨0, by omega, rfl, by simp [be], hT5, hO5⟩
        case round =>
          obtain ⟨m, hm, rfl, rfl, hT6, hO6⟩ := hrel
          by_cases hm4 : m < 4
          · have HA := u2_any hT6.one
            rw [rTake_at bs (8 * j + 2 * m) 2 (by omega)] at HA
            have hst := be_step2 X (2 * m) (by omega)
            rw [← HX.out m hm4] at hst
            have hlt6 := be_lt6 X (2 * m) (by omega)
            have e1 := be_take1 bs (8 * j + 2 * m) (by omega)
            have e2 := be_take1 bs (8 * j + 2 * m + 1) (by omega)
            have e3 := be_take2 bs (8 * j + 2 * m) (by omega)
            have l1 := (bs[8 * j + 2 * m]'(by omega)).toNat_lt
            have l2 := (bs[8 * j + 2 * m + 1]'(by omega)).toNat_lt
            have f1 : be ((bs.drop (8 * j + 2 * m)).take 2) ≤ 256 * be ((bs.drop (8 * j + 2 * m)).take 1) + be ((bs.drop (8 * j + 2 * m + 1)).take 1) := by omega
            have f2 : 256 * be ((bs.drop (8 * j + 2 * m)).take 1) + be ((bs.drop (8 * j + 2 * m + 1)).take 1) ≤ be ((bs.drop (8 * j + 2 * m)).take 2) := by omega
            have f3 : be ((bs.drop (8 * j + 2 * m)).take 1) < 256 := by omega
            have f4 : be ((bs.drop (8 * j + 2 * m + 1)).take 1) < 256 := by omega
            have hor := or_bare16 (be (X.take (2 * m))) (be ((bs.drop (8 * j + 2 * m)).take 2)) hlt6 (by omega)
            rw [← hst] at hor
            have Hor := hid hor
            clear e1 e2 e3 l1 l2 hst hor
            have HA := hid HA
            go_wp2_with fail
            refine HA.out.mono ?_
            rintro e w7 ⟨rfl, q7, o7⟩
            have HB := u1_any (hT6.two.only o7 (by simp; omega) (by simp; omega))
            rw [rTake_at bs (8 * j + 2 * m) 1 (by omega)] at HB
            have HB := hid HB
            clear HA
            generalize be ((bs.drop (8 * j + 2 * m)).take 2) = N2 at *
            go_wp2_with fail
            refine HB.out.mono ?_
            rintro e w8 ⟨rfl, q8, o8⟩
            have HC := u1_any q8
            rw [rTake_at bs (8 * j + 2 * m + 1) 1 (by omega)] at HC
            have HC := hid HC
            clear HB
            generalize be ((bs.drop (8 * j + 2 * m)).take 1) = N1 at *
            go_wp2_with fail
            refine HC.out.mono ?_
            rintro e w9 ⟨rfl, q9, o9⟩
            clear HC
            generalize be ((bs.drop (8 * j + 2 * m + 1)).take 1) = N0 at *
            have b1 : ((N2 : Int) != 256 * (N1 : Int) + (N0 : Int)) = false := by
              rw [bne_eq_false_iff_eq]; omega
            have b2 : ¬ ((N2 : Int) < 0) := by omega
            have b3 : ¬ ((65535 : Int) < (N2 : Int)) := by omega
            go_wp2
            refine ⟨⟨m + 1, by omega, by go_num, ?_, ⟨?_, ?_, ?_⟩, ?_⟩, by simp [intOf]; omega⟩
            · rw [Hor.out]
              rfl
            · exact ((q7.only o8 (by simp; omega) (by simp; omega)).only o9 (by simp; omega) (by simp; omega))
            · exact q9
            · exact ((hT6.tri.only o7 (by simp; omega) (by simp; omega)).only o8 (by simp; omega) (by simp; omega)).only o9 (by simp; omega) (by simp; omega)
            · exact ((hO6.next o7 (by simp; omega)).next o8 (by simp; omega)).next o9 (by simp; omega)
          · have : m = 4 := by omega
            subst this
            have hx8 : X.take (2 * 4) = X := List.take_of_length_le (by omega)
            rw [hx8]
            have hbk := back64 (be X) hX8
            generalize be X = V at *
            have b1 : (IntKind.u64.wrap (wrap64 (V : Int)) != (V : Int)) = false := by rw [hbk]; simp
            have HA := hid (at_any hT6.tri)
            have HB := hid (at_any hT6.one)
            have HC := hid (at_any hT6.two)
            go_wp2_with fail
            refine HA.out.mono ?_
            rintro e w' ⟨rfl, rfl⟩
            go_wp2_with fail
            refine HB.out.mono ?_
            rintro e w' ⟨rfl, rfl⟩
            go_wp2_with fail
            refine HC.out.mono ?_
            rintro e w' ⟨rfl, rfl⟩
            go_wp2
            exact ⟨⟨j + 1, by omega, by go_num, ⟨hT6.one, hT6.two, hT6.tri⟩, hO6⟩, by simp [intOf]; omega⟩
      · have g1 : (8 * (j : Int) + 8 ≤ (bs.length : Int)) := by omega
        have g2 : ¬ (8 * (j : Int) < 400) := by omega
        have HA := hid (err_any hT.one)
        have HB := hid (err_any hT.tri)
        go_wp2_with fail
        refine HA.out.mono ?_
        rintro e w' ⟨rfl, rfl⟩
        go_wp2_with fail
        refine HB.out.mono ?_
        rintro e w' ⟨rfl, rfl⟩
        go_wp2
        go_ret
        exact ⟨rfl, hO.below (Nat.le_refl _) (by simp)⟩
    · have g1 : ¬ (8 * (j : Int) + 8 ≤ (bs.length : Int)) := by omega
      have HA := hid (err_any hT.one)
      have HB := hid (err_any hT.tri)
      go_wp2_with fail
      refine HA.out.mono ?_
      rintro e w' ⟨rfl, rfl⟩
      go_wp2_with fail
      refine HB.out.mono ?_
      rintro e w' ⟨rfl, rfl⟩
      go_wp2
      go_ret
      exact ⟨rfl, hO.below (Nat.le_refl _) (by simp)⟩

end Go.Proofs.Ytgnbimoebaagfaa
