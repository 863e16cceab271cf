/-
  The walk of InstrNames: it answers true of whatever number, text and instruction, and writes nothing that was there. The table of words holds the words.
-/
import Derived.Test.YtemjhlhioeopnaaDoorIKnown
import Derived.Test.YtemjhlhioeopnaaDoorIRNext
import Derived.Deep.RegionHeld3
namespace Go.Proofs.YtemjhlhioeopnaaDoor
open Go.RowKit

theorem keep_in {a b z : World} {p : Nat} {x y t u : Value} (ho : Only [] a b)
    (h : a.cell? ⟨p, 0, none⟩ = some x ∧ a.cell? ⟨p, 1, none⟩ = some y ∧ a.cell? ⟨p, 2, none⟩ = some t ∧ a.cell? ⟨p, 3, none⟩ = some u ∧ Laid a ∧ Only [] z a) :
    b.cell? ⟨p, 0, none⟩ = some x ∧ b.cell? ⟨p, 1, none⟩ = some y ∧ b.cell? ⟨p, 2, none⟩ = some t ∧ b.cell? ⟨p, 3, none⟩ = some u ∧ Laid b ∧ Only [] z b := by
  obtain ⟨h0, h1, h2, h3, hL, hz⟩ := h
  have hl : p < a.heap.size := World.block_lt_of_cell? a _ h0
  exact ⟨by rw [ho.cell hl (by simp)]; exact h0, by rw [ho.cell hl (by simp)]; exact h1, by rw [ho.cell hl (by simp)]; exact h2, by rw [ho.cell hl (by simp)]; exact h3, hL.only ho, hz.next ho (by simp)⟩

set_option maxHeartbeats 1000000 in
set_option maxRecDepth 100000 in
theorem names_any {w : World} (hL : Laid w) (op : Int) (s : List UInt8) (i : In) :
    Calls Tryd.prog 3 #[.int .i64 op, .string (str s), inV i] w fun e w' => e = .returned (.bool true) ∧ Only [] w w' := by
  obtain ⟨a, io, n, z⟩ := i
  simp only [inV]
  have I0 := inAt_new w a io n z 23
  have o0 := (Only.refl [] w).alloc (.cells #[.int .i64 a, .int .i64 io, .int .i64 n, .int .i64 z] 23)
  have HK := hid (known_any (hL.only o0))
  have HO := hid (fun W (hW : Only [] w W) => iop_any (hL.only hW) s)
  have HOr := hid (fun W => rop_any s W)
  have HN := fun W (hW : Laid W) => iname_any hW op
  have HNr := fun W => rname4_any op W
  have HS := fun W => size_any op W
  have HSr := fun W => rsize_any op W
  have sn := str_toList (nameI op)
  generalize nameI op = nm at *
  generalize sizeN op = sz at *
  generalize opI s = os at *
  obtain ⟨o1, o2⟩ := os
  replace HN := hid HN
  replace HNr := hid HNr
  replace HS := hid HS
  replace HSr := hid HSr
  replace I0 := hid I0
  by_cases c1 : a < -1099511627776
  · clear HO HOr HN HNr HS HSr hL
    go_enter Tryd.func3, Tryd.ntmps3
    go_wp2_with (go_at_call 9; refine HK.out.mono ?_; rintro e w1 ⟨rfl, ho1⟩; obtain ⟨y0, y1, y2, y3⟩ := I0.out.only ho1 (by simp); simp only [Nat.zero_add] at y1 y2 y3)
    go_ret
    exact ⟨rfl, o0.next ho1 (by simp)⟩
  by_cases c2 : 1099511627776 < a
  · clear HO HOr HN HNr HS HSr hL
    go_enter Tryd.func3, Tryd.ntmps3
    go_wp2_with (go_at_call 9; refine HK.out.mono ?_; rintro e w1 ⟨rfl, ho1⟩; obtain ⟨y0, y1, y2, y3⟩ := I0.out.only ho1 (by simp); simp only [Nat.zero_add] at y1 y2 y3)
    go_ret
    exact ⟨rfl, o0.next ho1 (by simp)⟩
  by_cases c3 : z < -1099511627776
  · clear HO HOr HN HNr HS HSr hL
    go_enter Tryd.func3, Tryd.ntmps3
    go_wp2_with (go_at_call 9; refine HK.out.mono ?_; rintro e w1 ⟨rfl, ho1⟩; obtain ⟨y0, y1, y2, y3⟩ := I0.out.only ho1 (by simp); simp only [Nat.zero_add] at y1 y2 y3)
    go_ret
    exact ⟨rfl, o0.next ho1 (by simp)⟩
  by_cases c4 : 1099511627776 < z
  · clear HO HOr HN HNr HS HSr hL
    go_enter Tryd.func3, Tryd.ntmps3
    go_wp2_with (go_at_call 9; refine HK.out.mono ?_; rintro e w1 ⟨rfl, ho1⟩; obtain ⟨y0, y1, y2, y3⟩ := I0.out.only ho1 (by simp); simp only [Nat.zero_add] at y1 y2 y3)
    go_ret
    exact ⟨rfl, o0.next ho1 (by simp)⟩
  have HX := fun W => next_any (a, io, n, z) (by simp only; omega) W
  have HXr := fun W => rnext_any (a, io, n, z) (by simp only; omega) W
  have hXl : (nextR (a, io, n, z)).length ≤ 2 := by
    unfold nextR
    repeat' split
    all_goals simp
  generalize nextR (a, io, n, z) = X at *
  simp only [inV] at HX HXr
  replace HX := hid HX
  replace HXr := hid HXr
  have HZ := hid (fun W (aA aB : Option Addr) (cA cB dA dB : Nat) (hA : RS W aA (ics X) dA) (hB : RS W aB (ics X) dB) => sameInts_any (cap := cA) (bap := cB) hA hB (by omega))
  have hL' := hid hL
  clear hL
  go_enter Tryd.func3, Tryd.ntmps3
  go_wp2_with (first | (go_at_call 9; refine HK.out.mono ?_; rintro e w1 ⟨rfl, ho1⟩; obtain ⟨y0, y1, y2, y3⟩ := I0.out.only ho1 (by simp); simp only [Nat.zero_add] at y1 y2 y3) | (go_at_call 10; refine (HO.out _ (o0.next ho1 (by simp))).mono ?_; rintro e w2 ⟨rfl, rfl⟩) | (go_at_call 11; refine (HOr.out _).mono ?_; rintro e w3 ⟨rfl, ho3⟩) | fail)
  have hL3 := hL'.out.only ((o0.next ho1 (by simp)).next ho3 (by simp))
  have oo := (o0.next ho1 (by simp)).next ho3 (by simp)
  obtain ⟨y0, y1, y2, y3, _⟩ := keep_in (z := w2) ho3 ⟨y0, y1, y2, y3, hL'.out.only (o0.next ho1 (by simp)), Only.refl _ _⟩
  go_region_held3 (fun w' => w'.cell? ⟨w.heap.size, 0, none⟩ = some (.int .i64 a) ∧ w'.cell? ⟨w.heap.size, 1, none⟩ = some (.int .i64 io) ∧ w'.cell? ⟨w.heap.size, 2, none⟩ = some (.int .i64 n) ∧ w'.cell? ⟨w.heap.size, 3, none⟩ = some (.int .i64 z) ∧ Laid w' ∧ Only [] w w') (first | assumption | exact keep_in (by assumption) (by assumption) | exact ⟨y0, y1, y2, y3, hL3.only (Only.refl [] w3).drew, oo.drew⟩)
    (first
      | (go_at_call 12; with_reducible refine (HN.out _ ?_).mono ?_; (simp [*]); rintro e v1 ⟨rfl, rfl⟩)
      | (go_at_call 13; with_reducible refine (HNr.out _).mono ?_; rintro e v2 ⟨rfl, hv2⟩)
      | (go_at_call 14; with_reducible refine (HS.out _).mono ?_; rintro e v3 ⟨rfl, rfl⟩)
      | (go_at_call 15; with_reducible refine (HSr.out _).mono ?_; rintro e v4 ⟨rfl, rfl⟩)
      | (go_at_call 17; (with_reducible refine (HX.out _).mono ?_); rintro e v5 ⟨aoA, capA, rfl, hownA, hv5⟩)
      | (go_at_call 18; (with_reducible refine (HXr.out _).mono ?_); rintro e v6 ⟨aoB, capB, rfl, hownB, hv6⟩)
      | (go_at_call 16; (first | refine (HZ.out _ _ _ _ _ _ _ ((RS.of_owns hownA).1.only0 hv6) (RS.of_owns hownB).1).mono ?_ | refine (HZ.out _ _ _ _ _ _ _ (RS.of_owns hownA).1 ((RS.of_owns hownB).1.only0 hv5)).mono ?_); rintro e v7 ⟨rfl, hv7⟩))
  rename_i hS
  have oS := hS.2.2.2.2.2
  clear hS
  go_wp2
  go_ret
  exact ⟨by simp, oS⟩

theorem names_walk {w : World} (hL : Laid w) (op : Int) (s : List UInt8) (i : In) :
    Calls Tryd.prog 3 #[.int .i64 op, .string (str s), inV i] w fun e w' => e = .returned (.bool true) ∧ Below w.heap.size w w' :=
  (names_any hL op s i).mono fun _ _ h => ⟨h.1, h.2.below (Nat.le_refl _) (by simp)⟩

end Go.Proofs.YtemjhlhioeopnaaDoor
