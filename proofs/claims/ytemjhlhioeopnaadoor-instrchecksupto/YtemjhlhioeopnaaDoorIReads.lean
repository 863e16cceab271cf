/-
  The walk of InstrReads: it answers true of whatever bytes and place, and writes nothing that was there. The table of words holds the words.
-/
import Derived.Test.YtemjhlhioeopnaaDoorIKnown
import Derived.Test.YtemjhlhioeopnaaDoorIAll
import Derived.Test.YtemjhlhioeopnaaDoorIPure
namespace Go.Proofs.YtemjhlhioeopnaaDoor
open Go.RowKit

/-- A new row without elements. -/
theorem rows_made (w : World) (e : TypeId) (k : Nat) {b : Nat} (hb : b = w.heap.size) : (w.alloc (.cells #[] e)).ownsRow w.heap.size e k (.slice (some ⟨b, 0, none⟩) 0 0) 0 [] := by
  subst hb
  exact World.ownsRow_made w #[] 0 (Nat.le_refl _) (by decide) (by simp)

set_option maxHeartbeats 1000000 in
set_option maxRecDepth 100000 in
theorem reads_any {w : World} (hL : Laid w) {ao : Option Addr} {code : List UInt8} {d cap : Nat} (hB : RS w ao (bcs code) d) (hc : code.length ≤ cap) (hl : cap ≤ 9223372036854775807) (hn : ao = none → cap = 0) (at_ : Int) :
    Calls Tryd.prog 4 #[.slice ao code.length cap, .int .i64 at_] w fun e w' => e = .returned (.bool true) ∧ Only [] w w' := by
  have HK := hid (known_any hL)
  clear hL
  by_cases h5 : 5000 < code.length
  · have g1 : (5000 < (code.length : Int)) := by omega
    clear hB
    go_enter Tryd.func4, Tryd.ntmps4
    go_wp2_with (go_at_call 9; refine HK.out.mono ?_; rintro e w1 ⟨rfl, ho1⟩)
    go_ret
    exact ⟨rfl, ho1⟩
  have g1 : ¬ (5000 < (code.length : Int)) := by omega
  have HD := fun W (a : Option Addr) (c k : Nat) (hR : RS W a (bcs code) k) (h1 : code.length ≤ c) (h2 : c ≤ 9223372036854775807) => dec_any hR h1 h2 at_
  have HDr := fun W (a : Option Addr) (c k : Nat) (hR : RS W a (bcs code) k) (h1 : code.length ≤ c) (h2 : c ≤ 9223372036854775807) => rdec_any hR h1 h2 at_
  have HA := fun W (a : Option Addr) (c k : Nat) (hR : RS W a (bcs code) k) (h1 : code.length ≤ c) (h2 : c ≤ 9223372036854775807) => all_any hR h1 h2 (by omega)
  have HAr := fun W (a : Option Addr) (c k : Nat) (hR : RS W a (bcs code) k) (h1 : code.length ≤ c) (h2 : c ≤ 9223372036854775807) => rall_any hR h1 h2 (by omega)
  have hall : (allR code).1.length ≤ 9223372036854775807 := by have := all_len code; omega
  generalize decR code at_ = X at *
  generalize allR code = Y at *
  obtain ⟨⟨xa, xo, xn, xs⟩, xe⟩ := X
  obtain ⟨yl, ya, ye⟩ := Y
  have heq := eq_instr (xa, xo, xn, xs) (xa, xo, xn, xs)
  have HS := fun W (a b : Option Addr) (c k p q : Nat) (h1 : RS W a (qcs yl) p) (h2 : RS W b (qcs yl) q) => same_any (cap := c) (bap := k) h1 h2 hall
  simp only [decide_true, inV] at HD HDr HA HAr heq HS
  have hst := str_toList code
  replace HD := hid HD
  replace HDr := hid HDr
  replace HA := hid HA
  replace HAr := hid HAr
  replace HS := hid HS
  replace hB := hid hB
  clear hall
  go_enter Tryd.func4, Tryd.ntmps4
  go_wp2_with (first | (go_at_call 9; refine HK.out.mono ?_; rintro e w1 ⟨rfl, ho1⟩) | (at_builtin; refine wpList_append_any (ys := bcs code) rfl (.tmp 21) (.tmp 22) elByte Tryd.underlying33 rfl rfl rfl (rows_made w1 5 1 rfl) ((hB.out.only0 ho1).only0 ((Only.refl [] w1).alloc _)) (bcs_length _) (bcs_one _) hn (by omega) (by simp) ?_; rintro ao2 cap2 w2 hA2) | fail)
  have o2 := hid (ho1.next (hA2.next (rows_made w1 5 1 rfl) ((Only.refl [] w1).alloc _)) (by simp))
  have own2 := hA2.own
  simp only [Nat.zero_add, List.nil_append] at own2
  have hR2 := hid (RS.of_owns own2)
  have hc2 : code.length ≤ cap2 := hR2.out.2.1
  have hl2 : cap2 ≤ 9223372036854775807 := by have := hR2.out.2.2.1; simp only [maxLen] at this; omega
  clear hA2 own2
  refine (HD.out _ _ _ _ hR2.out.1 hc2 hl2).mono ?_
  rintro e w3 ⟨rfl, ho3⟩
  have P3 := hid (inAt_new w3 xa xo xn xs 23)
  have o3 := hid (ho3.alloc (.cells #[.int .i64 xa, .int .i64 xo, .int .i64 xn, .int .i64 xs] 23))
  clear HD HK
  go_wp2_with fail
  refine (HA.out _ _ _ _ (hR2.out.1.only0 o3.out) hc2 hl2).mono ?_
  rintro e w4 ⟨ao4, cap4, rfl, hown4, ho4⟩
  have R4 := hid (RS.of_owns hown4).1
  have P4 := hid (P3.out.only ho4 (by simp))
  have o4 := hid (o3.out.next ho4 (by simp))
  clear HA hown4 P3
  go_wp2_with fail
  refine (HDr.out _ _ _ _ ((hB.out.only0 o2.out).only0 o4.out) hc hl).mono ?_
  rintro e w5 ⟨rfl, ho5⟩
  have P5 := hid (inAt_new w5 xa xo xn xs 23)
  have o5 := hid (ho5.alloc (.cells #[.int .i64 xa, .int .i64 xo, .int .i64 xn, .int .i64 xs] 23))
  have P45 := hid (P4.out.only o5.out (by simp))
  clear HDr P4
  go_wp2_with fail
  refine (HAr.out _ _ _ _ (((hB.out.only0 o2.out).only0 o4.out).only0 o5.out) hc hl).mono ?_
  rintro e w6 ⟨ao6, cap6, rfl, hown6, ho6⟩
  have R6 := hid (RS.of_owns hown6).1
  have R46 := hid ((R4.out.only0 o5.out).only0 ho6)
  have o6 := hid ((o4.out.next o5.out (by simp)).next ho6 (by simp))
  have hcv1 := (hR2.out.1.only0 o6.out).conv cap2
  have hcv2 := ((hB.out.only0 o2.out).only0 o6.out).conv cap
  obtain ⟨p0, p1, p2, p3⟩ := P45.out.only ho6 (by simp)
  obtain ⟨q0, q1, q2, q3⟩ := P5.out.only ho6 (by simp)
  simp only [Nat.zero_add] at p1 p2 p3 q1 q2 q3
  have HS6 := hid (HS.out w6 ao4 ao6 cap4 cap6 _ _ R46.out R6.out)
  clear HAr hown6 HS R4 P45 P5 o3 o4 o5
  go_wp2_with (go_at_call 23; refine HS6.out.mono ?_; rintro e w7 ⟨rfl, ho7⟩)
  go_ret
  exact ⟨by simp, (o2.out.next o6.out (by simp)).next ho7 (by simp)⟩

theorem reads_walk {w : World} (hL : Laid w) {ao : Option Addr} {code : List UInt8} {d cap : Nat} (hB : RS w ao (bcs code) d) (hc : code.length ≤ cap) (hl : cap ≤ 9223372036854775807) (hn : ao = none → cap = 0) (at_ : Int) :
    Calls Tryd.prog 4 #[.slice ao code.length cap, .int .i64 at_] w fun e w' => e = .returned (.bool true) ∧ Below w.heap.size w w' :=
  (reads_any hL hB hc hl hn at_).mono fun _ _ h => ⟨h.1, h.2.below (Nat.le_refl _) (by simp)⟩

end Go.Proofs.YtemjhlhioeopnaaDoor
